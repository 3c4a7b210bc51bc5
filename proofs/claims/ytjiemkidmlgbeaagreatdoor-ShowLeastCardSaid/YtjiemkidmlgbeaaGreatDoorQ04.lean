/- A part of the proof: TNum, TBufU, TText, TTxt, TSgs, Tg. No condition. -/
import Derived.Lib.ParseIntBCases
import Derived.Laws.BitsAllLaws
import Derived.Deep.QuietTactic
import Derived.BigQuiet
import Derived.RegionTactic
import Derived.Maps.AppendAt
import Derived.Laws.AppendOwnNone
import Derived.Lib.BufferRead
import Derived.Lib.AppendStr
import Derived.Lib.UnsafeStr
import Derived.Laws.IdiomStrings
import Derived.Test.YtjiemkidmlgbeaaGreatDoorQ01
import Derived.Test.YtjiemkidmlgbeaaGreatDoorQ02
import Derived.Test.YtjiemkidmlgbeaaGreatDoorQ03
set_option linter.unusedVariables false
set_option linter.unusedSimpArgs false
namespace Go.Proofs.YtjiemkidmlgbeaaGreatDoor
open Go.RowKit Tok
theorem fold_ge : ∀ (l : List UInt8) (a : Nat), a ≤ l.foldl (fun x c => 10 * x + (c.toNat - 48)) a
 | [], a => Nat.le_refl _
 | c :: l, a => by
   have := fold_ge l (10 * a + (c.toNat - 48));simp only [List.foldl_cons];omega
theorem parseM : ∀ (l : List UInt8) (a : Nat), (∀ c ∈ l, digC c = true) → a ≤ 18446744073709551615 →
   (l.foldl (fun x c => 10 * x + (c.toNat - 48)) a ≤ 18446744073709551615 → Lib.parseUintM 18446744073709551615 a l = .ok (l.foldl (fun x c => 10 * x + (c.toNat - 48)) a)) ∧
   (18446744073709551615 < l.foldl (fun x c => 10 * x + (c.toNat - 48)) a → Lib.parseUintM 18446744073709551615 a l = .range)
 | [], a, _, ha => ⟨fun _ => rfl, fun h => by have h' : 18446744073709551615 < a := h; omega⟩
 | c :: l, a, h, ha => by
   have hc : 48 ≤ c.toNat ∧ c.toNat ≤ 57 := by simpa [digC] using h c (by simp)
   have hg := fold_ge l (10 * a + (c.toNat - 48));have e : a * 10 + (c.toNat - 48) = 10 * a + (c.toNat - 48) := by omega
   have hu : Lib.parseUintM 18446744073709551615 a (c :: l) = if 1844674407370955162 ≤ a then .range else if 18446744073709551615 < 10 * a + (c.toNat - 48) then .range else Lib.parseUintM 18446744073709551615 (10 * a + (c.toNat - 48)) l := by
     conv => lhs; unfold Lib.parseUintM
     rw [if_pos hc, e]
   rw [List.foldl_cons, hu];have ih := fun h2 => parseM l (10 * a + (c.toNat - 48)) (fun c hc => h c (by simp [hc])) h2
   constructor
   · intro hV
     rw [if_neg (by omega), if_neg (by omega)];exact (ih (by omega)).1 hV
   · intro hV
     by_cases h1 : 1844674407370955162 ≤ a
     · rw [if_pos h1]
     · rw [if_neg h1]
       by_cases h2 : 18446744073709551615 < 10 * a + (c.toNat - 48)
       · rw [if_pos h2]
       · rw [if_neg h2]
         exact (ih (by omega)).2 hV
theorem parse_digits {l : List UInt8} (h0 : l ≠ []) (h : ∀ c ∈ l, digC c = true) : Lib.parseIntB 64 l = if 9223372036854775807 < numV l then .range else .ok (numV l : Nat) := by
 match l, h0 with
 | c :: r, _ =>
   have hc : 48 ≤ c.toNat ∧ c.toNat ≤ 57 := by simpa [digC] using h c (by simp)
   rw [Lib.parseIntB_plain 64 c r (by omega) (by omega)];have hB : Lib.parseUintB 64 (c :: r) = Lib.parseUintM 18446744073709551615 0 (c :: r) := by
     unfold Lib.parseUintB;rw [if_neg (by simp)]
   rw [hB];have hp := parseM (c :: r) 0 h (by omega);have hV : numV (c :: r) = List.foldl (fun x c => 10 * x + (c.toNat - 48)) 0 (c :: r) := rfl;rw [← hV] at hp;by_cases h1 : numV (c :: r) ≤ 18446744073709551615
   · rw [hp.1 h1]
     unfold Lib.signlessC;simp only
     by_cases h2 : 9223372036854775807 < numV (c :: r)
     · rw [if_pos h2, if_pos (by omega)]
     · rw [if_neg h2, if_neg (by omega)]
   · rw [hp.2 (by omega), if_pos (by omega)]
     rfl
theorem numN_le (l : List UInt8) : numN l ≤ l.length := by
 match l with
 | [] => exact Nat.le_refl _
 | c :: r =>
   show (if c.toNat = 48 then 1 else span digC (c :: r)) ≤ _
   split
   · simp
   · exact span_le _
theorem numN_digits {c : UInt8} {r : List UInt8} (h : digC c = true) : 0 < numN (c :: r) ∧ ∀ b ∈ (c :: r).take (numN (c :: r)), digC b = true := by
 by_cases h0 : c.toNat = 48
 · have e : numN (c :: r) = 1 := if_pos h0
   rw [e];refine ⟨by omega, fun b hb => ?_⟩;simp at hb
   rw [hb]; exact h
 · have e : numN (c :: r) = span digC (c :: r) := if_neg h0
   rw [e];refine ⟨span_pos r h, fun b hb => ?_⟩;obtain ⟨i, hi, rfl⟩ := List.getElem_of_mem hb;rw [List.length_take] at hi;rw [List.getElem_take];exact span_in _ i (by omega)
def resV : Res → Value
 | .ok _ _ x n => .tuple #[.int .i64 x, .int .i64 n, .int .i64 0]
 | .bad n e => .tuple #[.int .i64 0, .int .i64 n, .int .i64 e]
def ErrR (w : World) : Prop := ∃ tp p, w.var? Tryz.prog "strconv.ErrRange" = some #[.iface tp p]
theorem list_take (s : ByteArray) (n : Nat) : (s.extract 0 n).data.toList = s.data.toList.take n := by
 rw [Lib.extract_data]; simp
theorem parse_call (s : ByteArray) (w : World) (hs : s.size ≤ 16384) (hE : ErrR w) (h0 : 0 < s.size) (hd : ∀ c ∈ s.data.toList, digC c = true) :
   Calls Tryz.prog 91 #[.string s, .int .i64 10, .int .i64 64] w fun e w' =>
     (if 9223372036854775807 < numV s.data.toList then ∃ v t p, e = .returned (.tuple #[.int .i64 v, .iface t (.pointer p)]) else e = .returned (.tuple #[.int .i64 (numV s.data.toList : Nat), .nilIface])) ∧ Below w.heap.size w w' := by
 have hne : s.data.toList ≠ [] := by
   intro e;have := size_list s;rw [e] at this;simp at this
   omega
 have hp := parse_digits hne hd;by_cases h : 9223372036854775807 < numV s.data.toList
 · rw [if_pos h] at hp
   obtain ⟨tp, p, hv⟩ := hE;refine (Tryz.strconv_ParseInt_10_at64_range_var s (by omega) hp tp p w hv).mono ?_;rintro e w' ⟨N, rfl, _, _, hb⟩;rw [if_pos h];exact ⟨⟨_, _, _, rfl⟩, hb⟩
 · rw [if_neg h] at hp
   refine (Tryz.strconv_ParseInt_10_at64_ok s (by omega) _ hp w).mono ?_;rintro e w' ⟨rfl, hw⟩;rw [if_neg h];refine ⟨rfl, ?_⟩;rcases hw with rfl | ⟨t, rfl⟩
   · exact Below.refl _ _
   · exact Lib.bytesWorld_below _ _ _
theorem dig_yes {s : ByteArray} (h : ∃ h : 0 < s.size, digC s[0] = true) : ∃ c r, s.data.toList = c :: r ∧ digC c = true := by
 obtain ⟨h0, h⟩ := h;have e : s.data.toList = s[0] :: s.data.toList.drop 1 := by
   have := List.drop_eq_getElem_cons (l := s.data.toList) (i := 0) (by rw [size_list]; exact h0);rw [List.drop_zero] at this;exact this
 exact ⟨_, _, e, h⟩
theorem numN_step {s : ByteArray} (h : ∃ h : 0 < s.size, digC s[0] = true) : ∃ h0 : 0 < s.size, (s[0].toNat = 48 → numN s.data.toList = 1) ∧ (s[0].toNat ≠ 48 → numN s.data.toList = span digC s.data.toList ∧ 0 < span digC s.data.toList) := by
 obtain ⟨h0, h⟩ := h;have e : s.data.toList = s[0] :: s.data.toList.drop 1 := by
   have := List.drop_eq_getElem_cons (l := s.data.toList) (i := 0) (by rw [size_list]; exact h0);rw [List.drop_zero] at this;exact this
 refine ⟨h0, fun h1 => ?_, fun h1 => ?_⟩
 · rw [e]; exact if_pos h1
 · have h2 : numN s.data.toList = span digC s.data.toList := by rw [e]; exact if_neg h1
   refine ⟨h2, ?_⟩;rw [e];exact span_pos _ h
theorem numT_big {l : List UInt8} (h : 9223372036854775807 < numV (l.take (numN l))) : numT l = .bad 0 2 := by
 unfold numT; rw [if_pos h]
theorem numT_fin {s : ByteArray} {n : Nat} (hn : n = numN s.data.toList) (h : ¬ 9223372036854775807 < numV (s.data.toList.take n)) :
   (∀ hi : n < s.size, wordC s[n] = true → numT s.data.toList = .bad n 9) ∧ ((∀ hi : n < s.size, wordC s[n] = false) → numT s.data.toList = .ok 2 [] (numV (s.data.toList.take n)) n) := by
 subst hn;unfold numT;rw [if_neg h];refine ⟨fun hi hw => ?_, fun hw => ?_⟩
 · rw [List.drop_eq_getElem_cons (by rw [size_list]; exact hi)]
   simp only
   exact if_pos hw
 · rcases Nat.lt_or_ge (numN s.data.toList) s.size with hi | hi
   · rw [List.drop_eq_getElem_cons (by rw [size_list]; exact hi)]
     simp only
     have := hw hi;exact if_neg (fun h2 => by rw [show s.data.toList[numN s.data.toList]'(by rw [size_list]; exact hi) = s[numN s.data.toList] from rfl, this] at h2; cases h2)
   · rw [List.drop_eq_nil_of_le (by rw [size_list]; exact hi)]
set_option maxRecDepth 20000 in
set_option maxHeartbeats 1000000 in
theorem number_any (s : ByteArray) (w : World) (hs : s.size ≤ 16384) (hE : ErrR w) (hd : ∃ h : 0 < s.size, digC s[0] = true) :
   Calls Tryz.prog 73 #[.string s] w fun e w' => e = .returned (resV (numT s.data.toList)) ∧ Below w.heap.size w w' := by
 obtain ⟨h0, hz, hnz⟩ := numN_step hd;have hle := numN_le s.data.toList;rw [size_list] at hle;have hdig : ∀ b ∈ s.data.toList.take (numN s.data.toList), digC b = true := by
   obtain ⟨c, r, e, hc⟩ := dig_yes hd;rw [e]; exact (numN_digits hc).2
 have hpos : 0 < numN s.data.toList := by
   obtain ⟨c, r, e, hc⟩ := dig_yes hd;rw [e]; exact (numN_digits hc).1
 have hpc := Lib.hid (fun w1 (hE1 : ErrR w1) => parse_call (s.extract 0 (numN s.data.toList)) w1 (by rw [extract_size]; omega) hE1 (by rw [extract_size]; omega) (by rw [list_take]; exact hdig));have hfin := Lib.hid (fun h => numT_fin (s := s) (n := numN s.data.toList) rfl h);have hbig := Lib.hid (fun h => numT_big (l := s.data.toList) h);rw [list_take] at hpc;have hyes := Lib.hid (fun i => span_yes (p := digC) (s := s) (i := i));have hno := Lib.hid (fun i => span_no (p := digC) (s := s) (i := i));have hnz' := Lib.hid hnz;generalize hn : numN s.data.toList = n at *;generalize hv : numV (s.data.toList.take n) = V at *;replace hn := Lib.hid hn;replace hv := Lib.hid hv;replace hE := Lib.hid hE;replace hdig := Lib.hid hdig;generalize hR : numT s.data.toList = R at *;replace hR := Lib.hid hR;by_cases h48 : s[0].toNat = 48
 · have h1 := hz h48
   subst h1;clear hz hnz hnz';have h48' : (((s[0].toNat : Nat) : Int) != 48) = false := by rw [h48]; rfl
   replace h48 := Lib.hid h48;go_enter Tryz.func73, Tryz.ntmps73
   go_wp2_with fail
   refine (hpc.out w hE.out).mono ?_;rintro e w1 ⟨he, hb1⟩;by_cases hV : 9223372036854775807 < V
   · rw [if_pos hV] at he
     obtain ⟨v, t, p, rfl⟩ := he;have hR2 := hbig.out hV;go_wp2
     go_ret3
     exact ⟨by rw [hR2]; rfl, hb1⟩
   · rw [if_neg hV] at he
     subst he;have hf := Lib.hid (hfin.out hV);rcases Nat.lt_or_ge 1 s.size with hi2 | hi2
     · rcases hw : wordC s[1] with _ | _
       · have k1 := Lib.hid (calls_at (isOfWord_any s[1] w1) hw)
         have hR2 := Lib.hid (hf.out.2 (fun _ => hw));clear hw;go_wp2_with fail
         refine k1.out.mono ?_;rintro e w2 ⟨rfl, rfl⟩;go_wp2
         go_ret3
         exact ⟨by rw [hR2.out]; rfl, hb1⟩
       · have k1 := Lib.hid (calls_at (isOfWord_any s[1] w1) hw)
         have hR2 := Lib.hid (hf.out.1 hi2 hw);clear hw;go_wp2_with fail
         refine k1.out.mono ?_;rintro e w2 ⟨rfl, rfl⟩;go_wp2
         go_ret3
         exact ⟨by rw [hR2.out]; rfl, hb1⟩
     · have hR2 := Lib.hid (hf.out.2 (fun h => by omega))
       have hi3 : ¬ ((1 : Nat) : Int) < (s.size : Int) := by omega
       go_wp2
       go_ret3
       exact ⟨by rw [hR2.out]; rfl, hb1⟩
 · obtain ⟨h1, h2⟩ := hnz h48
   clear hz hnz hnz';have h48' : (((s[0].toNat : Nat) : Int) != 48) = true := by simp; omega
   rw [← h1] at hyes hno;replace h48 := Lib.hid h48;clear h1 h2;go_enter Tryz.func73, Tryz.ntmps73
   go_wp2
   go_loop [3] (fun t3 => ∃ i : Nat, 1 ≤ i ∧ i ≤ n ∧ t3 = .int .i64 i) (fun t3 => n - (intOf t3).toNat)
   case atStart => exact ⟨1, by omega, by omega, rfl⟩
   case round =>
     obtain ⟨i, hi1, hi, rfl⟩ := hrel;rcases Nat.lt_or_ge i n with hlt | hge
     · obtain ⟨hi2, hp⟩ := hyes.out i hlt
       have k1 := Lib.hid (calls_at (isDigit_any s[i] w) hp);clear hp;go_wp2_with (first | (with_reducible refine k1.out.mono ?_; rintro e w' ⟨rfl, rfl⟩))
       go_round
       case rel => exact ⟨i + 1, by omega, by omega, by go_num⟩
       case measure => simp [intOf]; omega
     · obtain rfl : i = n := by omega
       rcases Nat.lt_or_ge i s.size with hi2 | hi2
       · have hp := hno.out i rfl hi2
         have k1 := Lib.hid (calls_at (isDigit_any s[i] w) hp);clear hp;go_wp2_with fail
         refine k1.out.mono ?_;rintro e w' ⟨rfl, rfl⟩;go_wp2_with fail
         refine (hpc.out _ hE.out).mono ?_;rintro e w1 ⟨he, hb1⟩;by_cases hV : 9223372036854775807 < V
         · rw [if_pos hV] at he
           obtain ⟨v, t, p, rfl⟩ := he;have hR2 := hbig.out hV;go_wp2
           go_ret3
           exact ⟨by rw [hR2]; rfl, hb1⟩
         · rw [if_neg hV] at he
           subst he;have hf := Lib.hid (hfin.out hV);rcases Nat.lt_or_ge i s.size with hi2 | hi2
           · rcases hw : wordC s[i] with _ | _
             · have k1 := Lib.hid (calls_at (isOfWord_any s[i] w1) hw)
               have hR2 := Lib.hid (hf.out.2 (fun _ => hw));clear hw;go_wp2_with fail
               refine k1.out.mono ?_;rintro e w2 ⟨rfl, rfl⟩;go_wp2
               go_ret3
               exact ⟨by rw [hR2.out]; rfl, hb1⟩
             · have k1 := Lib.hid (calls_at (isOfWord_any s[i] w1) hw)
               have hR2 := Lib.hid (hf.out.1 hi2 hw);clear hw;go_wp2_with fail
               refine k1.out.mono ?_;rintro e w2 ⟨rfl, rfl⟩;go_wp2
               go_ret3
               exact ⟨by rw [hR2.out]; rfl, hb1⟩
           · omega
       · have hi3 : ¬ ((i : Nat) : Int) < (s.size : Int) := by omega
         go_wp2_with fail
         refine (hpc.out w hE.out).mono ?_;rintro e w1 ⟨he, hb1⟩;by_cases hV : 9223372036854775807 < V
         · rw [if_pos hV] at he
           obtain ⟨v, t, p, rfl⟩ := he;have hR2 := hbig.out hV;go_wp2
           go_ret3
           exact ⟨by rw [hR2]; rfl, hb1⟩
         · rw [if_neg hV] at he
           subst he;have hf := Lib.hid (hfin.out hV);rcases Nat.lt_or_ge i s.size with hi2 | hi2
           · omega
           · have hR2 := Lib.hid (hf.out.2 (fun h => by omega))
             go_wp2
             go_ret3
             exact ⟨by rw [hR2.out]; rfl, hb1⟩
end Go.Proofs.YtjiemkidmlgbeaaGreatDoor
namespace Go.Proofs.YtjiemkidmlgbeaaGreatDoor
open Go.RowKit
theorem byte_all {p : UInt8 → Prop} (h : ∀ n, n < 256 → p n.toUInt8) (c : UInt8) : p c := by
 have := h c.toNat (UInt8.toNat_lt c)
 simpa using this
def BufU (w : World) (base : Nat) (v : Value) (l : List UInt8) : Prop := w.ownsRow base 5 1 v l.length (Lib.byteCells l)
theorem u8_info : (Tryz.prog.info? 5).map (fun i => (i.zero, i.size, i.bytes)) = some (some (.int .u8 0), 1, 1) := by kernel_rfl
theorem u8_parts : ∃ i0, Tryz.prog.info? 5 = some i0 ∧ i0.zero = some (.int .u8 0) ∧ i0.size = 1 ∧ i0.bytes = 1 := by
 have h := u8_info;cases hi : Tryz.prog.info? 5 with
 | none => rw [hi] at h; simp at h
 | some i0 =>
   rw [hi] at h;simp at h
   exact ⟨i0, rfl, h.1, h.2.1, h.2.2⟩
theorem byteCells_snoc (l : List UInt8) (c : UInt8) : Lib.byteCells (l ++ [c]) = Lib.byteCells l ++ [.int .u8 (c.toNat : Int)] := by simp [Lib.byteCells]
theorem byteCells_one (l : List UInt8) : ∀ u ∈ Lib.byteCells l, u.oneCell' = true := by
 intro u hu;simp only [Lib.byteCells, List.mem_map] at hu;obtain ⟨b, _, rfl⟩ := hu;rfl
section
variable {w W : World} {base : Nat} {v : Value} {l : List UInt8}
theorem BufU.nil (w : World) (base : Nat) : BufU w base (.slice none 0 0) [] := World.ownsRow_nil _ _ _ _
theorem BufU.below (h : BufU w base v l) (hb : Below w.heap.size w W) : BufU W base v l := ownsRow_only (F := fun _ => False) h (Only.of_below hb) (fun _ _ h => h)
theorem BufU.shape (h : BufU w base v l) : ∃ a cap, v = .slice a l.length cap ∧ l.length ≤ cap ∧ cap ≤ 9223372036854775807 := ownsRow_shape h
theorem BufU.string (h : BufU w base v l) : (convert 56 9 v).run Tryz.prog w = .ok (.string ⟨l.toArray⟩) w := by
 rcases h.2 with ⟨hv, h0⟩ | ⟨g, cap, cur, hv, hb, hg, hnc, hcm, hsz, ht⟩
 · have h1 : l = [] := List.eq_nil_of_length_eq_zero h0
   subst h1;rw [hv];exact Lib.run_convert_nil_bytes w _ _ _ 0 Tryz.underlying56 Tryz.underlying5 Tryz.underlying9
 · have hh := h
   unfold BufU at hh;rw [hv] at hh ⊢;refine run_convert_bytes_back w _ _ 5 ⟨g, 0, none⟩ cap l Tryz.underlying56 Tryz.underlying5 Tryz.underlying9 (fun j hj => ?_);rw [show (⟨g, 0, none⟩ : Addr).add j = ⟨g, j, none⟩ by simp [Addr.add]; omega, World.ownsRow.cellAt (g := g) (cap := cap) hh j (by omega)];simp [Lib.byteCells, List.getElem?_eq_getElem hj]
theorem wpList_append_u8 {ops : Array Oper} {rest : List Oper} {o : Oper} {a : Act} {Q : Exit → Act → World → Prop} (hgd : o.guard = none) (s x : Operand) (T : TypeId) (hT : Tryz.prog.underlying T = some (.slice 5))
   (ho : o.op = .call { callee := .builtin .append, args := #[s, x], argTypes := #[T, T] })
   (hs : a.eval s = v) (hown : BufU w base v l) {c : UInt8} {w2 : World} (hw : w = w2.alloc (.cells #[.int .u8 (c.toNat : Int)] 5)) (hx : a.eval x = .slice (some ⟨w2.heap.size, 0, none⟩) 1 1)
   (hk : l.length ≤ 1000000000) (hbase : base ≤ w.heap.size)
   (h : ∀ a' cap w', BufU w' base (.slice a' (l.length + 1) cap) (l ++ [c]) → Below base w w' → wpList Tryz.prog ops Q rest (a.put o.dst (.slice a' (l.length + 1) cap)) w') : wpList Tryz.prog ops Q (o :: rest) a w := by
 obtain ⟨i0, hi, hz0, hz1, hz2⟩ := u8_parts;subst hw;refine wpList_append_own_at _ hgd s x T ho base 5 i0 (.int .u8 0) 1 1 hT hi hz0 hz1 hz2 rfl (by decide) v l.length (Lib.byteCells l) hs hown ⟨w2.heap.size, 0, none⟩ 1 1 [.int .u8 (c.toNat : Int)] hx rfl (cell_one_new _ _ _) (fun y hy => by simp at hy; subst hy; rfl) (by unfold maxLen; omega) (by omega) hbase ?_;intro v' w' h2 h3 _ _;obtain ⟨a', cap, rfl, _⟩ := ownsRow_shape h2;refine h a' cap w' ?_ ((Below.refl base _).grown h3 hbase (fun k hk => (World.ownsRow.lt hown k hk).1));unfold BufU;rw [byteCells_snoc, List.length_append];exact h2
end
end Go.Proofs.YtjiemkidmlgbeaaGreatDoor
namespace Go.Proofs.YtjiemkidmlgbeaaGreatDoor
open Go.RowKit Tok
def itemV : Tok.Item → Value
 | .ok c n => .tuple #[.int .u8 (c.toNat : Int), .int .i64 n, .int .i64 0]
 | .bad n e => .tuple #[.int .u8 0, .int .i64 n, .int .i64 e]
theorem hex_index (c : UInt8) : Lib.indexByte [48, 49, 50, 51, 52, 53, 54, 55, 56, 57, 97, 98, 99, 100, 101, 102] c = match hexV c with | some x => (x : Int) | none => -1 := by
 revert c
 refine byte_all ?_
 decide +kernel
theorem hexV_le (c : UInt8) {x : Nat} (h : hexV c = some x) : x ≤ 15 := by
 unfold hexV digC at h
 repeat' split at h
 all_goals first
   | (injection h; simp at *; omega)
   | (cases h)
theorem at_drop {s : ByteArray} {i : Nat} (h : i < s.size) : s.data.toList.drop i = s[i] :: s.data.toList.drop (i + 1) := List.drop_eq_getElem_cons (l := s.data.toList) (i := i) (by rw [size_list]; exact h)
theorem no_drop {s : ByteArray} {i : Nat} (h : s.size ≤ i) : s.data.toList.drop i = [] := List.drop_eq_nil_of_le (by rw [size_list]; exact h)
theorem idx_some {s : ByteArray} {i : Nat} (h : i < s.size) {x : Nat} (hx : hexV s[i] = some x) (w : World) :
   Calls Tryz.prog 118 #[.string ⟨#[48, 49, 50, 51, 52, 53, 54, 55, 56, 57, 97, 98, 99, 100, 101, 102]⟩, .int .u8 (s[i].toNat : Int)] w fun e w' => e = .returned (.int .i64 (x : Int)) ∧ w' = w := by
 have := Tryz.strings_IndexByte ⟨#[48, 49, 50, 51, 52, 53, 54, 55, 56, 57, 97, 98, 99, 100, 101, 102]⟩ (s[i].toNat : Int) w;have e : ((s[i].toNat : Int)).toNat.toUInt8 = s[i] := by simp
 rw [e, hex_index, hx] at this;exact this
theorem idx_none {s : ByteArray} {i : Nat} (h : i < s.size) (hx : hexV s[i] = none) (w : World) :
   Calls Tryz.prog 118 #[.string ⟨#[48, 49, 50, 51, 52, 53, 54, 55, 56, 57, 97, 98, 99, 100, 101, 102]⟩, .int .u8 (s[i].toNat : Int)] w fun e w' => e = .returned (.int .i64 (-1)) ∧ w' = w := by
 have := Tryz.strings_IndexByte ⟨#[48, 49, 50, 51, 52, 53, 54, 55, 56, 57, 97, 98, 99, 100, 101, 102]⟩ (s[i].toNat : Int) w;have e : ((s[i].toNat : Int)).toNat.toUInt8 = s[i] := by simp
 rw [e, hex_index, hx] at this;exact this
theorem or_all : ∀ x : Nat, x < 16 → ∀ y : Nat, y < 16 → bits BinOp.or IntKind.u8 ((x : Int) * 16) (y : Int) = ((16 * x + y : Nat) : Int) := by decide +kernel
theorem hexT_none {s : ByteArray} (h : s.size ≤ 2) : hexT (s.data.toList.drop 2) = .bad 2 4 := by rw [no_drop h]; rfl
theorem hexT_one {s : ByteArray} {x : Nat} (h2 : 2 < s.size) (hx : hexV s[2] = some x) (h : s.size ≤ 3) : hexT (s.data.toList.drop 2) = .bad 3 4 := by
 rw [at_drop h2, no_drop h]; simp [hexT, hx]
theorem hexT_bad {s : ByteArray} {x : Nat} (h2 : 2 < s.size) (hx : hexV s[2] = some x) (h : 3 < s.size) (hy : hexV s[3] = none) : hexT (s.data.toList.drop 2) = .bad 3 9 := by
 rw [at_drop h2, at_drop h]; simp [hexT, hx, hy]
theorem hexT_two {s : ByteArray} {x y : Nat} (h2 : 2 < s.size) (hx : hexV s[2] = some x) (h : 3 < s.size) (hy : hexV s[3] = some y) : hexT (s.data.toList.drop 2) = .ok (16 * x + y).toUInt8 4 := by
 rw [at_drop h2, at_drop h]; simp [hexT, hx, hy]
set_option maxRecDepth 20000 in
set_option maxHeartbeats 1000000 in
theorem hex_any (s : ByteArray) (w : World) (hs : s.size ≤ 16384) (h2 : 2 ≤ s.size) :
   Calls Tryz.prog 104 #[.string s] w fun e w' => e = .returned (itemV (hexT (s.data.toList.drop 2))) ∧ w' = w := by
 obtain ⟨R, hR⟩ := exHid (hexT (s.data.toList.drop 2));rw [hR.out];go_enter Tryz.func104, Tryz.ntmps104
 go_wp2
 go_loop [2, 3] (fun t2 t3 => ∃ k c : Nat, t3 = .int .i64 k ∧ t2 = .int .u8 c ∧ ((k = 2 ∧ c = 0) ∨ (k = 3 ∧ ∃ h : 2 < s.size, hexV s[2] = some c) ∨ (k = 4 ∧ ∃ (h : 3 < s.size) (x y : Nat), hexV s[2] = some x ∧ hexV s[3] = some y ∧ c = 16 * x + y))) (fun _ t3 => 4 - (intOf t3).toNat)
 case atStart => exact ⟨2, 0, rfl, rfl, .inl ⟨rfl, rfl⟩⟩
 case round =>
   obtain ⟨k, c, rfl, rfl, hst⟩ := hrel;rcases hst with ⟨rfl, rfl⟩ | ⟨rfl, h3, hx⟩ | ⟨rfl, h4, x, y, hx, hy, rfl⟩
   · rcases Nat.lt_or_ge 2 s.size with h | h
     · have hb : (((2 : Nat) : Int) == (s.size : Int)) = false := beq_eq_false_iff_ne.2 (by omega)
       rcases hx : hexV s[2] with _ | x
       · have k1 := Lib.hid (idx_none h hx w)
         have hRv : R = .bad 2 9 := by rw [← hR.out, at_drop h]; simp [hexT, hx]
         clear hx;go_wp2_with fail
         refine k1.out.mono ?_;rintro e w2 ⟨rfl, rfl⟩;go_wp2
         go_ret3
         exact ⟨by first | (rw [hRv]; rfl) | rfl, rfl⟩
       · have k1 := Lib.hid (idx_some h hx w)
         have hx15 := hexV_le _ hx;replace hx := Lib.hid hx;go_wp2_with fail
         refine k1.out.mono ?_;rintro e w2 ⟨rfl, rfl⟩;go_wp2
         go_round
         case rel => exact ⟨3, x, rfl, by have := or_all 0 (by omega) x (by omega); simpa using this, .inr (.inl ⟨rfl, h, hx.out⟩)⟩
         case measure => simp [intOf]
     · have hRv : R = .bad 2 4 := by rw [← hR.out, hexT_none h]
       have hb : (((2 : Nat) : Int) == (s.size : Int)) = true := beq_iff_eq.2 (by omega);go_wp2
       go_ret3
       exact ⟨by first | (rw [hRv]; rfl) | rfl, rfl⟩
   · have hx15 := hexV_le _ hx
     rcases Nat.lt_or_ge 3 s.size with h | h
     · have hb : (((3 : Nat) : Int) == (s.size : Int)) = false := beq_eq_false_iff_ne.2 (by omega)
       rcases hy : hexV s[3] with _ | y
       · have k1 := Lib.hid (idx_none h hy w)
         have hRv : R = .bad 3 9 := by rw [← hR.out, hexT_bad h3 hx h hy]
         clear hy hx;go_wp2_with fail
         refine k1.out.mono ?_;rintro e w2 ⟨rfl, rfl⟩;go_wp2
         go_ret3
         exact ⟨by first | (rw [hRv]; rfl) | rfl, rfl⟩
       · have k1 := Lib.hid (idx_some h hy w)
         have hy15 := hexV_le _ hy;replace hx := Lib.hid hx;replace hy := Lib.hid hy;go_wp2_with fail
         refine k1.out.mono ?_;rintro e w2 ⟨rfl, rfl⟩;go_wp2
         go_round
         case rel => exact ⟨4, 16 * c + y, rfl, congrArg _ (or_all c (by omega) y (by omega)), .inr (.inr ⟨rfl, h, c, y, hx.out, hy.out, rfl⟩)⟩
         case measure => simp [intOf]
     · have hRv : R = .bad 3 4 := by rw [← hR.out, hexT_one h3 hx h]
       have hb : (((3 : Nat) : Int) == (s.size : Int)) = true := beq_iff_eq.2 (by omega);clear hx;go_wp2
       go_ret3
       exact ⟨by first | (rw [hRv]; rfl) | rfl, rfl⟩
   · have hx15 := hexV_le _ hx
     have hy15 := hexV_le _ hy;have hRv : R = .ok (16 * x + y).toUInt8 4 := by rw [← hR.out, hexT_two (by omega) hx h4 hy]
     have hv : itemV (.ok (16 * x + y).toUInt8 4) = .tuple #[.int .u8 (16 * (x : Int) + (y : Int)), .int .i64 4, .int .i64 0] := by
       have h1 : ((16 * x + y).toUInt8.toNat : Int) = 16 * (x : Int) + (y : Int) := by simp; omega
       show Value.tuple #[.int .u8 ((16 * x + y).toUInt8.toNat : Int), .int .i64 4, .int .i64 0] = _
       rw [h1]
     replace hx := Lib.hid hx;replace hy := Lib.hid hy;replace hRv := Lib.hid hRv;replace hv := Lib.hid hv;go_wp2
     go_ret3
     exact ⟨by rw [hRv.out, hv.out]; rfl, rfl⟩
set_option maxRecDepth 20000 in
set_option maxHeartbeats 1000000 in
theorem saidByte_any (s : ByteArray) (w : World) (hs : s.size ≤ 16384) (h0 : 0 < s.size) :
   Calls Tryz.prog 92 #[.string s] w fun e w' => e = .returned (itemV (itemT s[0] (s.data.toList.drop 1))) ∧ w' = w := by
 obtain ⟨R, hR⟩ := exHid (itemT s[0] (s.data.toList.drop 1));rw [hR.out];rcases hp : plainC s[0] with _ | _
 · have k1 := Lib.hid (calls_at (isPlain_any s[0] w) hp)
   have hRv : R = .bad 0 9 := by rw [← hR.out]; unfold itemT; rw [if_pos hp]
   clear hp;go_enter Tryz.func92, Tryz.ntmps92
   go_wp2_with fail
   refine k1.out.mono ?_;rintro e w2 ⟨rfl, rfl⟩;go_wp2
   go_ret3
   exact ⟨by first | (rw [hRv]; rfl) | rfl, rfl⟩
 · have k1 := Lib.hid (calls_at (isPlain_any s[0] w) hp)
   by_cases h92 : s[0].toNat = 92
   · have hb : (((s[0].toNat : Nat) : Int) != 92) = false := by rw [h92]; rfl
     rcases Nat.lt_or_ge 1 s.size with h1 | h1
     · have hRi : R = if s[1].toNat = 34 ∨ s[1].toNat = 92 then .ok s[1] 2 else if s[1].toNat = 110 then .ok 10 2 else if s[1].toNat = 120 then hexT (s.data.toList.drop 2) else .bad 1 9 := by
         rw [← hR.out, at_drop h1]; unfold itemT; simp [hp, h92]
       have k2 := Lib.hid (fun (h2 : 2 ≤ s.size) => hex_any s w hs h2);replace hRi := Lib.hid hRi;replace h92 := Lib.hid h92;clear hp;go_enter Tryz.func92, Tryz.ntmps92
       by_cases c34 : s[1].toNat = 34
       · have q1 : (((s[1].toNat : Nat) : Int) == 34) = true := by rw [c34]; rfl
         replace c34 := Lib.hid c34;go_wp2_with fail
         refine k1.out.mono ?_;rintro e w2 ⟨rfl, rfl⟩;go_wp2
         go_ret3
         exact ⟨by rw [hRi.out, if_pos (.inl c34.out)]; rfl, rfl⟩
       · have q1 : (((s[1].toNat : Nat) : Int) == 34) = false := beq_eq_false_iff_ne.2 (by omega)
         by_cases c92 : s[1].toNat = 92
         · have q2 : (((s[1].toNat : Nat) : Int) == 92) = true := by rw [c92]; rfl
           replace c92 := Lib.hid c92;go_wp2_with fail
           refine k1.out.mono ?_;rintro e w2 ⟨rfl, rfl⟩;go_wp2
           go_ret3
           exact ⟨by rw [hRi.out, if_pos (.inr c92.out)]; rfl, rfl⟩
         · have q2 : (((s[1].toNat : Nat) : Int) == 92) = false := beq_eq_false_iff_ne.2 (by omega)
           have hRj := hRi.out;rw [if_neg (by omega)] at hRj;by_cases c110 : s[1].toNat = 110
           · have q3 : (((s[1].toNat : Nat) : Int) == 110) = true := by rw [c110]; rfl
             rw [if_pos c110] at hRj;replace hRj := Lib.hid hRj;replace c110 := Lib.hid c110;go_wp2_with fail
             refine k1.out.mono ?_;rintro e w2 ⟨rfl, rfl⟩;go_wp2
             go_ret3
             exact ⟨by rw [hRj.out]; rfl, rfl⟩
           · have q3 : (((s[1].toNat : Nat) : Int) == 110) = false := beq_eq_false_iff_ne.2 (by omega)
             rw [if_neg c110] at hRj;by_cases c120 : s[1].toNat = 120
             · have q4 : (((s[1].toNat : Nat) : Int) == 120) = true := by rw [c120]; rfl
               rw [if_pos c120] at hRj;have k3 := Lib.hid (hex_any s w hs (by omega));rw [← hRj] at k3;replace hRj := Lib.hid hRj;replace c120 := Lib.hid c120;go_wp2_with fail
               refine k1.out.mono ?_;rintro e w2 ⟨rfl, rfl⟩;go_wp2_with fail
               refine k3.out.mono ?_;rintro e w2 ⟨rfl, rfl⟩;clear hRj hRi hR k3;cases R
               all_goals
                 unfold itemV;go_wp2
                 go_ret3
                 exact ⟨rfl, rfl⟩
             · have q4 : (((s[1].toNat : Nat) : Int) == 120) = false := beq_eq_false_iff_ne.2 (by omega)
               rw [if_neg c120] at hRj;replace hRj := Lib.hid hRj;go_wp2_with fail
               refine k1.out.mono ?_;rintro e w2 ⟨rfl, rfl⟩;go_wp2
               go_ret3
               exact ⟨by rw [hRj.out]; rfl, rfl⟩
     · have hRv : R = .bad 1 4 := by rw [← hR.out, no_drop h1]; unfold itemT; simp [hp, h92]
       have hb1 : ((s.size : Int) == 1) = true := beq_iff_eq.2 (by omega);replace h92 := Lib.hid h92;replace hRv := Lib.hid hRv;clear hp;go_enter Tryz.func92, Tryz.ntmps92
       go_wp2_with fail
       refine k1.out.mono ?_;rintro e w2 ⟨rfl, rfl⟩;go_wp2
       go_ret3
       exact ⟨by rw [hRv.out]; rfl, rfl⟩
   · have hb : (((s[0].toNat : Nat) : Int) != 92) = true := by simp; omega
     have hRv : R = .ok s[0] 1 := by rw [← hR.out]; unfold itemT; simp [hp, h92]
     replace hRv := Lib.hid hRv;clear hp;go_enter Tryz.func92, Tryz.ntmps92
     go_wp2_with fail
     refine k1.out.mono ?_;rintro e w2 ⟨rfl, rfl⟩;go_wp2
     go_ret3
     exact ⟨by rw [hRv.out]; rfl, rfl⟩
end Go.Proofs.YtjiemkidmlgbeaaGreatDoor
namespace Go.Proofs.YtjiemkidmlgbeaaGreatDoor
open Go.RowKit Tok
def txtV : Res → Value
 | .ok _ tx _ n => .tuple #[.string ⟨tx.toArray⟩, .int .i64 n, .int .i64 0]
 | .bad n e => .tuple #[.string ⟨#[]⟩, .int .i64 n, .int .i64 e]
theorem hexT_le {r : List UInt8} {b : UInt8} {n : Nat} (h : hexT r = .ok b n) : n ≤ r.length + 2 := by
 match r with
 | [] => simp [hexT] at h
 | [e] => simp only [hexT] at h; split at h <;> simp at h
 | e :: f :: r =>
   simp only [hexT] at h
   repeat' split at h
   all_goals first
     | (simp at h; done)
     | (simp at h; simp; omega)
theorem hexT_code {r : List UInt8} {i e : Nat} (h : hexT r = .bad i e) : (e = 4 ∨ e = 9) ∧ i ≤ 3 := by
 unfold hexT at h
 repeat' split at h
 all_goals first
   | (cases h; omega)
   | (cases h)
theorem itemT_code {c : UInt8} {r : List UInt8} {i e : Nat} (h : itemT c r = .bad i e) : (e = 4 ∨ e = 9) ∧ i ≤ 3 := by
 unfold itemT at h
 repeat' split at h
 all_goals first
   | (cases h; omega)
   | (cases h; done)
   | (exact hexT_code h)
theorem itemT_le {c : UInt8} {r : List UInt8} {b : UInt8} {n : Nat} (h : itemT c r = .ok b n) : n ≤ r.length + 1 := by
 unfold itemT at h;split at h
 · cases h
 · split at h
   · cases h; omega
   · match r, h with
     | [], h => cases h
     | d :: r, h =>
       dsimp only at h;split at h
       · cases h; simp
       · split at h
         · cases h; simp
         · split at h
           · have := hexT_le h; simp; omega
           · cases h
theorem sub_at {s : ByteArray} {n : Nat} (h : n < s.size) : ∃ h0 : 0 < (s.extract n s.size).size, (s.extract n s.size)[0] = s[n] ∧ (s.extract n s.size).data.toList.drop 1 = s.data.toList.drop (n + 1) := by
 have e : (s.extract n s.size).data.toList = s.data.toList.drop n := Lib.extract_to_end s n;have hsz : (s.extract n s.size).size = s.size - n := by simp
 refine ⟨by omega, ?_, by rw [e, List.drop_drop]⟩;have h1 : (s.extract n s.size).data.toList[0]'(by rw [size_list]; omega) = s[n] := by
   simp only [e, List.getElem_drop];rfl
 exact h1
set_option maxRecDepth 20000 in
set_option maxHeartbeats 2000000 in
theorem text_any (s : ByteArray) (w : World) (hs : s.size ≤ 16384) (h0 : 0 < s.size) :
   Calls Tryz.prog 74 #[.string s] w fun e w' => e = .returned (txtV (textT s.data.toList)) ∧ Below w.heap.size w w' := by
 obtain ⟨R, hR⟩ := exHid (textT s.data.toList);rw [hR.out];go_enter Tryz.func74, Tryz.ntmps74
 go_wp2
 go_loopw [3, 5, 6, 7, 8] (fun t3 t5 _ _ _ wr => ∃ (n : Nat) (acc : List UInt8), 1 ≤ n ∧ n ≤ s.size ∧ t3 = .int .i64 n ∧ acc.length ≤ 4095 ∧ Hid (BufU wr w.heap.size t5 acc) ∧ Hid (Below w.heap.size w wr) ∧ Hid (textR (s.data.toList.drop n) acc n = R)) (fun t3 _ _ _ _ _ => s.size - (intOf t3).toNat)
 case atStart => exact ⟨1, [], by omega, by omega, rfl, by simp, BufU.nil _ _, Below.refl _ _, hR⟩
 case round =>
   obtain ⟨n, acc, hn1, hn, rfl, hacc, hB, hb, hT⟩ := hrel;rcases Nat.lt_or_ge n s.size with hlt | hge
   · have hlti : (n : Int) < (s.size : Int) := by omega
     have hT' := hT.out;rw [at_drop hlt] at hT';by_cases c34 : s[n].toNat = 34
     · have q1 : (((s[n].toNat : Nat) : Int) != 34) = false := by rw [c34]; rfl
       have q2 : ((n : Int) == (s.size : Int)) = false := beq_eq_false_iff_ne.2 (by omega);rw [textR_end _ _ _ c34] at hT';have hstr := hB.out.string;obtain ⟨a5, c5, rfl, _, _⟩ := hB.out.shape;replace hT' := Lib.hid hT';replace c34 := Lib.hid c34;clear hT;go_wp2
       go_ret3
       exact ⟨by rw [← hT'.out]; rfl, hb.out⟩
     · have q1 : (((s[n].toNat : Nat) : Int) != 34) = true := by simp; omega
       obtain ⟨e0, e1, e2⟩ := sub_at hlt;have k1 := saidByte_any (s.extract n s.size) wr (by simp; omega) e0;rw [e1, e2] at k1;clear e0 e1 e2;rcases hi : itemT s[n] (s.data.toList.drop (n + 1)) with ⟨b, i⟩ | ⟨i, e⟩
       · rw [hi] at k1
         have hip := itemT_pos hi;have hil := itemT_le hi;rw [List.length_drop, size_list] at hil;by_cases hl : acc.length = 4095
         · rw [textR_long _ c34 hi hl] at hT'
           obtain ⟨a5, c5, rfl, _, _⟩ := hB.out.shape;have q3 : ((acc.length : Int) == 4095) = true := by rw [hl]; rfl
           replace hT' := Lib.hid hT';replace k1 := Lib.hid k1;clear hT hi;go_wp2_with fail
           refine k1.out.mono ?_;rintro e w2 ⟨rfl, rfl⟩;unfold itemV;go_wp2
           go_ret3
           exact ⟨by rw [← hT'.out]; rfl, hb.out⟩
         · rw [textR_more _ c34 hi hl, ← at_drop hlt, List.drop_drop] at hT'
           have q3 : ((acc.length : Int) == 4095) = false := beq_eq_false_iff_ne.2 (by omega);have hsz := hb.out.size;have hB2 := Lib.hid (BufU.below hB.out ((Below.refl wr.heap.size wr).alloc (Nat.le_refl _) (.cells #[.int .u8 (b.toNat : Int)] 5)));obtain ⟨a5, c5, rfl, _, _⟩ := hB.out.shape;replace hT' := Lib.hid hT';replace k1 := Lib.hid k1;clear hT hi;go_wp2_with fail
           refine k1.out.mono ?_;rintro e w2 ⟨rfl, rfl⟩;unfold itemV;go_wp2_with (at_builtin; (refine wpList_append_u8 rfl _ _ _ Tryz.underlying56 rfl rfl hB2.out rfl rfl (by omega) (by simp; omega) ?_; intro a' cap' w3 hB3 hO3))
           go_roundw
           case rel => exact ⟨n + i, acc ++ [b], by omega, by omega, by simp, by simp; omega, hB3, (hb.out.alloc hsz _).trans hO3, hT'.out⟩
           case measure => simp [intOf]; omega
       · rw [hi] at k1
         rw [textR_bad _ _ c34 hi] at hT';obtain ⟨hc1, hc2⟩ := itemT_code hi;have q4 : ((e : Int) != 0) = true := by simp; omega
         replace hT' := Lib.hid hT';replace k1 := Lib.hid k1;clear hT hi;go_wp2_with fail
         refine k1.out.mono ?_;rintro e' w2 ⟨rfl, rfl⟩;unfold itemV;go_wp2
         go_ret3
         exact ⟨by rw [← hT'.out]; rfl, hb.out⟩
   · obtain rfl : n = s.size := by omega
     have hT' := hT.out;rw [no_drop (Nat.le_refl _), textR_nil] at hT';replace hT' := Lib.hid hT';obtain ⟨a5, c5, rfl, _, _⟩ := hB.out.shape;go_wp2
     go_ret3
     exact ⟨by rw [← hT'.out]; rfl, hb.out⟩
end Go.Proofs.YtjiemkidmlgbeaaGreatDoor
namespace Go.Proofs.YtjiemkidmlgbeaaGreatDoor
open Go.RowKit Tok
def SignsOK (w : World) : Prop := ∀ i, i < 17 → w.cell? ⟨0, i, none⟩ = some (.string ⟨(signs.getD i []).toArray⟩)
theorem SignsOK.below {w W : World} (h : SignsOK w) (hb : Below w.heap.size w W) : SignsOK W := by
 intro i hi;have h0 := h i hi;exact (hb.cell (p := ⟨0, i, none⟩) (World.block_lt_of_cell? w _ h0)).trans h0
def signsV : Value := .agg #[.string ⟨#[61, 61]⟩, .string ⟨#[33, 61]⟩, .string ⟨#[60, 61]⟩, .string ⟨#[40]⟩, .string ⟨#[41]⟩, .string ⟨#[123]⟩, .string ⟨#[125]⟩, .string ⟨#[91]⟩, .string ⟨#[93]⟩, .string ⟨#[44]⟩, .string ⟨#[61]⟩, .string ⟨#[60]⟩, .string ⟨#[43]⟩, .string ⟨#[45]⟩, .string ⟨#[42]⟩, .string ⟨#[47]⟩, .string ⟨#[37]⟩]
theorem index_arr {cs : Array Value} {j : Nat} {v : Value} (hj : j < 17) (e : cs[j]? = some v) (w : World) : (Instr.index 96 (.agg cs) (.int .i64 (j : Int))).run Tryz.prog w = .ok v w := by
 have h := Tryz.underlying96;have hj2 : (j : Int) < 17 := by omega
 have hg : (isAgg 9).run Tryz.prog w = .ok false w := by simp [isAgg, run_underlying Tryz.underlying9, go_sem]
 simp [Instr.index, run_underlying h, asIntOf, part, e, go_sem]
 intro h2;omega
theorem index_sign {j : Nat} (hj : j < 17) (w : World) : (Instr.index 96 signsV (.int .i64 (j : Int))).run Tryz.prog w = .ok (.string ⟨(signs.getD j []).toArray⟩) w := by
 have e : (#[Value.string ⟨#[61, 61]⟩, .string ⟨#[33, 61]⟩, .string ⟨#[60, 61]⟩, .string ⟨#[40]⟩, .string ⟨#[41]⟩, .string ⟨#[123]⟩, .string ⟨#[125]⟩, .string ⟨#[91]⟩, .string ⟨#[93]⟩, .string ⟨#[44]⟩, .string ⟨#[61]⟩, .string ⟨#[60]⟩, .string ⟨#[43]⟩, .string ⟨#[45]⟩, .string ⟨#[42]⟩, .string ⟨#[47]⟩, .string ⟨#[37]⟩] : Array Value)[j]? = some (.string ⟨(signs.getD j []).toArray⟩) := by
   have : ∀ j, j < 17 → (#[Value.string ⟨#[61, 61]⟩, .string ⟨#[33, 61]⟩, .string ⟨#[60, 61]⟩, .string ⟨#[40]⟩, .string ⟨#[41]⟩, .string ⟨#[123]⟩, .string ⟨#[125]⟩, .string ⟨#[91]⟩, .string ⟨#[93]⟩, .string ⟨#[44]⟩, .string ⟨#[61]⟩, .string ⟨#[60]⟩, .string ⟨#[43]⟩, .string ⟨#[45]⟩, .string ⟨#[42]⟩, .string ⟨#[47]⟩, .string ⟨#[37]⟩] : Array Value)[j]? = some (.string ⟨(signs.getD j []).toArray⟩) := by
     intro j hj
     match j, hj with
     | 0, _ | 1, _ | 2, _ | 3, _ | 4, _ | 5, _ | 6, _ | 7, _ | 8, _ | 9, _ | 10, _ | 11, _ | 12, _ | 13, _ | 14, _ | 15, _ | 16, _ => rfl
     | j + 17, h => omega
   exact this j hj
 exact index_arr hj e w
end Go.Proofs.YtjiemkidmlgbeaaGreatDoor
namespace Go.Proofs.YtjiemkidmlgbeaaGreatDoor
open Go.RowKit Tok
structure Tg where
 kind : Nat
 text : List UInt8
 num : Int
 at_ : Int
 deriving DecidableEq
def told (t : Tg) : Bool :=
 if t.kind = 1 then nameL t.text && decide (t.num = 0)
 else if t.kind = 2 then decide (0 ≤ t.num) && decide (t.text = [])
 else if t.kind = 3 then decide (t.text.length ≤ 4095) && decide (t.num = 0)
 else if t.kind = 4 then decide (t.text ∈ signs) && decide (t.num = 0)
 else false
def tgC (t : Tg) : List Value := [.int .u8 t.kind, .string ⟨t.text.toArray⟩, .int .i64 t.num, .int .i64 t.at_]
def tgV (t : Tg) : Value := .agg #[.int .u8 t.kind, .string ⟨t.text.toArray⟩, .int .i64 t.num, .int .i64 t.at_]
end Go.Proofs.YtjiemkidmlgbeaaGreatDoor
