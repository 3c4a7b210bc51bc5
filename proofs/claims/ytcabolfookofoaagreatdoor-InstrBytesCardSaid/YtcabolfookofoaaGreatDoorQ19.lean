/- A part of the proof: UBu, UQuo, UTx. No condition. -/
import Derived.Test.YtcabolfookofoaaGreatDoorRows
import Derived.Laws.BitsAllLaws
import Derived.Deep.QuietTactic
import Derived.BigQuiet
import Derived.RegionTactic
import Derived.Maps.AppendAt
import Derived.Laws.AppendOwnNone
import Derived.Lib.BufferRead
import Derived.Lib.AppendStr
import Derived.Lib.UnsafeStr
import Derived.Laws.IdiomStrings
import Derived.Deep.AppendLies
import Derived.Deep.RegionLaw
import Derived.WalkKit
import Derived.WalkSpells
import Derived.WalkLawsBesides
import Derived.Handy
import Derived.Lib.Hide
import Derived.LoopTactic
import Derived.Lib.ItoaLen
import Derived.Lib.LaidTab
import Derived.LaidMore
import Derived.LaidHandle
import Derived.Stop.LaidErr
import Derived.Test.YtcabolfookofoaaGreatDoorQ01
import Derived.Test.YtcabolfookofoaaGreatDoorQ02
import Derived.Test.YtcabolfookofoaaGreatDoorQ05
set_option linter.unusedVariables false
set_option linter.unusedSimpArgs false
namespace Go.Proofs.YtcabolfookofoaaGreatDoor
open Go.RowKit
theorem size_list (s : ByteArray) : s.data.toList.length = s.size := Array.length_toList
theorem cells_new (w : World) (xs : List Value) (t : TypeId) (j : Nat) (u : Value) (h : xs[j]? = some u) : (w.alloc (.cells xs.toArray t)).cell? ((⟨w.heap.size, 0, none⟩ : Addr).add j) = some u := by
 rw [show (⟨w.heap.size, 0, none⟩ : Addr).add j = ⟨w.heap.size, j, none⟩ by simp [Addr.add]; omega];simp only [World.cell?, heap_alloc_new]
 simpa using h
theorem byte_all {p : UInt8 → Prop} (h : ∀ n, n < 256 → p n.toUInt8) (c : UInt8) : p c := by
 have := h c.toNat (UInt8.toNat_lt c)
 simpa using this
def BufU (w : World) (base : Nat) (v : Value) (l : List UInt8) : Prop := w.ownsRow base 5 1 v l.length (Lib.byteCells l)
theorem u8_info : (Tryz.prog.info? 5).map (fun i => (i.zero, i.size, i.bytes)) = some (some (.int .u8 0), 1, 1) := by kernel_rfl
theorem u8_parts : ∃ i0, Tryz.prog.info? 5 = some i0 ∧ i0.zero = some (.int .u8 0) ∧ i0.size = 1 ∧ i0.bytes = 1 := by
 have h := u8_info;cases hi : Tryz.prog.info? 5 with
 | none => rw [hi] at h; simp at h
 | some i0 =>
   rw [hi] at h;simp at h
   exact ⟨i0, rfl, h.1, h.2.1, h.2.2⟩
theorem byteCells_snoc (l : List UInt8) (c : UInt8) : Lib.byteCells (l ++ [c]) = Lib.byteCells l ++ [.int .u8 (c.toNat : Int)] := by simp [Lib.byteCells]
theorem byteCells_one (l : List UInt8) : ∀ u ∈ Lib.byteCells l, u.oneCell' = true := by
 intro u hu;simp only [Lib.byteCells, List.mem_map] at hu;obtain ⟨b, _, rfl⟩ := hu;rfl
section
variable {w W : World} {base : Nat} {v : Value} {l : List UInt8}
theorem BufU.below (h : BufU w base v l) (hb : Below w.heap.size w W) : BufU W base v l := ownsRow_only (F := fun _ => False) h (Only.of_below hb) (fun _ _ h => h)
theorem BufU.shape (h : BufU w base v l) : ∃ a cap, v = .slice a l.length cap ∧ l.length ≤ cap ∧ cap ≤ 9223372036854775807 := ownsRow_shape h
theorem BufU.string (h : BufU w base v l) : (convert 36 9 v).run Tryz.prog w = .ok (.string ⟨l.toArray⟩) w := by
 rcases h.2 with ⟨hv, h0⟩ | ⟨g, cap, cur, hv, hb, hg, hnc, hcm, hsz, ht⟩
 · have h1 : l = [] := List.eq_nil_of_length_eq_zero h0
   subst h1;rw [hv];exact Lib.run_convert_nil_bytes w _ _ _ 0 Tryz.underlying36 Tryz.underlying5 Tryz.underlying9
 · have hh := h
   unfold BufU at hh;rw [hv] at hh ⊢;refine run_convert_bytes_back w _ _ 5 ⟨g, 0, none⟩ cap l Tryz.underlying36 Tryz.underlying5 Tryz.underlying9 (fun j hj => ?_);rw [show (⟨g, 0, none⟩ : Addr).add j = ⟨g, j, none⟩ by simp [Addr.add]; omega, World.ownsRow.cellAt (g := g) (cap := cap) hh j (by omega)];simp [Lib.byteCells, List.getElem?_eq_getElem hj]
theorem wpList_append_us {ops : Array Oper} {rest : List Oper} {o : Oper} {a : Act} {Q : Exit → Act → World → Prop} (hgd : o.guard = none) (s x : Operand)
   (ho : o.op = .call { callee := .builtin .append, args := #[s, x], argTypes := #[36, 36] })
   (hs : a.eval s = v) (hown : BufU w base v l) (m : List UInt8) {w2 : World} (hw : w = w2.alloc (.cells (Lib.byteCells m).toArray 5)) (hx : a.eval x = .slice (some ⟨w2.heap.size, 0, none⟩) m.length m.length)
   (hk : l.length + m.length ≤ 1000000000) (hbase : base ≤ w.heap.size)
   (h : ∀ a' cap w', BufU w' base (.slice a' (l.length + m.length) cap) (l ++ m) → Below base w w' → wpList Tryz.prog ops Q rest (a.put o.dst (.slice a' (l.length + m.length) cap)) w') : wpList Tryz.prog ops Q (o :: rest) a w := by
 obtain ⟨i0, hi, hz0, hz1, hz2⟩ := u8_parts;subst hw;refine wpList_append_own_at _ hgd s x 36 ho base 5 i0 (.int .u8 0) 1 1 Tryz.underlying36 hi hz0 hz1 hz2 rfl (by decide) v l.length (Lib.byteCells l) hs hown ⟨w2.heap.size, 0, none⟩ m.length m.length (Lib.byteCells m) hx (by rw [Lib.byteCells_length]; omega) (fun j u hj => cells_new w2 (Lib.byteCells m) _ j u hj) (byteCells_one m) (by unfold maxLen; omega) (by omega) hbase ?_;intro v' w' h2 h3 _ _;obtain ⟨a', cap, rfl, _⟩ := ownsRow_shape h2;refine h a' cap w' ?_ ((Below.refl base _).grown h3 hbase (fun k hk => (World.ownsRow.lt hown k hk).1));unfold BufU;rw [List.length_append, show Lib.byteCells (l ++ m) = Lib.byteCells l ++ Lib.byteCells m by simp [Lib.byteCells]];exact h2
end
end Go.Proofs.YtcabolfookofoaaGreatDoor
namespace Go.Proofs.YtcabolfookofoaaGreatDoor
open Go.RowKit
set_option maxRecDepth 20000 in
set_option maxHeartbeats 1000000 in
theorem isPlainI_any (c : UInt8) (w : World) : Calls Tryz.prog 86 #[.int .u8 (c.toNat : Int)] w fun e w' => e = .returned (.bool (plainD c)) ∧ w' = w := by
 obtain ⟨B, hB⟩ := exHid (plainD c);rw [hB.out];by_cases h1 : (32 : Int) ≤ (c.toNat : Int)
 all_goals by_cases h2 : (c.toNat : Int) ≤ 126
 all_goals rcases h3 : ((c.toNat : Int) != 34) with _ | _
 all_goals rcases h4 : ((c.toNat : Int) != 92) with _ | _
 all_goals
   go_enter Tryz.func86, Tryz.ntmps86
   go_wp2
   go_ret
   refine ⟨ret_bool ?_, rfl⟩;rw [← hB.out, Bool.eq_iff_iff];clear hB;unfold plainD;simp only [bne_iff_ne, bne_eq_false_iff_eq, ne_eq, Bool.and_eq_true, decide_eq_true_eq, Bool.false_eq_true, false_iff, true_iff, not_and] at *;omega
def hxV (x : Int) (h0 : 0 ≤ x) (h1 : x < 16) : Value := .int .u8 (((⟨#[48, 49, 50, 51, 52, 53, 54, 55, 56, 57, 97, 98, 99, 100, 101, 102]⟩ : ByteArray)[x.toNat]'(by show x.toNat < 16; omega)).toNat : Int)
theorem hx_eq (n : Nat) (x : Int) (h0 : 0 ≤ x) (h1 : x < 16) (hn : x = (n : Int)) : hxV x h0 h1 = .int .u8 ((hexD n).toNat : Int) := by
 subst hn;have key : ∀ m, (h : m < 16) → (⟨#[48, 49, 50, 51, 52, 53, 54, 55, 56, 57, 97, 98, 99, 100, 101, 102]⟩ : ByteArray)[m]'h = hexD m := by decide +kernel
 unfold hxV;simp only [Int.toNat_natCast];rw [key n (by omega)]
theorem hx_one (x y : Int) (h0 : 0 ≤ x) (h1 : x < 16) (h2 : 0 ≤ y) (h3 : y < 16) : ∀ u ∈ [Value.int .u8 92, .int .u8 120, hxV x h0 h1, hxV y h2 h3], u.oneCell' = true := by
 intro u hu;simp only [List.mem_cons, List.not_mem_nil, or_false] at hu;rcases hu with rfl | rfl | rfl | rfl <;> rfl
theorem and_all (c : UInt8) : bits BinOp.and IntKind.u8 (c.toNat : Int) 15 = (c.toNat : Int) % 16 := by
 revert c
 refine byte_all ?_
 decide +kernel
theorem calls_at {P : Program} {f : FuncId} {args : Array Value} {w : World} {a b : Bool} (h : Calls P f args w fun e w' => e = .returned (.bool a) ∧ w' = w) (hab : a = b) : Calls P f args w fun e w' => e = .returned (.bool b) ∧ w' = w := hab ▸ h
theorem quotes_take {s : ByteArray} {i : Nat} (h : i < s.size) : 34 :: quotesL (s.data.toList.take (i + 1)) = (34 :: quotesL (s.data.toList.take i)) ++ quoteB s[i] := by
 unfold quotesL;rw [List.take_succ_eq_append_getElem (by simpa using h), List.flatMap_append];simp
 rfl
set_option maxRecDepth 20000 in
set_option maxHeartbeats 4000000 in
theorem quoted_any (s : ByteArray) (w : World) (hs : s.size ≤ 100000) :
   Calls Tryz.prog 55 #[.string s] w fun e w' => e = .returned (.string ⟨(quoteL s.data.toList).toArray⟩) ∧ Below w.heap.size w w' := by
 obtain ⟨i0, hi0, hz0, hz1, hz2⟩ := u8_parts;obtain ⟨w1, hmk, hown, hg⟩ := run_makeSlice_owned (P := Tryz.prog) w w.heap.size 36 5 i0 (.int .u8 0) 1 Tryz.underlying36 hi0 hz0 hz1 .i64 .i64 (s.size + 2) (by omega) (by rw [hz2]; omega) (by unfold maxLen; omega) (Nat.le_refl _);rw [show ((s.size + 2 : Nat) : Int) = (s.size : Int) + 2 by omega] at hmk;have hb1 : Below w.heap.size w w1 := (Below.refl _ _).grown hg (Nat.le_refl _) (fun k hk => by cases hk);have hsz1 := hb1.size;have hB1 := Lib.hid (BufU.below (l := []) hown ((Below.refl w1.heap.size w1).alloc (Nat.le_refl _) (.cells (Lib.byteCells [34]).toArray 5)));have hO1 := Lib.hid (hb1.alloc hsz1 (.cells (Lib.byteCells [34]).toArray 5));replace hb1 := Lib.hid hb1;clear hg;replace hown := Lib.hid hown;go_enter Tryz.func55, Tryz.ntmps55
 go_wp2_with (at_builtin; (refine wpList_append_us rfl _ _ rfl rfl hB1.out [34] rfl rfl (by simp) hO1.out.size ?_; intro a' cap' w3 hB3 hO3))
 have hO4 := Lib.hid (hO1.out.trans hO3);replace hB3 := Lib.hid hB3;clear hO3;go_loopw [3, 4, 5, 15] (fun t3 _ _ t15 wr => ∃ i : Nat, i ≤ s.size ∧ t15 = .int .i64 i ∧ Hid (BufU wr w.heap.size t3 (34 :: quotesL (s.data.toList.take i))) ∧ Hid (Below w.heap.size w wr)) (fun _ _ _ t15 _ => s.size - (intOf t15).toNat)
 case atStart => exact ⟨0, by omega, rfl, by simpa [quotesL_nil] using hB3, hO4⟩
 case round =>
   obtain ⟨i, hi, rfl, hB, hb⟩ := hrel;clear hB3 hO4;have hsz := hb.out.size;have hlen := quotesL_len (s.data.toList.take i);rw [List.length_take, size_list, Nat.min_eq_left hi] at hlen;have hX : (34 :: quotesL (s.data.toList.take i)).length ≤ 1 + 4 * i := by
     rw [List.length_cons]; omega
   obtain ⟨a4, cap4, rfl, _, _⟩ := hB.out.shape;rcases Nat.lt_or_ge i s.size with hlt | hge
   · have hlti : (i : Int) < (s.size : Int) := by omega
     have hn := quotes_take hlt;have hqb : quoteB s[i] = if plainD s[i] = true then [s[i]] else [92, 120, hexD (s[i].toNat / 16), hexD (s[i].toNat % 16)] := rfl;generalize (34 :: quotesL (s.data.toList.take i)) = X at hB hX hn;have hB2 := Lib.hid (fun k : List UInt8 => BufU.below hB.out ((Below.refl wr.heap.size wr).alloc (Nat.le_refl _) (.cells (Lib.byteCells k).toArray 5)));have hO2 := Lib.hid (fun k : List UInt8 => hb.out.alloc hsz (.cells (Lib.byteCells k).toArray 5));clear hlen;cases hp : plainD s[i] with
     | true =>
       rw [hp, if_pos rfl] at hqb;rw [hqb] at hn;replace hn := Lib.hid hn;have k1 := Lib.hid (fun W => calls_at (isPlainI_any s[i] W) hp);clear hqb hp;go_wp2_with fail
       refine (k1.out _).mono ?_;rintro e w2 ⟨rfl, rfl⟩;go_wp2_with (at_builtin; (refine wpList_append_us rfl _ _ rfl rfl (hB2.out [s[i]]) [s[i]] rfl rfl (by simp; omega) (hO2.out [s[i]]).size ?_; intro a' cap' w3 hB3 hO3))
       go_roundw
       case rel => exact ⟨i + 1, by omega, by go_num, by rw [hn.out]; exact hB3, (hO2.out [s[i]]).trans hO3⟩
       case measure => simp [intOf]; omega
     | false =>
       rw [hp, if_neg Bool.false_ne_true] at hqb;rw [hqb] at hn;replace hn := Lib.hid hn;have k1 := Lib.hid (fun W => calls_at (isPlainI_any s[i] W) hp);clear hqb hp;have hcl := UInt8.toNat_lt s[i];have b1 : (0 : Int) ≤ (s[i].toNat : Int) / 16 := by omega
       have b2 : (s[i].toNat : Int) / 16 < 16 := by omega
       have b3 : (0 : Int) ≤ (s[i].toNat : Int) % 16 := by omega
       have b4 : (s[i].toNat : Int) % 16 < 16 := by omega
       have hand : bits BinOp.and IntKind.u8 (s[i].toNat : Int) 15 = (s[i].toNat : Int) % 16 := and_all s[i];have hown2 := Lib.hid (fun W (hW : Below wr.heap.size wr W) => BufU.below hB.out hW);have hX2 : X.length ≤ 1000000 := by omega
       go_wp2_with fail
       refine (k1.out _).mono ?_;rintro e w2 ⟨rfl, rfl⟩;go_wp2_with fail
       go_region_law ((refine step_append_lies (w2.drew.alloc (.cells #[.int .u8 92, .int .u8 120, hxV ((s[i].toNat : Int) / 16) b1 b2, hxV ((s[i].toNat : Int) % 16) b3 b4] 5)) rfl (.tmp 27) (.tmp 34) 36 rfl w.heap.size 5 i0 (.int .u8 0) 1 1 Tryz.underlying36 hi0 hz0 hz1 hz2 rfl (by decide) (.slice a4 X.length cap4) X.length (Lib.byteCells X) rfl (hown2.out _ ((Below.refl _ w2).drew.alloc (Nat.le_refl _) _)) ⟨w2.heap.size, 0, none⟩ 4 4 [.int .u8 92, .int .u8 120, hxV ((s[i].toNat : Int) / 16) b1 b2, hxV ((s[i].toNat : Int) % 16) b3 b4] rfl rfl (fun j u hj => cells_new w2.drew _ _ j u hj) (hx_one _ _ _ _ _ _) (by omega) (by unfold maxLen; omega) (by omega) (by simp; omega) _ rfl ?_; intro g cap w3 h2 h3 _ _))
       all_goals
         go_wp2_with fail
         rw [hx_eq (s[i].toNat / 16) _ b1 b2 (by omega), hx_eq (s[i].toNat % 16) _ b3 b4 (by omega)] at h2;refine ⟨⟨i + 1, by omega, by go_num, Lib.hid ?_, Lib.hid ((hb.out.drew.alloc (by simp; omega) _).grown h3 (by simp; omega) (fun k hk => (World.ownsRow.lt hB.out k hk).1))⟩, by simp [intOf]; omega⟩;rw [hn.out];unfold BufU;rw [List.length_append, show Lib.byteCells (X ++ [92, 120, hexD (s[i].toNat / 16), hexD (s[i].toNat % 16)]) = Lib.byteCells X ++ Lib.byteCells [92, 120, hexD (s[i].toNat / 16), hexD (s[i].toNat % 16)] by simp [Lib.byteCells]];exact h2
   · obtain rfl : i = s.size := by omega
     have hlti : ¬ ((s.size : Int) < (s.size : Int)) := by omega
     have hfull : s.data.toList.take s.size = s.data.toList := by rw [List.take_of_length_le]; simp
     have hn : quoteL s.data.toList = (34 :: quotesL (s.data.toList.take s.size)) ++ [34] := by
       rw [hfull];simp [quoteL]
     replace hn := Lib.hid hn;clear hlen hfull;generalize (34 :: quotesL (s.data.toList.take s.size)) = X at hB hX hn;have hB5 := Lib.hid (BufU.below hB.out ((Below.refl wr.heap.size wr).alloc (Nat.le_refl _) (.cells (Lib.byteCells [34]).toArray 5)));have hO5 := Lib.hid (hb.out.alloc hsz (.cells (Lib.byteCells [34]).toArray 5));go_wp2_with (at_builtin; (refine wpList_append_us rfl _ _ rfl rfl hB5.out [34] rfl rfl (by simp; omega) hO5.out.size ?_; intro a6 cap6 w6 hB6 hO6; have hstr := BufU.string hB6; simp only [List.length_cons, List.length_nil, Nat.zero_add] at hstr))
     go_ret
     exact ⟨by rw [hn.out]; rfl, hO5.out.trans hO6⟩
end Go.Proofs.YtcabolfookofoaaGreatDoor
namespace Go.Proofs.YtcabolfookofoaaGreatDoor
open Go.RowKit
def TabOK (w : World) : Prop := Lib.TabIs Tryz.prog w "internal/strconv.uint64pow10" .u64 Lib.pow10Tab
theorem below_grow (w : World) (k : Nat) (os : Array Obj) : Below w.heap.size w (Sort.grow (w.drewN k) os) := by
 refine ⟨rfl, rfl, rfl, ?_, fun i hi => ?_⟩
 · simp [Sort.grow, World.drewN]
 · simp [Sort.grow, World.drewN, Array.getElem?_append, hi]
theorem tab_num : Tryz.prog.globalNamed "internal/strconv.uint64pow10" = some 5 := by kernel_rfl
theorem TabOK.below {w w' : World} (h : TabOK w) (hb : Below w.heap.size w w') : TabOK w' := by
 unfold TabOK Lib.TabIs World.var? at h ⊢;rw [tab_num] at h ⊢;simp only [Option.bind_some] at h ⊢;have hlt : 5 < w.heap.size := by
   rcases Nat.lt_or_ge 5 w.heap.size with h' | h'
   · exact h'
   · rw [Array.getElem?_eq_none h'] at h; cases h
 rw [hb.block _ hlt];exact h
theorem text_any (a : Int) (w : World) (ha : I64 a) (ht : TabOK w) :
   Calls Tryz.prog 54 #[.int .i64 a] w fun e w' => e = .returned (.string ⟨(Lib.itoa a).toArray⟩) ∧ Below w.heap.size w w' := by
 obtain ⟨a1, a2⟩ := ha;go_enter Tryz.func54, Tryz.ntmps54
 go_wp2_with (go_at_call 85; refine (Tryz.strconv_FormatInt_10 _ (by assumption) (by assumption) _ ht).mono ?_; rintro e w' ⟨rfl, k, os, rfl⟩)
 go_ret
 exact ⟨rfl, below_grow _ _ _⟩
end Go.Proofs.YtcabolfookofoaaGreatDoor
