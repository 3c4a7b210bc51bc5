/- A part of the proof: SdM, SdN, TEsc, TCharB, TBufU, TWordB, TPut, TPut2, TSgs, TSign, TTold. No condition. -/
import Derived.Test.YtjiemkidmlgbeaaDoorRows
import Derived.WalkKit
import Derived.WalkSpells
import Derived.WalkLawsBesides
import Derived.Handy
import Derived.Lib.Hide
import Derived.LoopTactic
import Derived.Lib.IndexBytes
import Derived.Laws.BitsAllLaws
import Derived.Deep.QuietTactic
import Derived.BigQuiet
import Derived.RegionTactic
import Derived.Maps.AppendAt
import Derived.Laws.AppendOwnNone
import Derived.Lib.BufferRead
import Derived.Lib.AppendStr
import Derived.Lib.UnsafeStr
import Derived.Laws.IdiomStrings
import Derived.Deep.AppendLies
import Derived.Deep.RegionLaw
import Derived.Test.YtjiemkidmlgbeaaDoorQ01
import Derived.Test.YtjiemkidmlgbeaaDoorQ03
import Derived.Test.YtjiemkidmlgbeaaDoorQ06
import Derived.Test.YtjiemkidmlgbeaaDoorQ12
import Derived.Test.YtjiemkidmlgbeaaDoorQ20
import Derived.Test.YtjiemkidmlgbeaaDoorQ23
set_option linter.unusedVariables false
set_option linter.unusedSimpArgs false
namespace Go.Proofs.YtjiemkidmlgbeaaDoor
open Go.RowKit Go.Shelf
theorem docF_eq10 {ts : List Tw} (hf : ∀ x ∈ ts, FitT x) : docF ts = ((lookF ts).1, (lookF ts).2.2) := by
 refine doc_look ts (fun i => ?_);unfold twAt;rw [List.getD_eq_getElem?_getD];rcases Nat.lt_or_ge i ts.length with h | h
 · rw [List.getElem?_eq_getElem h]
   exact (hf _ (List.getElem_mem h)).2.2.2
 · rw [List.getElem?_eq_none h]
   decide
theorem refCheck10 {v : Value} {ts : List Tw} (w : World) (hT : TwIn w v ts) (hf : ∀ x ∈ ts, FitT x) {E : Int} (h : (lookF ts).2.2 = E) :
   Calls Tryd.prog 18 #[v] w fun e w' => ∃ k : Int, e = .returned (.tuple #[.int .i64 k, .int .i64 E]) ∧ Below w.heap.size w w' := by
 subst h;refine (refCheck_any w hT hf).mono ?_;rintro e w1 ⟨rfl, hb⟩;rw [docF_eq10 hf];exact ⟨_, rfl, hb⟩
theorem fs_len10 : ∀ (F : Fs), F.count ≤ F.flat.length := count_flat
theorem fs_kids10 : ∀ (F : Fs), F.ok → ∀ x ∈ F.flat, 0 ≤ x.kids ∧ x.kids ≤ (F.flat.length : Int)
 | .nil, _, _, h => by cases h
 | .cons y k r, ⟨_, hn, hk, hr⟩, x, hx => by
   have hlen := flat_len10 y k r;have hx' : x ∈ y :: (k.flat ++ r.flat) := hx;rcases List.mem_cons.1 hx' with rfl | h
   · have := fs_len10 k
     exact ⟨by omega, by omega⟩
   · rcases List.mem_append.1 h with h | h
     · have := fs_kids10 k hk x h
       exact ⟨this.1, by omega⟩
     · have := fs_kids10 r hr x h
       exact ⟨this.1, by omega⟩
section
variable {w : World} {v : Value} {x : Tw} {k : Fs}
set_option maxRecDepth 20000 in
set_option maxHeartbeats 1000000 in
theorem TokensD_any (hT : TwIn w v (x :: k.flat)) (hok : (Fs.cons x k .nil).ok) (hl : (x :: k.flat).length ≤ 2048) (h : x.op = 1 ∨ exprB x.op = true) :
   Calls Tryd.prog 20 #[v] w fun e w' => ∃ v', e = .returned v' ∧ TgsAt w' w.heap.size v' (showL x k) ∧ Below w.heap.size w w' := by
 have hfl : (Fs.cons x k .nil).flat = x :: k.flat := by show x :: (k.flat ++ []) = _; rw [List.append_nil]
 have hks : ∀ y ∈ x :: k.flat, 0 ≤ y.kids ∧ y.kids ≤ 2048 := by
   intro y hy;have := fs_kids10 _ hok y (by rw [hfl]; exact hy);rw [hfl] at this;exact ⟨this.1, by omega⟩
 have hE := everyT_of (all_d hT hl hks) k hok.2.2.1;have hkl : k.flat.length ≤ 2047 := by rw [List.length_cons] at hl; omega
 rw [show showL x k = bareS x k from atS_one x k];rcases h with h1 | he
 · obtain ⟨op, kids, num, text⟩ := x
   have h1' : op = 1 := h1;subst h1';cases hv : view hok with
   | flow s k h hp hn =>
     have hc : 0 < k.count := by cases k with | nil => exact hp.elim | cons y ky r => exact Nat.succ_pos _
     have hb := bare_flow (s := text) hc;have hbl := bare_len ⟨1, (k.count : Int), 0, text⟩ k;have hpl : (paramS 0 k).length ≤ 1000000 := by
       rw [hb] at hbl;simp only [List.length_cons] at hbl;omega
     exact flowD_any hT hl hks (paramsD hp hE hkl) hok.2.2.1 rfl (by omega) hb hpl
   | own op s ho hs => exact absurd ho (by omega)
   | one op a ka ho ha => exact absurd ho (by omega)
   | set op s a ka ho h ha => exact absurd ho (by omega)
   | bare op ho => exact absurd ho (by omega)
   | call op s k ho h hk hn => exact absurd ho (by omega)
   | two op a ka b kb h1 h2 ha hb => omega
   | cond2 op a ka b kb ho ha hb => exact absurd ho (by omega)
 · have hA := (all_d hT hl hks x k hok hE hkl).at1 hT hl he w 0 [] (Below.refl _ _) (by rw [List.append_nil]; rfl)
   have kA : Hid (Calls Tryd.prog 36 #[v, .int .i64 0, .int .i64 1] w fun e w' => ∃ v', e = .returned v' ∧ TgsAt w' w.heap.size v' (bareS x k) ∧ Below w.heap.size w w') := Lib.hid hA;have h1 : x.op ≠ 1 := by
     intro h;rw [h] at he;cases he
   obtain ⟨op, kids, num, text⟩ := x;have t1 : ((op : Int) == 1) = false := beq_eq_false_iff_ne.2 (by have : op ≠ 1 := h1; omega);obtain ⟨a, cap, rfl, hlc, hcm, h3⟩ := hT;obtain ⟨g, off, rfl, hg, hcell⟩ := h3 (by simp);have y0 := hcell 0 (by simp) 0 (by decide);simp only [List.getElem_cons_zero, twC, List.getElem?_cons_zero, Nat.zero_mul, Nat.add_zero] at y0;have hln : ((⟨op, kids, num, text⟩ : Tw) :: k.flat).length = k.flat.length + 1 := List.length_cons;rw [hln] at kA ⊢;generalize bareS ⟨op, kids, num, text⟩ k = T at *;generalize k.flat.length = n at *;clear h3 hcell hE hA hks hok hln h1 he hl hlc hfl;go_enter Tryd.func20, Tryd.ntmps20
   go_wp2_with fail
   with_reducible refine kA.out.mono ?_
   rintro e w1 ⟨v1, rfl, h1, hb1⟩;replace h1 := Lib.hid h1;replace hb1 := Lib.hid hb1;go_wp2_with fail
   go_ret
   exact ⟨_, rfl, h1.out, hb1.out⟩
end
end Go.Proofs.YtjiemkidmlgbeaaDoor
namespace Go.Proofs.YtjiemkidmlgbeaaDoor
open Go.RowKit Go.Shelf
set_option maxRecDepth 20000 in
set_option maxHeartbeats 1000000 in
theorem AllD_bad {v : Value} {ts : List Tw} {w : World} (hT : TwIn w v ts) (hf : ∀ x ∈ ts, FitT x) (hc : (lookF ts).2.2 ≠ 0) :
   Calls Tryd.prog 10 #[v] w fun e w' => e = .returned (.tuple #[.slice none 0 0, .int .i64 (lookF ts).2.2]) ∧ Below w.heap.size w w' := by
 have kC := Lib.hid (refCheck10 w hT hf rfl);generalize (lookF ts).2.2 = c at *;have hc' : ((c : Int) != 0) = true := by simpa using hc
 clear hT hf hc;go_enter Tryd.func10, Tryd.ntmps10
 go_wp2_with fail
 with_reducible refine kC.out.mono ?_
 rintro e w1 ⟨d, rfl, hb⟩;go_wp2_with fail
 go_ret2
 exact ⟨rfl, hb⟩
set_option maxRecDepth 20000 in
set_option maxHeartbeats 1000000 in
theorem AllD_none {v : Value} {ts : List Tw} {w : World} (hT : TwIn w v ts) (hf : ∀ x ∈ ts, FitT x) (hc : (lookF ts).2.2 = 0) {x : Tw} {r : List Tw} (hx : ts = x :: r) (h1 : x.op ≠ 1) (h2 : exprB x.op = false) :
   Calls Tryd.prog 10 #[v] w fun e w' => e = .returned (.tuple #[.slice none 0 0, .int .i64 3]) ∧ Below w.heap.size w w' := by
 have kC := Lib.hid (refCheck10 w hT hf hc);have kX := Lib.hid (rExpr_at h2);obtain ⟨op, kids, num, text⟩ := x;have t1 : ((op : Int) != 1) = true := bne_iff_ne.2 (by have : op ≠ 1 := h1; omega);subst hx;obtain ⟨a, cap, rfl, hlc, hcm, h3⟩ := hT;obtain ⟨g, off, rfl, hg, hcell⟩ := h3 (by simp);have y0 := hcell 0 (by simp) 0 (by decide);simp only [List.getElem_cons_zero, twC, List.getElem?_cons_zero, Nat.zero_mul, Nat.add_zero] at y0;have hln : ((⟨op, kids, num, text⟩ : Tw) :: r).length = r.length + 1 := List.length_cons;rw [hln] at kC ⊢;generalize r.length = n at *;clear h3 hcell hf hc h1 h2 hln;go_enter Tryd.func10, Tryd.ntmps10
 go_wp2_with fail
 with_reducible refine kC.out.mono ?_
 rintro e w1 ⟨d, rfl, hb⟩;have z0 := (hb.cell (p := ⟨g, off, none⟩) hg).trans y0;have hg1 : g < w1.heap.size := Nat.lt_of_lt_of_le hg hb.size;clear y0;go_wp2_with fail
 with_reducible refine (kX.out _).mono ?_
 rintro e w2 ⟨rfl, rfl⟩;go_wp2_with fail
 go_ret2
 exact ⟨rfl, hb⟩
set_option maxRecDepth 20000 in
set_option maxHeartbeats 1000000 in
theorem AllD_ok {v : Value} {w : World} {x : Tw} {k : Fs} (hT : TwIn w v (x :: k.flat)) (hf : ∀ y ∈ x :: k.flat, FitT y) (hc : (lookF (x :: k.flat)).2.2 = 0) (hok : (Fs.cons x k .nil).ok) (hl : (x :: k.flat).length ≤ 2048) (h : x.op = 1 ∨ exprB x.op = true) :
   Calls Tryd.prog 10 #[v] w fun e w' => ∃ v', e = .returned (.tuple #[v', .int .i64 0]) ∧ TgsAt w' w.heap.size v' (showL x k) ∧ Below w.heap.size w w' := by
 have kC := Lib.hid (refCheck10 w hT hf hc);have kT := Lib.hid (fun (w1 : World) (hb : Below w.heap.size w w1) => TokensD_any (w := w1) (hT.below hb) hok hl h);generalize showL x k = T at *;obtain ⟨op, kids, num, text⟩ := x;obtain ⟨a, cap, rfl, hlc, hcm, h3⟩ := hT;obtain ⟨g, off, rfl, hg, hcell⟩ := h3 (by simp);have y0 := hcell 0 (by simp) 0 (by decide);simp only [List.getElem_cons_zero, twC, List.getElem?_cons_zero, Nat.zero_mul, Nat.add_zero] at y0;have hln : ((⟨op, kids, num, text⟩ : Tw) :: k.flat).length = k.flat.length + 1 := List.length_cons;rw [hln] at kC kT ⊢;generalize k.flat.length = n at *;clear h3 hcell hf hc hln hlc hok;by_cases h1 : op = 1
 · subst h1
   replace h := Lib.hid h;go_enter Tryd.func10, Tryd.ntmps10
   go_wp2_with fail
   with_reducible refine kC.out.mono ?_
   rintro e w1 ⟨d, rfl, hb⟩;have z0 : w1.cell? ⟨g, off, none⟩ = some (.int .u8 1) := (hb.cell (p := ⟨g, off, none⟩) hg).trans y0;have hg1 : g < w1.heap.size := Nat.lt_of_lt_of_le hg hb.size;have k1 := Lib.hid (kT.out w1 hb);clear y0 kT;go_wp2_with fail
   with_reducible refine k1.out.mono ?_
   rintro e w2 ⟨v2, rfl, h2, hb2⟩;have h2' := Lib.hid (h2.low hb.size);have hb3 := Lib.hid (below_next hb hb2);clear h2 hb2;go_wp2_with fail
   go_ret2
   exact ⟨_, rfl, h2'.out, hb3.out⟩
 · have he : exprB op = true := h.resolve_left h1
   have t1 : ((op : Int) != 1) = true := bne_iff_ne.2 (by omega);have kX := Lib.hid (rExpr_at he);replace h := Lib.hid h;clear he;go_enter Tryd.func10, Tryd.ntmps10
   go_wp2_with fail
   with_reducible refine kC.out.mono ?_
   rintro e w1 ⟨d, rfl, hb⟩;have z0 := (hb.cell (p := ⟨g, off, none⟩) hg).trans y0;have hg1 : g < w1.heap.size := Nat.lt_of_lt_of_le hg hb.size;have k1 := Lib.hid (kT.out w1 hb);clear y0 kT;go_wp2_with fail
   with_reducible refine (kX.out _).mono ?_
   rintro e w2 ⟨rfl, rfl⟩;go_wp2_with fail
   with_reducible refine k1.out.mono ?_
   rintro e w2 ⟨v2, rfl, h2, hb2⟩;have h2' := Lib.hid (h2.low hb.size);have hb3 := Lib.hid (below_next hb hb2);clear h2 hb2;go_wp2_with fail
   go_ret2
   exact ⟨_, rfl, h2'.out, hb3.out⟩
theorem AllD_is {v : Value} {ts : List Tw} {w : World} {L : List Tg} {E : Int} (hT : TwIn w v ts) (hf : ∀ x ∈ ts, FitT x) (h : ShowIs ts L E) :
   Calls Tryd.prog 10 #[v] w fun e w' => ∃ v', e = .returned (.tuple #[v', .int .i64 E]) ∧ TgsAt w' w.heap.size v' L ∧ Below w.heap.size w w' := by
 rcases h with ⟨hc, rfl, rfl⟩ | ⟨hc, x, r, hx, h1, h2, rfl, rfl⟩ | ⟨hc, x, k, rfl, hok, hl, h, rfl, rfl⟩
 · refine (AllD_bad hT hf hc).mono ?_
   rintro e w' ⟨rfl, hb⟩;exact ⟨_, rfl, TgsAt.nil10 _ _, hb⟩
 · refine (AllD_none hT hf hc hx h1 h2).mono ?_
   rintro e w' ⟨rfl, hb⟩;exact ⟨_, rfl, TgsAt.nil10 _ _, hb⟩
 · exact AllD_ok hT hf hc hok hl h
end Go.Proofs.YtjiemkidmlgbeaaDoor
namespace Go.Proofs.YtjiemkidmlgbeaaDoor.Tok
open Go.Proofs.YtjiemkidmlgbeaaDoor
def hexD (x : Nat) : UInt8 := if x < 10 then (48 + x).toUInt8 else (87 + x).toUInt8
def escL (c : UInt8) : List UInt8 :=
 if c.toNat = 34 ∨ c.toNat = 92 then [92, c]
 else if c.toNat = 10 then [92, 110]
 else if plainC c then [c]
 else [92, 120, hexD (c.toNat / 16), hexD (c.toNat % 16)]
def textL (tx : List UInt8) : List UInt8 := 34 :: (tx.flatMap escL ++ [34])
end Go.Proofs.YtjiemkidmlgbeaaDoor.Tok
namespace Go.Proofs.YtjiemkidmlgbeaaDoor
open Go.RowKit Tok
theorem between_any {c : UInt8} {a b : Nat} {B : Bool} (h : B = decide (a ≤ c.toNat ∧ c.toNat ≤ b)) : (a ≤ c.toNat ∧ B = decide ((c.toNat : Int) ≤ (b : Int))) ∨ (¬ a ≤ c.toNat ∧ B = false) := by
 by_cases h1 : a ≤ c.toNat
 · exact .inl ⟨h1, by rw [h]; simp [h1]⟩
 · exact .inr ⟨h1, by rw [h]; simp [h1]⟩
set_option maxHeartbeats 400000 in
theorem isPlain_any (c : UInt8) (w : World) : Calls Tryd.prog 88 #[.int .u8 (c.toNat : Int)] w fun e w' => e = .returned (.bool (plainC c)) ∧ w' = w := by
 obtain ⟨B, hB⟩ := exHid (plainC c);rw [hB.out];rcases between_any (B := B) (a := 32) (b := 126) (by rw [← hB.out]; rfl) with ⟨h1, h2⟩ | ⟨h1, h2⟩
 all_goals
   replace h2 := Lib.hid h2;go_enter Tryd.func88, Tryd.ntmps88
   go_wp2
   go_ret
   exact ⟨ret_bool (by rw [h2.out]; try rfl), rfl⟩
theorem calls_at {P : Program} {f : FuncId} {args : Array Value} {w : World} {a b : Bool} (h : Calls P f args w fun e w' => e = .returned (.bool a) ∧ w' = w) (hab : a = b) : Calls P f args w fun e w' => e = .returned (.bool b) ∧ w' = w := hab ▸ h
theorem word_iff (c : UInt8) : (lowC c = true ∧ wordC c = true) ∨ (lowC c = false ∧ digC c = true ∧ wordC c = true) ∨ (lowC c = false ∧ digC c = false ∧ c.toNat = 95 ∧ wordC c = true) ∨ (lowC c = false ∧ digC c = false ∧ c.toNat ≠ 95 ∧ wordC c = false) := by
 unfold wordC;cases lowC c <;> cases digC c <;> by_cases h : c.toNat = 95 <;> simp [h]
end Go.Proofs.YtjiemkidmlgbeaaDoor
namespace Go.Proofs.YtjiemkidmlgbeaaDoor
open Go.RowKit
theorem byte_all {p : UInt8 → Prop} (h : ∀ n, n < 256 → p n.toUInt8) (c : UInt8) : p c := by
 have := h c.toNat (UInt8.toNat_lt c)
 simpa using this
def BufU (w : World) (base : Nat) (v : Value) (l : List UInt8) : Prop := w.ownsRow base 5 1 v l.length (Lib.byteCells l)
theorem u8_info : (Tryd.prog.info? 5).map (fun i => (i.zero, i.size, i.bytes)) = some (some (.int .u8 0), 1, 1) := by kernel_rfl
theorem u8_parts : ∃ i0, Tryd.prog.info? 5 = some i0 ∧ i0.zero = some (.int .u8 0) ∧ i0.size = 1 ∧ i0.bytes = 1 := by
 have h := u8_info;cases hi : Tryd.prog.info? 5 with
 | none => rw [hi] at h; simp at h
 | some i0 =>
   rw [hi] at h;simp at h
   exact ⟨i0, rfl, h.1, h.2.1, h.2.2⟩
theorem byteCells_one (l : List UInt8) : ∀ u ∈ Lib.byteCells l, u.oneCell' = true := by
 intro u hu;simp only [Lib.byteCells, List.mem_map] at hu;obtain ⟨b, _, rfl⟩ := hu;rfl
section
variable {w W : World} {base : Nat} {v : Value} {l : List UInt8}
theorem BufU.below (h : BufU w base v l) (hb : Below w.heap.size w W) : BufU W base v l := ownsRow_only (F := fun _ => False) h (Only.of_below hb) (fun _ _ h => h)
theorem BufU.shape (h : BufU w base v l) : ∃ a cap, v = .slice a l.length cap ∧ l.length ≤ cap ∧ cap ≤ 9223372036854775807 := ownsRow_shape h
theorem BufU.string (h : BufU w base v l) : (convert 47 9 v).run Tryd.prog w = .ok (.string ⟨l.toArray⟩) w := by
 rcases h.2 with ⟨hv, h0⟩ | ⟨g, cap, cur, hv, hb, hg, hnc, hcm, hsz, ht⟩
 · have h1 : l = [] := List.eq_nil_of_length_eq_zero h0
   subst h1;rw [hv];exact Lib.run_convert_nil_bytes w _ _ _ 0 Tryd.underlying47 Tryd.underlying5 Tryd.underlying9
 · have hh := h
   unfold BufU at hh;rw [hv] at hh ⊢;refine run_convert_bytes_back w _ _ 5 ⟨g, 0, none⟩ cap l Tryd.underlying47 Tryd.underlying5 Tryd.underlying9 (fun j hj => ?_);rw [show (⟨g, 0, none⟩ : Addr).add j = ⟨g, j, none⟩ by simp [Addr.add]; omega, World.ownsRow.cellAt (g := g) (cap := cap) hh j (by omega)];simp [Lib.byteCells, List.getElem?_eq_getElem hj]
end
end Go.Proofs.YtjiemkidmlgbeaaDoor
namespace Go.Proofs.YtjiemkidmlgbeaaDoor
open Go.RowKit Tok
theorem size_list (s : ByteArray) : s.data.toList.length = s.size := Array.length_toList
section
variable {p : UInt8 → Bool}
theorem span_le : ∀ (l : List UInt8), span p l ≤ l.length
 | [] => Nat.le_refl _
 | c :: l => by
   unfold span;split
   · have := span_le l; simp; omega
   · exact Nat.zero_le _
theorem span_in : ∀ (l : List UInt8) (j : Nat) (h : j < span p l), p (l[j]'(Nat.lt_of_lt_of_le h (span_le l))) = true
 | [], j, h => by simp [span] at h
 | c :: l, j, h => by
   by_cases hc : p c = true
   · have e : span p (c :: l) = span p l + 1 := by show (if p c = true then _ else _) = _; rw [if_pos hc]
     match j with
     | 0 => exact hc
     | j + 1 => exact span_in l j (by omega)
   · have e : span p (c :: l) = 0 := by show (if p c = true then _ else _) = _; rw [if_neg hc]
     omega
theorem span_out : ∀ (l : List UInt8) (h : span p l < l.length), p l[span p l] = false
 | [], h => by simp at h
 | c :: l, h => by
   by_cases hc : p c = true
   · have e : span p (c :: l) = span p l + 1 := by show (if p c = true then _ else _) = _; rw [if_pos hc]
     have h' : span p l < l.length := by rw [e] at h; simpa using h
     have := span_out l h'
     simpa [e] using this
   · have e : span p (c :: l) = 0 := by show (if p c = true then _ else _) = _; rw [if_neg hc]
     simp only [e]
     simpa using hc
end
end Go.Proofs.YtjiemkidmlgbeaaDoor
namespace Go.Proofs.YtjiemkidmlgbeaaDoor
open Go.RowKit Tok
section
variable {w W : World} {base : Nat} {v : Value} {l : List UInt8}
theorem wpList_append_us {ops : Array Oper} {rest : List Oper} {o : Oper} {a : Act} {Q : Exit → Act → World → Prop} (hgd : o.guard = none) (s x : Operand)
   (ho : o.op = .call { callee := .builtin .append, args := #[s, x], argTypes := #[47, 47] })
   (hs : a.eval s = v) (hown : BufU w base v l) (m : List UInt8) {w2 : World} (hw : w = w2.alloc (.cells (Lib.byteCells m).toArray 5)) (hx : a.eval x = .slice (some ⟨w2.heap.size, 0, none⟩) m.length m.length)
   (hk : l.length + m.length ≤ 1000000000) (hbase : base ≤ w.heap.size)
   (h : ∀ a' cap w', BufU w' base (.slice a' (l.length + m.length) cap) (l ++ m) → Below base w w' → wpList Tryd.prog ops Q rest (a.put o.dst (.slice a' (l.length + m.length) cap)) w') : wpList Tryd.prog ops Q (o :: rest) a w := by
 obtain ⟨i0, hi, hz0, hz1, hz2⟩ := u8_parts;subst hw;refine wpList_append_own_at _ hgd s x 47 ho base 5 i0 (.int .u8 0) 1 1 Tryd.underlying47 hi hz0 hz1 hz2 rfl (by decide) v l.length (Lib.byteCells l) hs hown ⟨w2.heap.size, 0, none⟩ m.length m.length (Lib.byteCells m) hx (by rw [Lib.byteCells_length]; omega) (fun j u hj => cells_new w2 (Lib.byteCells m) _ j u hj) (byteCells_one m) (by unfold maxLen; omega) (by omega) hbase ?_;intro v' w' h2 h3 _ _;obtain ⟨a', cap, rfl, _⟩ := ownsRow_shape h2;refine h a' cap w' ?_ ((Below.refl base _).grown h3 hbase (fun k hk => (World.ownsRow.lt hown k hk).1));unfold BufU;rw [List.length_append, show Lib.byteCells (l ++ m) = Lib.byteCells l ++ Lib.byteCells m by simp [Lib.byteCells]];exact h2
def PutU (w : World) (base : Nat) (l : List UInt8) (e : Ending) (w' : World) : Prop := ∃ v', e = .returned v' ∧ BufU w' base v' l ∧ Below base w w'
def hxV (x : Int) (h0 : 0 ≤ x) (h1 : x < 16) : Value := .int .u8 (((⟨#[48, 49, 50, 51, 52, 53, 54, 55, 56, 57, 97, 98, 99, 100, 101, 102]⟩ : ByteArray)[x.toNat]'(by show x.toNat < 16; omega)).toNat : Int)
theorem hx_eq (n : Nat) (x : Int) (h0 : 0 ≤ x) (h1 : x < 16) (hn : x = (n : Int)) : hxV x h0 h1 = .int .u8 ((hexD n).toNat : Int) := by
 subst hn;have key : ∀ m, (h : m < 16) → (⟨#[48, 49, 50, 51, 52, 53, 54, 55, 56, 57, 97, 98, 99, 100, 101, 102]⟩ : ByteArray)[m]'h = hexD m := by decide +kernel
 unfold hxV;simp only [Int.toNat_natCast];rw [key n (by omega)]
theorem hx_one (x y : Int) (h0 : 0 ≤ x) (h1 : x < 16) (h2 : 0 ≤ y) (h3 : y < 16) : ∀ u ∈ [Value.int .u8 92, .int .u8 120, hxV x h0 h1, hxV y h2 h3], u.oneCell' = true := by
 intro u hu;simp only [List.mem_cons, List.not_mem_nil, or_false] at hu;rcases hu with rfl | rfl | rfl | rfl <;> rfl
theorem and_all (c : UInt8) : bits BinOp.and IntKind.u8 (c.toNat : Int) 15 = (c.toNat : Int) % 16 := by
 revert c
 refine byte_all ?_
 decide +kernel
set_option maxRecDepth 20000 in
set_option maxHeartbeats 2000000 in
theorem putByte_any (h : BufU w base v l) (hb : base ≤ w.heap.size) (hl : l.length ≤ 100000000) (c : UInt8) :
   Calls Tryd.prog 76 #[v, .int .u8 (c.toNat : Int)] w (PutU w base (l ++ escL c)) := by
 have hsh := h.shape;have hB := Lib.hid (fun (m : List UInt8) => BufU.below h ((Below.refl w.heap.size w).alloc (Nat.le_refl _) (.cells (Lib.byteCells m).toArray 5)));by_cases h1 : c.toNat = 34 ∨ c.toNat = 92
 · have he : escL c = [92, c] := if_pos h1
   rw [he];have hq : (((c.toNat : Int) == 34) = true) ∨ ((((c.toNat : Int) == 34) = false) ∧ (((c.toNat : Int) == 92) = true)) := by
     rcases h1 with h1 | h1
     · left; rw [h1]; rfl
     · right; rw [h1]; exact ⟨rfl, rfl⟩
   clear h1 he;rcases hq with q1 | ⟨q1, q2⟩
   all_goals
     go_enter Tryd.func76, Tryd.ntmps76
     go_wp2_with (at_builtin; (refine wpList_append_us rfl _ _ rfl rfl (hB.out [92, c]) [92, c] rfl rfl (by simp; omega) (by simp; omega) ?_; intro a' cap' w3 hB3 hO3))
     go_ret
     exact ⟨_, rfl, hB3, ((Below.refl base w).alloc hb _).trans hO3⟩
 · have n1 : ((c.toNat : Int) == 34) = false := beq_eq_false_iff_ne.2 (by omega)
   have n2 : ((c.toNat : Int) == 92) = false := beq_eq_false_iff_ne.2 (by omega);by_cases h2 : c.toNat = 10
   · have he : escL c = [92, 110] := by unfold escL; rw [if_neg h1, if_pos h2]
     rw [he];have q1 : ((c.toNat : Int) == 10) = true := by rw [h2]; rfl
     clear h1 he;replace h2 := Lib.hid h2;go_enter Tryd.func76, Tryd.ntmps76
     go_wp2_with (at_builtin; (refine wpList_append_us rfl _ _ rfl rfl (hB.out [92, 110]) [92, 110] rfl rfl (by simp; omega) (by simp; omega) ?_; intro a' cap' w3 hB3 hO3))
     go_ret
     exact ⟨_, rfl, hB3, ((Below.refl base w).alloc hb _).trans hO3⟩
   · have q1 : ((c.toNat : Int) == 10) = false := beq_eq_false_iff_ne.2 (by omega)
     rcases hp : plainC c with _ | _
     · have k1 := Lib.hid (fun W => calls_at (isPlain_any c W) hp)
       have he : escL c = [92, 120, hexD (c.toNat / 16), hexD (c.toNat % 16)] := by unfold escL; rw [if_neg h1, if_neg h2, if_neg (by rw [hp]; simp)]
       rw [he];clear h1 h2 hp he;go_enter Tryd.func76, Tryd.ntmps76
       go_wp2_with fail
       refine (k1.out _).mono ?_;rintro e w2 ⟨rfl, rfl⟩;obtain ⟨i0, hi, hz0, hz1, hz2⟩ := u8_parts;have b1 : (0 : Int) ≤ (c.toNat : Int) / 16 := by omega
       have b2 : (c.toNat : Int) / 16 < 16 := by have := UInt8.toNat_lt c; omega
       have hand : bits BinOp.and IntKind.u8 (c.toNat : Int) 15 = (c.toNat : Int) % 16 := and_all c;have b3 : (0 : Int) ≤ (c.toNat : Int) % 16 := by omega
       have b4 : (c.toNat : Int) % 16 < 16 := by omega
       have hown := Lib.hid (fun W (hW : Below w2.heap.size w2 W) => BufU.below h hW);go_wp2_with fail
       go_region_law ((refine step_append_lies (w2.drew.alloc (.cells #[.int .u8 92, .int .u8 120, hxV ((c.toNat : Int) / 16) b1 b2, hxV ((c.toNat : Int) % 16) b3 b4] 5)) rfl (.tmp 26) (.tmp 33) 47 rfl base 5 i0 (.int .u8 0) 1 1 Tryd.underlying47 hi hz0 hz1 hz2 rfl (by decide) v l.length (Lib.byteCells l) rfl (hown.out _ ((Below.refl _ w2).drew.alloc (Nat.le_refl _) _)) ⟨w2.heap.size, 0, none⟩ 4 4 [.int .u8 92, .int .u8 120, hxV ((c.toNat : Int) / 16) b1 b2, hxV ((c.toNat : Int) % 16) b3 b4] rfl rfl (fun j u hj => cells_new w2.drew _ _ j u hj) (hx_one _ _ _ _ _ _) (by omega) (by unfold maxLen; omega) (by omega) (by simp; omega) _ rfl ?_; intro g cap w3 h2 h3 _ _))
       all_goals
         go_wp2_with fail
         go_ret
         refine ⟨_, rfl, ?_, ((Below.refl base w2).drew.alloc hb _).grown h3 (by simp; omega) (fun k hk => (World.ownsRow.lt h k hk).1)⟩;rw [hx_eq (c.toNat / 16) _ b1 b2 (by omega), hx_eq (c.toNat % 16) _ b3 b4 (by omega)] at h2;unfold BufU;rw [List.length_append, show Lib.byteCells (l ++ [92, 120, hexD (c.toNat / 16), hexD (c.toNat % 16)]) = Lib.byteCells l ++ Lib.byteCells [92, 120, hexD (c.toNat / 16), hexD (c.toNat % 16)] by simp [Lib.byteCells]];exact h2
     · have k1 := Lib.hid (fun W => calls_at (isPlain_any c W) hp)
       have he : escL c = [c] := by unfold escL; rw [if_neg h1, if_neg h2, if_pos hp]
       rw [he];clear h1 h2 hp he;go_enter Tryd.func76, Tryd.ntmps76
       go_wp2_with fail
       refine (k1.out _).mono ?_;rintro e w2 ⟨rfl, rfl⟩;go_wp2_with (at_builtin; (refine wpList_append_us rfl _ _ rfl rfl (hB.out [c]) [c] rfl rfl (by simp; omega) (by simp; omega) ?_; intro a' cap' w3 hB3 hO3))
       go_ret
       exact ⟨_, rfl, hB3, ((Below.refl base _).alloc hb _).trans hO3⟩
end
end Go.Proofs.YtjiemkidmlgbeaaDoor
namespace Go.Proofs.YtjiemkidmlgbeaaDoor
open Go.RowKit Tok
theorem escL_len (c : UInt8) : (escL c).length ≤ 4 := by
 unfold escL
 repeat' split
 all_goals simp
theorem esc_take {s : ByteArray} {i : Nat} (h : i < s.size) : (s.data.toList.take (i + 1)).flatMap escL = (s.data.toList.take i).flatMap escL ++ escL s[i] := by
 rw [List.take_succ_eq_append_getElem (by simpa using h), List.flatMap_append];simp
 rfl
theorem esc_len : ∀ tx : List UInt8, (tx.flatMap escL).length ≤ 4 * tx.length
 | [] => by simp
 | c :: tx => by
   have h1 := escL_len c;have h2 := esc_len tx;rw [List.flatMap_cons, List.length_append, List.length_cons];omega
section
variable {w W : World} {base : Nat} {v : Value} {l : List UInt8}
set_option maxRecDepth 20000 in
set_option maxHeartbeats 2000000 in
theorem putText_any (h : BufU w base v l) (hb : base ≤ w.heap.size) (s : ByteArray) (hl : l.length + 4 * s.size ≤ 90000000) :
   Calls Tryd.prog 44 #[v, .string s] w (PutU w base (l ++ textL s.data.toList)) := by
 have hsh := h.shape;have hB := Lib.hid (BufU.below h ((Below.refl w.heap.size w).alloc (Nat.le_refl _) (.cells (Lib.byteCells [34]).toArray 5)));go_enter Tryd.func44, Tryd.ntmps44
 go_wp2_with (at_builtin; (refine wpList_append_us rfl _ _ rfl rfl hB.out [34] rfl rfl (by simp; omega) (by simp; omega) ?_; intro a' cap' w3 hB3 hO3))
 replace hB3 := Lib.hid hB3;have hO4 := Lib.hid (((Below.refl base w).alloc hb (.cells (Lib.byteCells [34]).toArray 5)).trans hO3);clear hO3;go_loopw [0, 5, 11] (fun t0 _ t11 wr => ∃ i : Nat, i ≤ s.size ∧ t11 = .int .i64 i ∧ Hid (BufU wr base t0 (l ++ 34 :: (s.data.toList.take i).flatMap escL)) ∧ Hid (Below base w wr)) (fun _ _ t11 _ => s.size - (intOf t11).toNat)
 case atStart => exact ⟨0, by omega, rfl, by simpa using hB3, hO4⟩
 case round =>
   obtain ⟨i, hi, rfl, hBi, hOi⟩ := hrel;have hbr : base ≤ wr.heap.size := Nat.le_trans hb hOi.out.size;have hlen := esc_len (s.data.toList.take i);rw [List.length_take, size_list, Nat.min_eq_left hi] at hlen;have hX : (l ++ 34 :: (s.data.toList.take i).flatMap escL).length ≤ l.length + 1 + 4 * i := by
     rw [List.length_append, List.length_cons];omega
   rcases Nat.lt_or_ge i s.size with hlt | hge
   · have hlti : ((i : Int) < (s.size : Int)) := by omega
     have hn : (l ++ 34 :: (s.data.toList.take (i + 1)).flatMap escL) = (l ++ 34 :: (s.data.toList.take i).flatMap escL) ++ escL s[i] := by
       rw [esc_take hlt];simp
     generalize l ++ 34 :: (s.data.toList.take i).flatMap escL = X at hBi hX hn;replace hn := Lib.hid hn;have k1 := Lib.hid (putByte_any hBi.out hbr (by omega) s[i]);obtain ⟨a0, c0, rfl, _, _⟩ := hBi.out.shape;go_wp2_with fail
     refine k1.out.mono ?_;rintro e w2 ⟨v2, rfl, hB2, hO2⟩;replace hB2 := Lib.hid hB2;replace hO2 := Lib.hid hO2;clear k1 hlen;go_wp2
     go_roundw
     case rel => exact ⟨i + 1, by omega, by simp, by rw [hn.out]; exact hB2, hOi.out.trans hO2.out⟩
     case measure => simp [intOf]; omega
   · obtain rfl : i = s.size := by omega
     have hfull : s.data.toList.take s.size = s.data.toList := by rw [List.take_of_length_le]; simp
     have hn : l ++ textL s.data.toList = (l ++ 34 :: (s.data.toList.take s.size).flatMap escL) ++ [34] := by
       rw [hfull];simp [textL]
     replace hn := Lib.hid hn;clear hlen hfull;generalize l ++ 34 :: (s.data.toList.take s.size).flatMap escL = X at hBi hX hn;have hB5 := Lib.hid (BufU.below hBi.out ((Below.refl wr.heap.size wr).alloc (Nat.le_refl _) (.cells (Lib.byteCells [34]).toArray 5)));obtain ⟨a0, c0, rfl, _, _⟩ := hBi.out.shape;go_wp2_with (at_builtin; (refine wpList_append_us rfl _ _ rfl rfl hB5.out [34] rfl rfl (by simp; omega) (by simp; omega) ?_; intro a6 cap6 w6 hB6 hO6))
     go_ret
     refine ⟨_, rfl, ?_, hOi.out.trans (((Below.refl base wr).alloc hbr _).trans hO6)⟩;rw [hn.out];exact hB6
end
end Go.Proofs.YtjiemkidmlgbeaaDoor
namespace Go.Proofs.YtjiemkidmlgbeaaDoor
open Go.RowKit Tok
def SignsOK (w : World) : Prop := ∀ i, i < 17 → w.cell? ⟨0, i, none⟩ = some (.string ⟨(signs.getD i []).toArray⟩)
theorem SignsOK.below {w W : World} (h : SignsOK w) (hb : Below w.heap.size w W) : SignsOK W := by
 intro i hi;have h0 := h i hi;exact (hb.cell (p := ⟨0, i, none⟩) (World.block_lt_of_cell? w _ h0)).trans h0
def signsV : Value := .agg #[.string ⟨#[61, 61]⟩, .string ⟨#[33, 61]⟩, .string ⟨#[60, 61]⟩, .string ⟨#[40]⟩, .string ⟨#[41]⟩, .string ⟨#[123]⟩, .string ⟨#[125]⟩, .string ⟨#[91]⟩, .string ⟨#[93]⟩, .string ⟨#[44]⟩, .string ⟨#[61]⟩, .string ⟨#[60]⟩, .string ⟨#[43]⟩, .string ⟨#[45]⟩, .string ⟨#[42]⟩, .string ⟨#[47]⟩, .string ⟨#[37]⟩]
theorem index_arr {cs : Array Value} {j : Nat} {v : Value} (hj : j < 17) (e : cs[j]? = some v) (w : World) : (Instr.index 89 (.agg cs) (.int .i64 (j : Int))).run Tryd.prog w = .ok v w := by
 have h := Tryd.underlying89;have hj2 : (j : Int) < 17 := by omega
 have hg : (isAgg 9).run Tryd.prog w = .ok false w := by simp [isAgg, run_underlying Tryd.underlying9, go_sem]
 simp [Instr.index, run_underlying h, asIntOf, part, e, go_sem]
 intro h2;omega
theorem index_sign {j : Nat} (hj : j < 17) (w : World) : (Instr.index 89 signsV (.int .i64 (j : Int))).run Tryd.prog w = .ok (.string ⟨(signs.getD j []).toArray⟩) w := by
 have e : (#[Value.string ⟨#[61, 61]⟩, .string ⟨#[33, 61]⟩, .string ⟨#[60, 61]⟩, .string ⟨#[40]⟩, .string ⟨#[41]⟩, .string ⟨#[123]⟩, .string ⟨#[125]⟩, .string ⟨#[91]⟩, .string ⟨#[93]⟩, .string ⟨#[44]⟩, .string ⟨#[61]⟩, .string ⟨#[60]⟩, .string ⟨#[43]⟩, .string ⟨#[45]⟩, .string ⟨#[42]⟩, .string ⟨#[47]⟩, .string ⟨#[37]⟩] : Array Value)[j]? = some (.string ⟨(signs.getD j []).toArray⟩) := by
   have : ∀ j, j < 17 → (#[Value.string ⟨#[61, 61]⟩, .string ⟨#[33, 61]⟩, .string ⟨#[60, 61]⟩, .string ⟨#[40]⟩, .string ⟨#[41]⟩, .string ⟨#[123]⟩, .string ⟨#[125]⟩, .string ⟨#[91]⟩, .string ⟨#[93]⟩, .string ⟨#[44]⟩, .string ⟨#[61]⟩, .string ⟨#[60]⟩, .string ⟨#[43]⟩, .string ⟨#[45]⟩, .string ⟨#[42]⟩, .string ⟨#[47]⟩, .string ⟨#[37]⟩] : Array Value)[j]? = some (.string ⟨(signs.getD j []).toArray⟩) := by
     intro j hj
     match j, hj with
     | 0, _ | 1, _ | 2, _ | 3, _ | 4, _ | 5, _ | 6, _ | 7, _ | 8, _ | 9, _ | 10, _ | 11, _ | 12, _ | 13, _ | 14, _ | 15, _ | 16, _ => rfl
     | j + 17, h => omega
   exact this j hj
 exact index_arr hj e w
end Go.Proofs.YtjiemkidmlgbeaaDoor
namespace Go.Proofs.YtjiemkidmlgbeaaDoor
open Go.RowKit Tok
theorem sign_from {j : Nat} (hj : j < 17) (S : List UInt8) : decide (S ∈ signs.drop j) = (decide (S = signs.getD j []) || decide (S ∈ signs.drop (j + 1))) := by
 have hl : j < signs.length := hj;have e : signs.getD j [] = signs[j] := by rw [List.getD_eq_getElem?_getD, List.getElem?_eq_getElem hl]; rfl
 rw [List.drop_eq_getElem_cons hl, e];generalize signs[j] = T;generalize List.drop (j + 1) signs = L;by_cases h1 : S = T
 · rw [decide_eq_true h1, decide_eq_true (List.mem_cons.2 (.inl h1))]; rfl
 · rw [decide_eq_false h1, Bool.false_or]
   exact decide_eq_decide.2 ⟨fun h => (List.mem_cons.1 h).resolve_left h1, fun h => List.mem_cons.2 (.inr h)⟩
set_option maxRecDepth 20000 in
set_option maxHeartbeats 2000000 in
theorem isSign_any (S : List UInt8) (w : World) (hS : SignsOK w) :
   Calls Tryd.prog 42 #[.string ⟨S.toArray⟩] w fun e w' => e = .returned (.bool (decide (S ∈ signs))) ∧ w' = w := by
 obtain ⟨B, hB⟩ := exHid (decide (S ∈ signs));rw [hB.out];have s0 := hS 0 (by omega); have s1 := hS 1 (by omega); have s2 := hS 2 (by omega); have s3 := hS 3 (by omega); have s4 := hS 4 (by omega); have s5 := hS 5 (by omega); have s6 := hS 6 (by omega); have s7 := hS 7 (by omega); have s8 := hS 8 (by omega); have s9 := hS 9 (by omega); have s10 := hS 10 (by omega); have s11 := hS 11 (by omega); have s12 := hS 12 (by omega); have s13 := hS 13 (by omega); have s14 := hS 14 (by omega); have s15 := hS 15 (by omega); have s16 := hS 16 (by omega);simp only [signs, List.getD_cons_zero, List.getD_cons_succ] at s0 s1 s2 s3 s4 s5 s6 s7 s8 s9 s10 s11 s12 s13 s14 s15 s16;clear hS;go_enter Tryd.func42, Tryd.ntmps42
 go_wp2
 clear s0 s1 s2 s3 s4 s5 s6 s7 s8 s9 s10 s11 s12 s13 s14 s15 s16;go_loop [4, 6] (fun t4 t6 => ∃ j : Nat, j ≤ 17 ∧ t6 = .int .i64 j ∧ Hid (decide (S ∈ signs.drop j) = B)) (fun _ t6 => 17 - (intOf t6).toNat)
 case atStart => exact ⟨0, by omega, rfl, by simpa using hB⟩
 case round =>
   obtain ⟨j, hj, rfl, hsg⟩ := hrel;rcases Nat.lt_or_ge j 17 with hjl | hjg
   · have hjli : (j : Int) < 17 := by omega
     have hix := index_sign hjl w;unfold signsV at hix;have hst := sign_from hjl S;rw [hsg.out] at hst;generalize signs.getD j [] = T at *;by_cases hq : S = T
     · have hv : B = true := by rw [hst, decide_eq_true hq]; rfl
       have e1 : (S == T) = true := beq_iff_eq.2 hq;replace hv := Lib.hid hv;replace hst := Lib.hid hst;replace hq := Lib.hid hq;go_wp2
       go_ret
       exact ⟨ret_bool (by rw [hv.out]), rfl⟩
     · have e1 : (S == T) = false := beq_eq_false_iff_ne.2 hq
       rw [decide_eq_false hq, Bool.false_or] at hst;have hst' := Lib.hid hst.symm;clear hst;replace hq := Lib.hid hq;go_wp2
       go_round
       case rel => exact ⟨j + 1, by omega, by go_num, hst'⟩
       case measure => simp [intOf]; omega
   · obtain rfl : j = 17 := by omega
     have hv : B = false := by
       rw [← hsg.out];exact decide_eq_false (by simp [signs])
     replace hv := Lib.hid hv;go_wp2
     go_ret
     exact ⟨ret_bool (by rw [hv.out]), rfl⟩
end Go.Proofs.YtjiemkidmlgbeaaDoor
namespace Go.Proofs.YtjiemkidmlgbeaaDoor
open Go.RowKit Tok
theorem tname_at {tx : List UInt8} {b : Bool} (h : nameL tx = b) (hl : tx.length ≤ 9223372036854775807) (W : World) :
   Calls Tryd.prog 41 #[.string ⟨tx.toArray⟩] W fun e w' => e = .returned (.bool b) ∧ w' = W := by
 have h1 := name_any ⟨tx.toArray⟩ W (by simp [ByteArray.size]; omega);refine h1.mono fun e w' ⟨he, hw⟩ => ⟨?_, hw.symm⟩
 rw [he];exact ret_bool (by simpa using h)
theorem sign_at {tx : List UInt8} {b : Bool} (h : decide (tx ∈ signs) = b) (W : World) (hS : SignsOK W) :
   Calls Tryd.prog 42 #[.string ⟨tx.toArray⟩] W fun e w' => e = .returned (.bool b) ∧ w' = W := by
 have h1 := isSign_any tx W hS;rw [h] at h1;exact h1
theorem tx_none (tx : List UInt8) {b : Bool} (h : decide (tx = []) = b) : (tx == []) = b := by
 subst h;by_cases hx : tx = []
 · rw [hx]; rfl
 · rw [decide_eq_false hx]; exact beq_eq_false_iff_ne.2 hx
theorem len_most (tx : List UInt8) {b : Bool} (h : decide (tx.length ≤ 4095) = b) : decide ((tx.length : Int) ≤ 4095) = b := by
 rw [← h];exact decide_eq_decide.2 (by omega)
theorem num_none (x : Int) {b : Bool} (h : decide (x = 0) = b) : (x == 0) = b := by
 subst h;by_cases hx : x = 0
 · rw [hx]; rfl
 · rw [decide_eq_false hx]; exact beq_eq_false_iff_ne.2 hx
set_option maxRecDepth 20000 in
set_option maxHeartbeats 4000000 in
theorem isTold_any (t : Tg) (w : World) (hS : SignsOK w) (hl : t.text.length ≤ 9223372036854775807) :
   Calls Tryd.prog 21 #[tgV t] w fun e w' => e = .returned (.bool (told t)) ∧ Below w.heap.size w w' := by
 obtain ⟨kd, tx, x, at_⟩ := t;obtain ⟨B, hB⟩ := exHid (told ⟨kd, tx, x, at_⟩);rw [hB.out];unfold tgV; dsimp only at *;have hk := Below.refl w.heap.size w;have hB' := hB.out;unfold told at hB'; dsimp only at hB';clear hB;by_cases c1 : kd = 1
 · subst c1; rw [if_pos rfl] at hB'
   rcases hn : nameL tx with _ | _ <;> rcases hx : decide (x = 0) with _ | _
   all_goals
     rw [hn, hx] at hB';have kN := Lib.hid (fun W => tname_at hn hl W);replace hB' := Lib.hid hB';have q := num_none x hx;clear hn hx hS;go_enter Tryd.func21, Tryd.ntmps21
     go_wp2
     go_region_with (go_at_call 41; refine (kN.out _).mono ?_; rintro e w' ⟨rfl, rfl⟩)
     all_goals
       go_wp2
       go_ret
       exact ⟨ret_bool (by rw [← hB'.out]; try rfl), by go_grown⟩
 · rw [if_neg c1] at hB'
   have n1 : ((kd : Int) == 1) = false := beq_eq_false_iff_ne.2 (by omega);by_cases c2 : kd = 2
   · subst c2; rw [if_pos rfl] at hB'
     rcases hn : decide (0 ≤ x) with _ | _ <;> rcases hx : decide (tx = []) with _ | _
     all_goals
       rw [hn, hx] at hB';replace hB' := Lib.hid hB';have q := tx_none tx hx;replace hx := Lib.hid hx;clear hS;go_enter Tryd.func21, Tryd.ntmps21
       go_wp2
       go_region
       all_goals
         go_wp2
         go_ret
         exact ⟨ret_bool (by rw [← hB'.out]; try rfl), by go_grown⟩
   · rw [if_neg c2] at hB'
     have n2 : ((kd : Int) == 2) = false := beq_eq_false_iff_ne.2 (by omega);by_cases c3 : kd = 3
     · subst c3; rw [if_pos rfl] at hB'
       rcases hn : decide (tx.length ≤ 4095) with _ | _ <;> rcases hx : decide (x = 0) with _ | _
       all_goals
         rw [hn, hx] at hB';replace hB' := Lib.hid hB';have q := num_none x hx;have q2 := len_most tx hn;clear hn hx hS;go_enter Tryd.func21, Tryd.ntmps21
         go_wp2
         go_region
         all_goals
           go_wp2
           go_ret
           exact ⟨ret_bool (by rw [← hB'.out]; try rfl), by go_grown⟩
     · rw [if_neg c3] at hB'
       have n3 : ((kd : Int) == 3) = false := beq_eq_false_iff_ne.2 (by omega);by_cases c4 : kd = 4
       · subst c4; rw [if_pos rfl] at hB'
         rcases hn : decide (tx ∈ signs) with _ | _ <;> rcases hx : decide (x = 0) with _ | _
         all_goals
           rw [hn, hx] at hB';have kS := Lib.hid (fun W (hW : Below w.heap.size w W) => sign_at hn W (hS.below hW));replace hB' := Lib.hid hB';have q := num_none x hx;clear hn hx hS;go_enter Tryd.func21, Tryd.ntmps21
           go_wp2
           go_region_with (go_at_call 42; refine (kS.out _ (by go_grown)).mono ?_; rintro e w' ⟨rfl, rfl⟩)
           all_goals
             go_wp2
             go_ret
             exact ⟨ret_bool (by rw [← hB'.out]; try rfl), by go_grown⟩
       · rw [if_neg c4] at hB'
         have n4 : ((kd : Int) == 4) = false := beq_eq_false_iff_ne.2 (by omega);replace hB' := Lib.hid hB';clear hS;go_enter Tryd.func21, Tryd.ntmps21
         go_wp2
         go_ret
         exact ⟨ret_bool (by rw [← hB'.out]; try rfl), by go_grown⟩
end Go.Proofs.YtjiemkidmlgbeaaDoor
