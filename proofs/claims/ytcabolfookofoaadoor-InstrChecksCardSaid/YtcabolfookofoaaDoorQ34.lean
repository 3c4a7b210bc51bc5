/- A part of the proof: IOpen, GWdL, ICLw. No condition. -/
import Derived.Deep.Slices
import Derived.Deep.Fields
import Derived.ChangeSame
import Derived.ProofKit
import Derived.OpenShut
import Derived.SizedLaws
import Derived.Carry
import Derived.Maps.AppendAt
import Derived.Stop.LaidErr
import Derived.Lib.LaidTab
import Derived.Test.YtcabolfookofoaaDoorQ03
import Derived.Test.YtcabolfookofoaaDoorQ24
import Derived.Test.YtcabolfookofoaaDoorQ33
set_option linter.unusedVariables false
set_option linter.unusedSimpArgs false
namespace Go.Proofs.YtcabolfookofoaaDoor
open Go.RowKit Go.ChangeShapes Go.WideShapes Go.Deep
section
variable {H : Type} {enc : TypeId × Value → H} {P : Program} {w : World} {base : Nat} {spare : Nat → Bool} {held : Bool}
theorem open_slice_fields {t e : TypeId} {fs : Array Field} {fuel : Nat} {cs : List Value} {x : DataW H × List MemPlace} (ht : P.underlying t = some (.slice e)) (he : P.underlying e = some (.struct fs))
   (hone : oneCellFields P fs = true) (hC : P.cellsOf e = fs.size) (h : DataW.trod enc P w base spare held fuel t cs = some x) :
   (cs = [.slice none 0 0] ∧ x = (.nil, [])) ∨
   ∃ (a : Addr) (len cap m : Nat) (D : Nat → DataW H) (Pl : Nat → List MemPlace), cs = [.slice (some a) len cap] ∧ base ≤ a.block ∧ len ≤ cap ∧ cap ≤ maxLen ∧ m = (if spare a.block then cap else len) ∧
     x = (.slice ((List.range len).map D) ((List.range (m - len)).map fun j => D (len + j)), MemPlace.row a (m * fs.size) ++ (List.range m).flatMap Pl) ∧
     ∀ i, i < m → ∃ (ys : List (DataW H × List MemPlace)) (n : Nat), D i = .agg (ys.map (·.1)) ∧ Pl i = ys.flatMap (·.2) ∧ ys.length = fs.size ∧
       ∀ (j : Nat) (f : Field), fs[j]? = some f → ∃ (v : Value) (y : DataW H × List MemPlace), w.cell? (a.add (i * fs.size + j)) = some v ∧ ys[j]? = some y ∧ DataW.trod enc P w base spare held n f.type [v] = some y := by
 rcases open_slice ht h with h0 | ⟨a, len, cap, m, n, D, Pl, hcs, hb, hl, hm, hmm, hx, hi⟩
 · exact .inl h0
 · refine .inr ⟨a, len, cap, m, D, Pl, hcs, hb, hl, hm, hmm, by rw [hC] at hx; exact hx, fun i him => ?_⟩
   obtain ⟨cs', hc, ht'⟩ := hi i him;rw [hC] at hc;obtain ⟨ys, n', hn', hy, hlen, hyl, hf⟩ := DataW.trod_struct he ht';obtain ⟨_, hcl, hat⟩ := World.cells?_some hc;simp only [Prod.mk.injEq] at hy;refine ⟨ys, n', hy.1, hy.2, hyl, fun j f hj => ?_⟩;obtain ⟨ho, hk⟩ := hone_of hone j f hj;have hjl : j < fs.size := (Array.getElem?_eq_some_iff.1 hj).1;have hcell := hat j hjl;have hv : cs'[j]? = some (cs'[j]'(by omega)) := List.getElem?_eq_getElem (by omega);have h1 := hf j f hj;rw [ho, hk] at h1;have hone' : (cs'.drop j).take 1 = [cs'[j]'(by omega)] := by
     rw [List.drop_eq_getElem_cons (by omega)];rfl
   rw [hone'] at h1;have hys : ys[j]? = some (ys[j]'(by omega)) := List.getElem?_eq_getElem (by omega);refine ⟨_, _, ?_, hys, h1.trans hys⟩;rw [← Go.Deep.add_add, hcell, hv]
end
theorem i64_of_wf' {a : Int} (h : (Lit.int .i64 a).wf = true) : I64 a := by
 simp [Lit.wf, IntKind.min, IntKind.max, IntKind.signed, IntKind.bits] at h
 exact ⟨by omega, by omega⟩
def InssIn (w : World) (v : Value) : Prop := ∃ ts, InsIn w v ts ∧ (∀ t ∈ ts, FitIns t) ∧ ∀ len cap, v = .slice none len cap → len = 0 ∧ cap = 0
theorem inssIn_of_trod {H : Type} {enc : TypeId × Value → H} {P : Program} {W : World} {t e : TypeId} {f0 f1 f2 f3 : Field} {v : Value} {d : DataW H} {ps : List MemPlace}
   (ht : P.underlying t = some (.slice e)) (he : P.underlying e = some (.struct #[f0, f1, f2, f3])) (hone : oneCellFields P #[f0, f1, f2, f3] = true) (hc : P.cellsOf e = 4)
   (h0 : P.underlying f0.type = some (.int .u8)) (h1 : P.underlying f1.type = some (.int .i64)) (h2 : P.underlying f2.type = some (.int .i64)) (h3 : P.underlying f3.type = some .string)
   (hv : ∃ a len cap, v = .slice a len cap) (h : DataW.Trod enc P W 0 (fun _ => true) true t v d ps) : InssIn W v := by
 obtain ⟨a0, len, cap, rfl⟩ := hv;obtain ⟨fuel, hf⟩ := h;rcases open_slice_fields ht he hone hc hf with ⟨hcs, _⟩ | ⟨a, len', cap', m, Dt, Pl, hcs, _, hl, hm, hmm, _, hi⟩
 · simp [Value.cells] at hcs
   obtain ⟨rfl, rfl, rfl⟩ := hcs;exact ⟨[], ⟨none, 0, rfl, by simp, by omega, fun h => by simp at h⟩, by simp, fun len cap h => by cases h; exact ⟨rfl, rfl⟩⟩
 · simp [Value.cells] at hcs
   obtain ⟨rfl, rfl, rfl⟩ := hcs;simp only [if_true] at hmm;have key : ∀ j, ∃ s : Ins, j < len → FitIns s ∧ (W.cell? (a.add (j * 4)) = some (.int .u8 s.op) ∧ W.cell? (a.add (j * 4 + 1)) = some (.int .i64 s.a) ∧ W.cell? (a.add (j * 4 + 2)) = some (.int .i64 s.num) ∧ W.cell? (a.add (j * 4 + 3)) = some (.string ⟨s.text.toArray⟩)) := by
     intro j;by_cases hj : j < len
     · obtain ⟨ys, n, _, _, hyl, hg⟩ := hi j (by omega)
       obtain ⟨v0, y0, c0, _, t0⟩ := hg 0 f0 rfl;obtain ⟨v1, y1, c1, _, t1⟩ := hg 1 f1 rfl;obtain ⟨v2, y2, c2, _, t2⟩ := hg 2 f2 rfl;obtain ⟨v3, y3, c3, _, t3⟩ := hg 3 f3 rfl;obtain ⟨n0, e0, _, w0⟩ := DataW.trod_int h0 t0;obtain ⟨n1, e1, _, w1⟩ := DataW.trod_int h1 t1;obtain ⟨n2, e2, _, w2⟩ := DataW.trod_int h2 t2;obtain ⟨s3, e3, _, w3⟩ := DataW.trod_string h3 t3;simp only [List.cons.injEq, and_true] at e0 e1 e2 e3;subst e0; subst e1; subst e2; subst e3;have hn0 : 0 ≤ n0 := by
         simp only [Lit.wf, Bool.and_eq_true, decide_eq_true_eq] at w0;exact w0.1
       obtain ⟨k0, rfl⟩ := Int.eq_ofNat_of_zero_le hn0;refine ⟨⟨k0, n1, n2, s3.data.toList⟩, fun _ => ⟨⟨?_, i64_of_wf' w1, i64_of_wf' w2, ?_⟩, c0, c1, c2, c3⟩⟩
       · show s3.data.toList.length ≤ _
         rw [Array.length_toList];unfold maxLen at w3;exact w3
       · simp [Lit.wf, IntKind.min, IntKind.max, IntKind.signed, IntKind.bits] at w0
         show k0 < 256
         omega
     · exact ⟨⟨0, 0, 0, []⟩, fun h => absurd h hj⟩
   obtain ⟨f, hf⟩ := Classical.axiomOfChoice key;have hgl : ((List.range len).map f).length = len := by rw [List.length_map, List.length_range]
   refine ⟨(List.range len).map f, ⟨some a, cap, by rw [hgl], by rw [hgl]; exact hl, hm, ?_⟩, ?_, fun len cap h => by cases h⟩
   · intro hpos
     rw [hgl] at hpos;obtain ⟨b, off, spot⟩ := a;have hspot : spot = none := by simpa [Addr.add] using World.cell?_spot (hf 0 hpos).2.1
     subst hspot;refine ⟨b, off, rfl, ?_, fun j hj c hc' => ?_⟩
     · have := (hf 0 hpos).2.1
       rw [add_plain] at this;exact World.block_lt_of_cell? W _ this
     · have hj' : j < len := by simpa using hj
       obtain ⟨g0, g1, g2, g3⟩ := (hf j hj').2;rw [add_plain] at g0 g1 g2 g3;rw [List.getElem_map, List.getElem_range]
       match c, hc' with
       | 0, _ => exact g0
       | 1, _ => rw [Nat.add_assoc]; exact g1
       | 2, _ => rw [Nat.add_assoc]; exact g2
       | 3, _ => rw [Nat.add_assoc]; exact g3
   · intro s hs
     obtain ⟨j, hj, rfl⟩ := List.mem_map.1 hs;exact (hf j (List.mem_range.1 hj)).1
end Go.Proofs.YtcabolfookofoaaDoor
namespace Go.Proofs.YtcabolfookofoaaDoor
open Go.RowKit Go.ChangeShapes
theorem cells_of_strs {H : Type} {enc : TypeId × Value → H} {P : Program} {w : World} {base : Nat} {sp : Nat → Bool} {held : Bool} {fuel : Nat} {t e : TypeId} {n : Nat} {cs : List Value} {zs : List (List UInt8)} {p : List MemPlace}
   (ht : P.underlying t = some (.array n e)) (he : P.underlying e = some .string) (hce : P.cellsOf e = 1) (hct : P.cellsOf t = n)
   (h : DataW.trod enc P w base sp held fuel t cs = some (.agg (zs.map fun z => .lit (.string z)), p)) : cs = zs.map fun z => Value.string ⟨z.toArray⟩ := by
 cases fuel with
 | zero => simp [DataW.trod] at h
 | succ fuel =>
   simp only [DataW.trod, ht, hce, hct, Nat.mul_one] at h;split at h
   · rename_i hl
     obtain ⟨xs, hm, hx⟩ := Option.map_eq_some_iff.1 h;have hxs : xs.map (·.1) = zs.map fun z => (DataW.lit (.string z) : DataW H) := by
       have := congrArg Prod.fst hx
       simpa using this
     have hxl : xs.length = n := by simpa using Lib.mapM_length hm
     have hzl : zs.length = n := by
       have := congrArg List.length hxs;simp at this
       omega
     apply List.ext_getElem?
     intro i;by_cases hi : i < n
     · obtain ⟨b, hb, hf⟩ := Lib.mapM_at hm i i (by simp [hi])
       obtain ⟨z, hc, rfl, _⟩ := DataW.trod_string he hf;have h1 : cs[i]? = some (.string z) := by
         have := congrArg (·[0]?) hc
         simpa [List.getElem?_take, List.getElem?_drop] using this
       have h2 : (xs.map (·.1))[i]? = some (DataW.lit (.string z.data.toList) : DataW H) := by simp [hb]
       rw [hxs] at h2;simp only [List.getElem?_map, Option.map_eq_some_iff, DataW.lit.injEq, Lit.string.injEq] at h2;obtain ⟨z', hz', h3⟩ := h2;subst h3;simp [h1, hz']
     · rw [List.getElem?_eq_none (by omega), List.getElem?_eq_none (by simp; omega)]
   · cases h
theorem words_num : Tryd.prog.globalNamed "prompter/instr.words" = some 0 := by kernel_rfl
theorem wordsOK_of {r : List (String × DataW Unit)} {W : World} (h : laidMet Tryd.prog (("prompter/instr.words", .agg (wordL.map fun z => .lit (.string z))) :: r) W) : WordsOK W := by
 obtain ⟨ps, ⟨g', t', cs, fuel, p, q, hg', ht', hvar, hd, _, _⟩, _⟩ := h;obtain rfl := Option.some.inj (words_num.symm.trans hg');obtain rfl := Option.some.inj ((show (Tryd.prog.globals[0]?).map (·.type) = some 95 by kernel_rfl).symm.trans ht');have hcs := cells_of_strs Tryd.underlying95 Tryd.underlying9 (by kernel_rfl) (by kernel_rfl) hd;intro i hi;have h1 := World.var?_cell words_num hvar i;have h2 : cs[i]? = cs.toList[i]? := by simp
 rw [h1, h2, hcs];have hl : i < wordL.length := hi;simp [wordI, List.getElem?_map, List.getElem?_eq_getElem hl, List.getD_eq_getElem?_getD]
end Go.Proofs.YtcabolfookofoaaDoor
namespace Go.Proofs.YtcabolfookofoaaDoor
open Go.RowKit
def longB (n : Nat) : Bool := decide (400 < n) && decide (n ≤ 8192)
set_option maxRecDepth 20000 in
theorem long_any (ad : Option Addr) (n cap : Nat) (hn : n ≤ 9223372036854775807) (w : World) : Calls Tryd.prog 5 #[.slice ad n cap] w fun e w' => e = .returned (.bool (longB n)) ∧ w' = w := by
 obtain ⟨B, hB⟩ := exHid (longB n);rw [hB.out];have hB' := hB.out;unfold longB at hB';by_cases h1 : 400 < n
 all_goals by_cases h2 : n ≤ 8192
 all_goals
   have e1 : (400 : Int) < (n : Int) ∨ ¬ (400 : Int) < (n : Int) := Decidable.em _;have e2 : (n : Int) ≤ 8192 ∨ ¬ (n : Int) ≤ 8192 := Decidable.em _;rcases e1 with e1 | e1 <;> rcases e2 with e2 | e2
   all_goals first
     | (exfalso; omega)
     | (replace hB' := Lib.hid hB'
        go_enter Tryd.func5, Tryd.ntmps5
        go_wp2
        go_ret
        refine ⟨ret_bool ?_, rfl⟩;rw [← hB'.out];simp [h1, h2])
set_option maxRecDepth 20000 in
set_option maxHeartbeats 4000000 in
theorem instrChecks_walk (v0 : Value) (s : Int) (w : World) (n0 : InssIn w v0) (hs : I64 s) (hW : WordsOK w) :
   Calls Tryd.prog 3 #[v0, .int .i64 s] w fun e w' => e = .returned (.bool true) ∧ Below w.heap.size w w' := by
 obtain ⟨code, hI, hfit, hnone⟩ := n0;clear hnone;obtain ⟨ad, cap, hv0, hlc, hcm, hbig⟩ := id hI;clear hbig;subst hv0;have AW := awake14_any w hW;have LG := fun W => long_any ad code.length cap (by omega) W
 have CH := fun W (hb : Below w.heap.size w W) => Check_any (hI.below hb) hfit (hW.below hb) hs
 have LK := fun W (hb : Below w.heap.size w W) => Look_any (hI.below hb) hfit hs
 have DP := fun W (hb : Below w.heap.size w W) => Depths_any (hI.below hb) hfit (hW.below hb) hs
 unfold checkV at CH;unfold LookPost at LK;unfold DepsPost at DP;generalize slotsP code s code.length = sl at CH LK;obtain ⟨n, hN⟩ := exHid code.length;rw [hN.out] at LG CH LK DP hlc ⊢;clear hI hfit hlc;replace hW := Lib.hid hW;cases hlb : longB n with
 | true =>
   rw [hlb] at LG;replace LG := Lib.hid LG;clear CH LK DP;go_enter Tryd.func3, Tryd.ntmps3
   go_wp2_with first
     | (go_at_call 4; refine AW.mono ?_; rintro e w1 ⟨rfl, hb1⟩)
     | (go_at_call 5; refine (LG.out _).mono ?_; rintro e w2 ⟨rfl, rfl⟩)
   go_ret
   exact ⟨rfl, hb1⟩
 | false =>
   rw [hlb] at LG;replace LG := Lib.hid LG;generalize maxP (fitsI code).1 (fitsI code).1.length = mx at CH LK;by_cases h0 : (faultI code s).2 = 0
   · have hm8 : (fitsI code).1.length ≤ 8192 := by
       obtain ⟨_, _, q1, q2, q3, q4, _⟩ := faultI_ok h0;rw [(fits_of (allRt_of q3) q2 q4).len]; exact q1
     simp only [h0, if_true, ne_eq, not_true, false_imp_iff, true_imp_iff, true_and] at CH LK DP;obtain ⟨d, hd⟩ : ∃ d, (fitsI code).1 = d := ⟨_, rfl⟩;rw [hd] at LK DP hm8;obtain ⟨m, hM⟩ := exHid d.length;rw [hM.out] at LK DP hm8;replace CH := Lib.hid CH;replace LK := Lib.hid LK;replace DP := Lib.hid DP;replace h0 := Lib.hid h0;clear hd;go_enter Tryd.func3, Tryd.ntmps3
     go_wp2_with first
       | (go_at_call 4; refine AW.mono ?_; rintro e w1 ⟨rfl, hb1⟩)
       | (go_at_call 5; refine (LG.out _).mono ?_; rintro e w2 ⟨rfl, rfl⟩)
       | (go_at_call 6; refine (CH.out _ hb1).mono ?_; rintro e w3 ⟨rfl, hb3⟩; have hk3 := below_next hb1 hb3)
       | (go_at_call 7; refine (LK.out _ hk3).mono ?_; rintro e w4 ⟨hb4, g4, rfl, hg4, hD4⟩; have hk4 := below_next hk3 hb4; replace hD4 := Lib.hid hD4)
       | (go_at_call 8; refine (DP.out _ hk4).mono ?_; rintro e w5 ⟨hb5, g5, rfl, hg5, hD5⟩; have hk5 := below_next hk4 hb5; have hD6 := Lib.hid (hD4.out.below hb5); replace hD5 := Lib.hid hD5)
     have hk6 := Lib.hid hk5;clear hD4 hb1 hb3 hk3 hb4 hk4 hb5 hk5;go_loopw [15] (fun t15 wq => ∃ i : Nat, i ≤ m ∧ t15 = .int .i64 i ∧ Hid (DepAt wq g4 d) ∧ Hid (DepAt wq g5 d) ∧ Hid (Below w.heap.size w wq)) (fun t15 _ => m - (intOf t15).toNat)
     case atStart => exact ⟨0, by omega, rfl, hD6, hD5, hk6⟩
     case round =>
       obtain ⟨i, hi, rfl, hA, hB, hb⟩ := hrel;clear hD6 hD5 hk6;rcases Nat.lt_or_ge i m with hlt | hge
       · have hlti : (i : Int) < (m : Int) := by omega
         have x4 := hA.out.cell (i := i) (by rw [hM.out]; exact hlt);have x5 := hB.out.cell (i := i) (by rw [hM.out]; exact hlt);generalize d.getD i (-1) = dv at x4 x5;go_wp2
         go_quiet (fail)
         go_wp2
         go_roundw
         case rel => exact ⟨i + 1, by omega, by go_num, Lib.hid (show DepAt (_ : World) g4 d from hA.out), Lib.hid (show DepAt (_ : World) g5 d from hB.out), Lib.hid ⟨hb.out.os, hb.out.tape, hb.out.output, hb.out.size, hb.out.block⟩⟩
         case measure => simp [intOf]; omega
       · obtain rfl : i = m := by omega
         have hlti : ¬ ((i : Int) < (i : Int)) := by omega
         go_wp2
         go_ret
         exact ⟨rfl, hb.out⟩
   · have h0n : (faultI code s).2 ≠ 0 := h0
     simp only [h0, if_false, ne_eq, not_false_iff, true_imp_iff, false_imp_iff, and_true] at CH LK DP;obtain ⟨fa, hfa⟩ : ∃ y, (faultI code s).1 = y := ⟨_, rfl⟩;obtain ⟨fe, hfe⟩ : ∃ y, (faultI code s).2 = y := ⟨_, rfl⟩;rw [hfa] at CH LK;rw [hfe] at CH LK DP;clear h0 h0n hfa hfe;replace CH := Lib.hid CH;replace LK := Lib.hid LK;replace DP := Lib.hid DP;go_enter Tryd.func3, Tryd.ntmps3
     go_wp2_with first
       | (go_at_call 4; refine AW.mono ?_; rintro e w1 ⟨rfl, hb1⟩)
       | (go_at_call 5; refine (LG.out _).mono ?_; rintro e w2 ⟨rfl, rfl⟩)
       | (go_at_call 6; refine (CH.out _ hb1).mono ?_; rintro e w3 ⟨rfl, hb3⟩; have hk3 := below_next hb1 hb3)
       | (go_at_call 7; refine (LK.out _ hk3).mono ?_; rintro e w4 ⟨hb4, rfl⟩; have hk4 := below_next hk3 hb4)
       | (go_at_call 8; refine (DP.out _ hk4).mono ?_; rintro e w5 ⟨hb5, rfl⟩; have hk5 := below_next hk4 hb5)
     have hk6 := Lib.hid hk5;clear hb1 hb3 hk3 hb4 hk4 hb5 hk5;go_loopw [15] (fun t15 wq => t15 = .int .i64 0 ∧ w5 = wq) (fun _ _ => 0)
     case atStart => exact ⟨rfl, rfl⟩
     case round =>
       obtain ⟨rfl, rfl⟩ := hrel;go_wp2
       go_ret
       exact ⟨rfl, hk6.out⟩
end Go.Proofs.YtcabolfookofoaaDoor
