/- A part of the proof: JWake, IOpen, GWdL. No condition. -/
import Derived.BigQuiet
import Derived.Deep.Slices
import Derived.Deep.Fields
import Derived.ChangeSame
import Derived.ProofKit
import Derived.OpenShut
import Derived.SizedLaws
import Derived.Carry
import Derived.Maps.AppendAt
import Derived.Stop.LaidErr
import Derived.Lib.LaidTab
import Derived.Test.YtcabolfookofoaaGreatDoorQ05
import Derived.Test.YtcabolfookofoaaGreatDoorQ07
import Derived.Test.YtcabolfookofoaaGreatDoorQ43
set_option linter.unusedVariables false
set_option linter.unusedSimpArgs false
namespace Go.Proofs.YtcabolfookofoaaGreatDoor
open Go.RowKit
theorem results_fourI {fn : Func} {t u v x : Tmp} (h : fn.results = #[.tmp t, .tmp u, .tmp v, .tmp x]) (tmps : Array Value) (P : Program) (w : World) :
   (results fn tmps).run P w = .ok (.tuple #[tmps.getD t undef, tmps.getD u undef, tmps.getD v undef, tmps.getD x undef]) w := by
 simp [results, h]
def checkV (code : List Ins) (s : Int) : Value :=
 if (faultI code s).2 = 0 then .tuple #[.int .i64 (slotsP code s code.length), .int .i64 (maxP (fitsI code).1 (fitsI code).1.length), .int .i64 0, .int .i64 0]
 else .tuple #[.int .i64 0, .int .i64 0, .int .i64 (faultI code s).1, .int .i64 (faultI code s).2]
set_option maxRecDepth 20000 in
set_option maxHeartbeats 1000000 in
theorem Check_any {code : List Ins} {v : Value} {w : World} {s : Int} (h : InsIn w v code) (hx : ∀ x ∈ code, FitIns x) (hW : WordsOK w) (hs : I64 s) :
   Calls Tryz.prog 9 #[v, .int .i64 s] w fun e w' => e = .returned (checkV code s) ∧ Below w.heap.size w w' := by
 have C := check_any h hx hW hs;obtain ⟨ad, cap, hv, _⟩ := id h;subst hv;replace hx := Lib.hid hx;replace hW := Lib.hid hW;obtain ⟨R, hR⟩ := exHid (checkV code s);rw [hR.out];have hR' := hR.out;unfold checkV at hR';by_cases h0 : (faultI code s).2 = 0
 · rw [if_pos h0] at hR'
   have h0' := Lib.hid h0;clear h0;replace hR' := Lib.hid hR';have SO := fun (W : World) (hb : Below w.heap.size w W) (h1 : code.length ≤ 8192) (h2 : AllRt code) (h3 : 0 ≤ s) (h4 : s ≤ 100) => slotsOf_any (h.below hb) h1 h2 h3 h4
   replace SO := Lib.hid SO;replace h := Lib.hid h;go_enter Tryz.func9, Tryz.ntmps9
   go_wp2_with first
     | (go_at_call 22; refine C.mono ?_; rintro e w1 ⟨hb, -, h2⟩; obtain ⟨g, rfl, hg, hD, p1, p2, p3, p4, p5, p6, p7⟩ := h2 h0'.out; replace hD := Lib.hid hD; clear h2; replace p5 := Lib.hid p5; replace p6 := Lib.hid p6; replace p7 := Lib.hid p7; replace p1 := Lib.hid p1; replace p2 := Lib.hid p2)
     | (go_at_call 23; refine (SO.out _ hb p2.out p5.out p3 p4).mono ?_; rintro e w2 ⟨rfl, hb2⟩; have hk2 := below_next hb hb2)
     | (go_at_call 24; refine (max_any (hD.out.below hb2) (by rw [p6.out.len]; exact p1.out) (by rw [p6.out.len]; exact p2.out) p6.out.first).mono ?_; rintro e w3 ⟨rfl, rfl⟩)
   refine bodyPost_ret (results_fourI rfl _ _ _) rfl ?_;exact ⟨by rw [← hR'.out]; rfl, hk2⟩
 · rw [if_neg h0] at hR'
   have e1 : ((((faultI code s).2 : Nat) : Int) != 0) = true := by simp; omega
   have h0' := Lib.hid h0;clear h0;replace hR' := Lib.hid hR';replace h := Lib.hid h;go_enter Tryz.func9, Tryz.ntmps9
   go_wp2_with (go_at_call 22; refine C.mono ?_; rintro e w1 ⟨hb, h2, -⟩; obtain rfl := h2 h0'.out; clear h2)
   refine bodyPost_ret (results_fourI rfl _ _ _) rfl ?_;exact ⟨by rw [← hR'.out]; rfl, hb⟩
def addsL : List Ins := [⟨26, 0, 0, []⟩, ⟨23, 0, 1, []⟩, ⟨36, 0, 0, []⟩, ⟨8, 0, 0, []⟩, ⟨28, 0, 0, []⟩]
theorem adds_fit : ∀ x ∈ addsL, FitIns x := by
 intro x hx;simp only [addsL, List.mem_cons, List.not_mem_nil, or_false] at hx;rcases hx with rfl | rfl | rfl | rfl | rfl <;> exact ⟨by decide, ⟨by decide, by decide⟩, ⟨by decide, by decide⟩, by decide⟩
theorem adds_check : checkV addsL 1 = .tuple #[.int .i64 1, .int .i64 2, .int .i64 0, .int .i64 0] := by
 have h1 : (faultI addsL 1).2 = 0 := by decide +kernel
 have h2 : slotsP addsL 1 addsL.length = 1 := by decide +kernel
 have h3 : maxP (fitsI addsL).1 (fitsI addsL).1.length = 2 := by decide +kernel
 unfold checkV;rw [if_pos h1, h2, h3]
set_option maxRecDepth 20000 in
set_option maxHeartbeats 1000000 in
theorem adds_any (w : World) :
   Calls Tryz.prog 26 #[] w fun e w' => ∃ v, e = .returned v ∧ InsIn w' v addsL ∧ Below w.heap.size w w' := by
 go_enter Tryz.func26, Tryz.ntmps26
 go_wp2
 go_ret
 refine ⟨_, rfl, ⟨_, _, rfl, by decide, by decide, fun _ => ⟨w.heap.size, 0, rfl, ?_, fun i hi c hc => ?_⟩⟩, by go_grown⟩
 · simp
 · have hi' : i < 5 := hi
   rw [World.cell?_alloc_new]
   match i, hi', c, hc with
   | 0, _, 0, _ => rfl
   | 0, _, 1, _ => rfl
   | 0, _, 2, _ => rfl
   | 0, _, 3, _ => rfl
   | 1, _, 0, _ => rfl
   | 1, _, 1, _ => rfl
   | 1, _, 2, _ => rfl
   | 1, _, 3, _ => rfl
   | 2, _, 0, _ => rfl
   | 2, _, 1, _ => rfl
   | 2, _, 2, _ => rfl
   | 2, _, 3, _ => rfl
   | 3, _, 0, _ => rfl
   | 3, _, 1, _ => rfl
   | 3, _, 2, _ => rfl
   | 3, _, 3, _ => rfl
   | 4, _, 0, _ => rfl
   | 4, _, 1, _ => rfl
   | 4, _, 2, _ => rfl
   | 4, _, 3, _ => rfl
set_option maxRecDepth 20000 in
set_option maxHeartbeats 1000000 in
theorem awake14_any (w : World) (hW : WordsOK w) :
   Calls Tryz.prog 11 #[] w fun e w' => e = .returned (.bool true) ∧ Below w.heap.size w w' := by
 have A := adds_any w;have C := fun (W : World) (v : Value) (hb : Below w.heap.size w W) (hI : InsIn W v addsL) => Check_any hI adds_fit (hW.below hb) (s := 1) ⟨by decide, by decide⟩
 rw [adds_check] at C;replace hW := Lib.hid hW;go_enter Tryz.func11, Tryz.ntmps11
 go_wp2_with first
   | (go_at_call 26; refine A.mono ?_; rintro e w1 ⟨v, rfl, hI, hb⟩; replace hI := Lib.hid hI)
   | (go_at_call 9; refine (C _ _ hb hI.out).mono ?_; rintro e w2 ⟨rfl, hb2⟩; have hk2 := below_next hb hb2)
 go_ret
 exact ⟨rfl, hk2⟩
end Go.Proofs.YtcabolfookofoaaGreatDoor
namespace Go.Proofs.YtcabolfookofoaaGreatDoor
open Go.RowKit Go.ChangeShapes Go.WideShapes Go.Deep
section
variable {H : Type} {enc : TypeId × Value → H} {P : Program} {w : World} {base : Nat} {spare : Nat → Bool} {held : Bool}
theorem open_slice_fields {t e : TypeId} {fs : Array Field} {fuel : Nat} {cs : List Value} {x : DataW H × List MemPlace} (ht : P.underlying t = some (.slice e)) (he : P.underlying e = some (.struct fs))
   (hone : oneCellFields P fs = true) (hC : P.cellsOf e = fs.size) (h : DataW.trod enc P w base spare held fuel t cs = some x) :
   (cs = [.slice none 0 0] ∧ x = (.nil, [])) ∨
   ∃ (a : Addr) (len cap m : Nat) (D : Nat → DataW H) (Pl : Nat → List MemPlace), cs = [.slice (some a) len cap] ∧ base ≤ a.block ∧ len ≤ cap ∧ cap ≤ maxLen ∧ m = (if spare a.block then cap else len) ∧
     x = (.slice ((List.range len).map D) ((List.range (m - len)).map fun j => D (len + j)), MemPlace.row a (m * fs.size) ++ (List.range m).flatMap Pl) ∧
     ∀ i, i < m → ∃ (ys : List (DataW H × List MemPlace)) (n : Nat), D i = .agg (ys.map (·.1)) ∧ Pl i = ys.flatMap (·.2) ∧ ys.length = fs.size ∧
       ∀ (j : Nat) (f : Field), fs[j]? = some f → ∃ (v : Value) (y : DataW H × List MemPlace), w.cell? (a.add (i * fs.size + j)) = some v ∧ ys[j]? = some y ∧ DataW.trod enc P w base spare held n f.type [v] = some y := by
 rcases open_slice ht h with h0 | ⟨a, len, cap, m, n, D, Pl, hcs, hb, hl, hm, hmm, hx, hi⟩
 · exact .inl h0
 · refine .inr ⟨a, len, cap, m, D, Pl, hcs, hb, hl, hm, hmm, by rw [hC] at hx; exact hx, fun i him => ?_⟩
   obtain ⟨cs', hc, ht'⟩ := hi i him;rw [hC] at hc;obtain ⟨ys, n', hn', hy, hlen, hyl, hf⟩ := DataW.trod_struct he ht';obtain ⟨_, hcl, hat⟩ := World.cells?_some hc;simp only [Prod.mk.injEq] at hy;refine ⟨ys, n', hy.1, hy.2, hyl, fun j f hj => ?_⟩;obtain ⟨ho, hk⟩ := hone_of hone j f hj;have hjl : j < fs.size := (Array.getElem?_eq_some_iff.1 hj).1;have hcell := hat j hjl;have hv : cs'[j]? = some (cs'[j]'(by omega)) := List.getElem?_eq_getElem (by omega);have h1 := hf j f hj;rw [ho, hk] at h1;have hone' : (cs'.drop j).take 1 = [cs'[j]'(by omega)] := by
     rw [List.drop_eq_getElem_cons (by omega)];rfl
   rw [hone'] at h1;have hys : ys[j]? = some (ys[j]'(by omega)) := List.getElem?_eq_getElem (by omega);refine ⟨_, _, ?_, hys, h1.trans hys⟩;rw [← Go.Deep.add_add, hcell, hv]
end
theorem i64_of_wf' {a : Int} (h : (Lit.int .i64 a).wf = true) : I64 a := by
 simp [Lit.wf, IntKind.min, IntKind.max, IntKind.signed, IntKind.bits] at h
 exact ⟨by omega, by omega⟩
def InssIn (w : World) (v : Value) : Prop := ∃ ts, InsIn w v ts ∧ (∀ t ∈ ts, FitIns t) ∧ ∀ len cap, v = .slice none len cap → len = 0 ∧ cap = 0
theorem inssIn_of_trod {H : Type} {enc : TypeId × Value → H} {P : Program} {W : World} {t e : TypeId} {f0 f1 f2 f3 : Field} {v : Value} {d : DataW H} {ps : List MemPlace}
   (ht : P.underlying t = some (.slice e)) (he : P.underlying e = some (.struct #[f0, f1, f2, f3])) (hone : oneCellFields P #[f0, f1, f2, f3] = true) (hc : P.cellsOf e = 4)
   (h0 : P.underlying f0.type = some (.int .u8)) (h1 : P.underlying f1.type = some (.int .i64)) (h2 : P.underlying f2.type = some (.int .i64)) (h3 : P.underlying f3.type = some .string)
   (hv : ∃ a len cap, v = .slice a len cap) (h : DataW.Trod enc P W 0 (fun _ => true) true t v d ps) : InssIn W v := by
 obtain ⟨a0, len, cap, rfl⟩ := hv;obtain ⟨fuel, hf⟩ := h;rcases open_slice_fields ht he hone hc hf with ⟨hcs, _⟩ | ⟨a, len', cap', m, Dt, Pl, hcs, _, hl, hm, hmm, _, hi⟩
 · simp [Value.cells] at hcs
   obtain ⟨rfl, rfl, rfl⟩ := hcs;exact ⟨[], ⟨none, 0, rfl, by simp, by omega, fun h => by simp at h⟩, by simp, fun len cap h => by cases h; exact ⟨rfl, rfl⟩⟩
 · simp [Value.cells] at hcs
   obtain ⟨rfl, rfl, rfl⟩ := hcs;simp only [if_true] at hmm;have key : ∀ j, ∃ s : Ins, j < len → FitIns s ∧ (W.cell? (a.add (j * 4)) = some (.int .u8 s.op) ∧ W.cell? (a.add (j * 4 + 1)) = some (.int .i64 s.a) ∧ W.cell? (a.add (j * 4 + 2)) = some (.int .i64 s.num) ∧ W.cell? (a.add (j * 4 + 3)) = some (.string ⟨s.text.toArray⟩)) := by
     intro j;by_cases hj : j < len
     · obtain ⟨ys, n, _, _, hyl, hg⟩ := hi j (by omega)
       obtain ⟨v0, y0, c0, _, t0⟩ := hg 0 f0 rfl;obtain ⟨v1, y1, c1, _, t1⟩ := hg 1 f1 rfl;obtain ⟨v2, y2, c2, _, t2⟩ := hg 2 f2 rfl;obtain ⟨v3, y3, c3, _, t3⟩ := hg 3 f3 rfl;obtain ⟨n0, e0, _, w0⟩ := DataW.trod_int h0 t0;obtain ⟨n1, e1, _, w1⟩ := DataW.trod_int h1 t1;obtain ⟨n2, e2, _, w2⟩ := DataW.trod_int h2 t2;obtain ⟨s3, e3, _, w3⟩ := DataW.trod_string h3 t3;simp only [List.cons.injEq, and_true] at e0 e1 e2 e3;subst e0; subst e1; subst e2; subst e3;have hn0 : 0 ≤ n0 := by
         simp only [Lit.wf, Bool.and_eq_true, decide_eq_true_eq] at w0;exact w0.1
       obtain ⟨k0, rfl⟩ := Int.eq_ofNat_of_zero_le hn0;refine ⟨⟨k0, n1, n2, s3.data.toList⟩, fun _ => ⟨⟨?_, i64_of_wf' w1, i64_of_wf' w2, ?_⟩, c0, c1, c2, c3⟩⟩
       · show s3.data.toList.length ≤ _
         rw [Array.length_toList];unfold maxLen at w3;exact w3
       · simp [Lit.wf, IntKind.min, IntKind.max, IntKind.signed, IntKind.bits] at w0
         show k0 < 256
         omega
     · exact ⟨⟨0, 0, 0, []⟩, fun h => absurd h hj⟩
   obtain ⟨f, hf⟩ := Classical.axiomOfChoice key;have hgl : ((List.range len).map f).length = len := by rw [List.length_map, List.length_range]
   refine ⟨(List.range len).map f, ⟨some a, cap, by rw [hgl], by rw [hgl]; exact hl, hm, ?_⟩, ?_, fun len cap h => by cases h⟩
   · intro hpos
     rw [hgl] at hpos;obtain ⟨b, off, spot⟩ := a;have hspot : spot = none := by simpa [Addr.add] using World.cell?_spot (hf 0 hpos).2.1
     subst hspot;refine ⟨b, off, rfl, ?_, fun j hj c hc' => ?_⟩
     · have := (hf 0 hpos).2.1
       rw [add_plain] at this;exact World.block_lt_of_cell? W _ this
     · have hj' : j < len := by simpa using hj
       obtain ⟨g0, g1, g2, g3⟩ := (hf j hj').2;rw [add_plain] at g0 g1 g2 g3;rw [List.getElem_map, List.getElem_range]
       match c, hc' with
       | 0, _ => exact g0
       | 1, _ => rw [Nat.add_assoc]; exact g1
       | 2, _ => rw [Nat.add_assoc]; exact g2
       | 3, _ => rw [Nat.add_assoc]; exact g3
   · intro s hs
     obtain ⟨j, hj, rfl⟩ := List.mem_map.1 hs;exact (hf j (List.mem_range.1 hj)).1
end Go.Proofs.YtcabolfookofoaaGreatDoor
namespace Go.Proofs.YtcabolfookofoaaGreatDoor
open Go.RowKit Go.ChangeShapes
theorem cells_of_strs {H : Type} {enc : TypeId × Value → H} {P : Program} {w : World} {base : Nat} {sp : Nat → Bool} {held : Bool} {fuel : Nat} {t e : TypeId} {n : Nat} {cs : List Value} {zs : List (List UInt8)} {p : List MemPlace}
   (ht : P.underlying t = some (.array n e)) (he : P.underlying e = some .string) (hce : P.cellsOf e = 1) (hct : P.cellsOf t = n)
   (h : DataW.trod enc P w base sp held fuel t cs = some (.agg (zs.map fun z => .lit (.string z)), p)) : cs = zs.map fun z => Value.string ⟨z.toArray⟩ := by
 cases fuel with
 | zero => simp [DataW.trod] at h
 | succ fuel =>
   simp only [DataW.trod, ht, hce, hct, Nat.mul_one] at h;split at h
   · rename_i hl
     obtain ⟨xs, hm, hx⟩ := Option.map_eq_some_iff.1 h;have hxs : xs.map (·.1) = zs.map fun z => (DataW.lit (.string z) : DataW H) := by
       have := congrArg Prod.fst hx
       simpa using this
     have hxl : xs.length = n := by simpa using Lib.mapM_length hm
     have hzl : zs.length = n := by
       have := congrArg List.length hxs;simp at this
       omega
     apply List.ext_getElem?
     intro i;by_cases hi : i < n
     · obtain ⟨b, hb, hf⟩ := Lib.mapM_at hm i i (by simp [hi])
       obtain ⟨z, hc, rfl, _⟩ := DataW.trod_string he hf;have h1 : cs[i]? = some (.string z) := by
         have := congrArg (·[0]?) hc
         simpa [List.getElem?_take, List.getElem?_drop] using this
       have h2 : (xs.map (·.1))[i]? = some (DataW.lit (.string z.data.toList) : DataW H) := by simp [hb]
       rw [hxs] at h2;simp only [List.getElem?_map, Option.map_eq_some_iff, DataW.lit.injEq, Lit.string.injEq] at h2;obtain ⟨z', hz', h3⟩ := h2;subst h3;simp [h1, hz']
     · rw [List.getElem?_eq_none (by omega), List.getElem?_eq_none (by simp; omega)]
   · cases h
theorem words_num : Tryz.prog.globalNamed "prompter/instr.words" = some 0 := by kernel_rfl
theorem wordsOK_of {r : List (String × DataW Unit)} {W : World} (h : laidMet Tryz.prog (("prompter/instr.words", .agg (wordL.map fun z => .lit (.string z))) :: r) W) : WordsOK W := by
 obtain ⟨ps, ⟨g', t', cs, fuel, p, q, hg', ht', hvar, hd, _, _⟩, _⟩ := h;obtain rfl := Option.some.inj (words_num.symm.trans hg');obtain rfl := Option.some.inj ((show (Tryz.prog.globals[0]?).map (·.type) = some 44 by kernel_rfl).symm.trans ht');have hcs := cells_of_strs Tryz.underlying44 Tryz.underlying9 (by kernel_rfl) (by kernel_rfl) hd;intro i hi;have h1 := World.var?_cell words_num hvar i;have h2 : cs[i]? = cs.toList[i]? := by simp
 rw [h1, h2, hcs];have hl : i < wordL.length := hi;simp [wordI, List.getElem?_map, List.getElem?_eq_getElem hl, List.getD_eq_getElem?_getD]
end Go.Proofs.YtcabolfookofoaaGreatDoor
