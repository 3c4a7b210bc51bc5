/- A part of the proof: ROpen, GLaid, IQ, GFitP. No condition. -/
import Derived.Deep.Slices
import Derived.Deep.Fields
import Derived.ChangeSame
import Derived.ProofKit
import Derived.OpenShut
import Derived.SizedLaws
import Derived.Carry
import Derived.Stop.LaidErr
import Derived.Lib.LaidTab
import Derived.Test.YtefijbpbenmbgaaDoorQ05
import Derived.Test.YtefijbpbenmbgaaDoorQ06
import Derived.Test.YtefijbpbenmbgaaDoorQ08
import Derived.Test.YtefijbpbenmbgaaDoorQ11
set_option linter.unusedVariables false
set_option linter.unusedSimpArgs false
namespace Go.Proofs.YtefijbpbenmbgaaDoor
open Go.RowKit Go.ChangeShapes Go.WideShapes Go.Deep
section
variable {H : Type} {enc : TypeId × Value → H} {P : Program} {w : World} {base : Nat} {spare : Nat → Bool} {held : Bool}
theorem open_slice_fields {t e : TypeId} {fs : Array Field} {fuel : Nat} {cs : List Value} {x : DataW H × List MemPlace} (ht : P.underlying t = some (.slice e)) (he : P.underlying e = some (.struct fs))
   (hone : oneCellFields P fs = true) (hC : P.cellsOf e = fs.size) (h : DataW.trod enc P w base spare held fuel t cs = some x) :
   (cs = [.slice none 0 0] ∧ x = (.nil, [])) ∨
   ∃ (a : Addr) (len cap m : Nat) (D : Nat → DataW H) (Pl : Nat → List MemPlace), cs = [.slice (some a) len cap] ∧ base ≤ a.block ∧ len ≤ cap ∧ cap ≤ maxLen ∧ m = (if spare a.block then cap else len) ∧
     x = (.slice ((List.range len).map D) ((List.range (m - len)).map fun j => D (len + j)), MemPlace.row a (m * fs.size) ++ (List.range m).flatMap Pl) ∧
     ∀ i, i < m → ∃ (ys : List (DataW H × List MemPlace)) (n : Nat), D i = .agg (ys.map (·.1)) ∧ Pl i = ys.flatMap (·.2) ∧ ys.length = fs.size ∧
       ∀ (j : Nat) (f : Field), fs[j]? = some f → ∃ (v : Value) (y : DataW H × List MemPlace), w.cell? (a.add (i * fs.size + j)) = some v ∧ ys[j]? = some y ∧ DataW.trod enc P w base spare held n f.type [v] = some y := by
 rcases open_slice ht h with h0 | ⟨a, len, cap, m, n, D, Pl, hcs, hb, hl, hm, hmm, hx, hi⟩
 · exact .inl h0
 · refine .inr ⟨a, len, cap, m, D, Pl, hcs, hb, hl, hm, hmm, by rw [hC] at hx; exact hx, fun i him => ?_⟩
   obtain ⟨cs', hc, ht'⟩ := hi i him;rw [hC] at hc;obtain ⟨ys, n', hn', hy, hlen, hyl, hf⟩ := DataW.trod_struct he ht';obtain ⟨_, hcl, hat⟩ := World.cells?_some hc;simp only [Prod.mk.injEq] at hy;refine ⟨ys, n', hy.1, hy.2, hyl, fun j f hj => ?_⟩;obtain ⟨ho, hk⟩ := hone_of hone j f hj;have hjl : j < fs.size := (Array.getElem?_eq_some_iff.1 hj).1;have hcell := hat j hjl;have hv : cs'[j]? = some (cs'[j]'(by omega)) := List.getElem?_eq_getElem (by omega);have h1 := hf j f hj;rw [ho, hk] at h1;have hone' : (cs'.drop j).take 1 = [cs'[j]'(by omega)] := by
     rw [List.drop_eq_getElem_cons (by omega)];rfl
   rw [hone'] at h1;have hys : ys[j]? = some (ys[j]'(by omega)) := List.getElem?_eq_getElem (by omega);refine ⟨_, _, ?_, hys, h1.trans hys⟩;rw [← Go.Deep.add_add, hcell, hv]
end
theorem i64_of_wf' {a : Int} (h : (Lit.int .i64 a).wf = true) : I64 a := by
 simp [Lit.wf, IntKind.min, IntKind.max, IntKind.signed, IntKind.bits] at h
 exact ⟨by omega, by omega⟩
def TwsIn (w : World) (v : Value) : Prop := ∃ ts, TwIn w v ts ∧ (∀ t ∈ ts, FitT t) ∧ ∀ len cap, v = .slice none len cap → len = 0 ∧ cap = 0
theorem twsIn_of_trod {H : Type} {enc : TypeId × Value → H} {P : Program} {W : World} {t e : TypeId} {f0 f1 f2 f3 : Field} {v : Value} {d : DataW H} {ps : List MemPlace}
   (ht : P.underlying t = some (.slice e)) (he : P.underlying e = some (.struct #[f0, f1, f2, f3])) (hone : oneCellFields P #[f0, f1, f2, f3] = true) (hc : P.cellsOf e = 4)
   (h0 : P.underlying f0.type = some (.int .u8)) (h1 : P.underlying f1.type = some (.int .i64)) (h2 : P.underlying f2.type = some (.int .i64)) (h3 : P.underlying f3.type = some .string)
   (hv : ∃ a len cap, v = .slice a len cap) (h : DataW.Trod enc P W 0 (fun _ => true) true t v d ps) : TwsIn W v := by
 obtain ⟨a0, len, cap, rfl⟩ := hv;obtain ⟨fuel, hf⟩ := h;rcases open_slice_fields ht he hone hc hf with ⟨hcs, _⟩ | ⟨a, len', cap', m, Dt, Pl, hcs, _, hl, hm, hmm, _, hi⟩
 · simp [Value.cells] at hcs
   obtain ⟨rfl, rfl, rfl⟩ := hcs;exact ⟨[], ⟨none, 0, rfl, by simp, by omega, fun h => by simp at h⟩, by simp, fun len cap h => by cases h; exact ⟨rfl, rfl⟩⟩
 · simp [Value.cells] at hcs
   obtain ⟨rfl, rfl, rfl⟩ := hcs;simp only [if_true] at hmm;have key : ∀ j, ∃ s : Tw, j < len → FitT s ∧ (W.cell? (a.add (j * 4)) = some (.int .u8 s.op) ∧ W.cell? (a.add (j * 4 + 1)) = some (.int .i64 s.kids) ∧ W.cell? (a.add (j * 4 + 2)) = some (.int .i64 s.num) ∧ W.cell? (a.add (j * 4 + 3)) = some (.string ⟨s.text.toArray⟩)) := by
     intro j;by_cases hj : j < len
     · obtain ⟨ys, n, _, _, hyl, hg⟩ := hi j (by omega)
       obtain ⟨v0, y0, c0, _, t0⟩ := hg 0 f0 rfl;obtain ⟨v1, y1, c1, _, t1⟩ := hg 1 f1 rfl;obtain ⟨v2, y2, c2, _, t2⟩ := hg 2 f2 rfl;obtain ⟨v3, y3, c3, _, t3⟩ := hg 3 f3 rfl;obtain ⟨n0, e0, _, w0⟩ := DataW.trod_int h0 t0;obtain ⟨n1, e1, _, w1⟩ := DataW.trod_int h1 t1;obtain ⟨n2, e2, _, w2⟩ := DataW.trod_int h2 t2;obtain ⟨s3, e3, _, w3⟩ := DataW.trod_string h3 t3;simp only [List.cons.injEq, and_true] at e0 e1 e2 e3;subst e0; subst e1; subst e2; subst e3;have hn0 : 0 ≤ n0 := by
         simp only [Lit.wf, Bool.and_eq_true, decide_eq_true_eq] at w0;exact w0.1
       obtain ⟨k0, rfl⟩ := Int.eq_ofNat_of_zero_le hn0;refine ⟨⟨k0, n1, n2, s3.data.toList⟩, fun _ => ⟨⟨?_, i64_of_wf' w1, i64_of_wf' w2, ?_⟩, c0, c1, c2, c3⟩⟩
       · show s3.data.toList.length ≤ _
         rw [Array.length_toList];unfold maxLen at w3;exact w3
       · simp [Lit.wf, IntKind.min, IntKind.max, IntKind.signed, IntKind.bits] at w0
         show k0 < 256
         omega
     · exact ⟨⟨0, 0, 0, []⟩, fun h => absurd h hj⟩
   obtain ⟨f, hf⟩ := Classical.axiomOfChoice key;have hgl : ((List.range len).map f).length = len := by rw [List.length_map, List.length_range]
   refine ⟨(List.range len).map f, ⟨some a, cap, by rw [hgl], by rw [hgl]; exact hl, hm, ?_⟩, ?_, fun len cap h => by cases h⟩
   · intro hpos
     rw [hgl] at hpos;obtain ⟨b, off, spot⟩ := a;have hspot : spot = none := by simpa [Addr.add] using World.cell?_spot (hf 0 hpos).2.1
     subst hspot;refine ⟨b, off, rfl, ?_, fun j hj c hc' => ?_⟩
     · have := (hf 0 hpos).2.1
       rw [add_plain] at this;exact World.block_lt_of_cell? W _ this
     · have hj' : j < len := by simpa using hj
       obtain ⟨g0, g1, g2, g3⟩ := (hf j hj').2;rw [add_plain] at g0 g1 g2 g3;rw [List.getElem_map, List.getElem_range]
       match c, hc' with
       | 0, _ => exact g0
       | 1, _ => rw [Nat.add_assoc]; exact g1
       | 2, _ => rw [Nat.add_assoc]; exact g2
       | 3, _ => rw [Nat.add_assoc]; exact g3
   · intro s hs
     obtain ⟨j, hj, rfl⟩ := List.mem_map.1 hs;exact (hf j (List.mem_range.1 hj)).1
end Go.Proofs.YtefijbpbenmbgaaDoor
namespace Go.Proofs.YtefijbpbenmbgaaDoor
open Go.RowKit Go.ChangeShapes
theorem opsNum : Tryd.prog.globalNamed "prompter/compile.ops" = some 0 := by kernel_rfl
theorem opsOK_of {r : List (String × DataW Unit)} {W : World} (h : laidMet Tryd.prog (("prompter/compile.ops", Lib.tabData .u8 (opsL.map Int.ofNat)) :: r) W) : OpsOK W := by
 have h1 := Lib.tabIs_of_head opsNum (show (Tryd.prog.globals[0]?).map (·.type) = some 84 by kernel_rfl) Tryd.underlying84 Tryd.underlying5 (by kernel_rfl) (by kernel_rfl) h;intro i hi;have h2 := World.var?_cell opsNum h1 i;rw [h2];have hl : i < opsL.length := hi;simp [List.getElem?_map, List.getElem?_eq_getElem hl, List.getD_eq_getElem?_getD]
end Go.Proofs.YtefijbpbenmbgaaDoor
namespace Go.Proofs.YtefijbpbenmbgaaDoor
open Go.RowKit
theorem leastI_some {d : List Int} {g : Nat → Bool} {p : Nat} : leastI d g = some p ↔ p < d.length ∧ d.getD p (-1) ≠ -1 ∧ g p = false ∧ ∀ q, q < p → d.getD q (-1) = -1 ∨ g q = true := by
 unfold leastI;rw [List.find?_range_eq_some];simp only [List.mem_range, Bool.and_eq_true, decide_eq_true_eq, Bool.not_and, Bool.or_eq_true, Bool.not_not, Bool.not_eq_eq_eq_not, Bool.not_true, decide_eq_false_iff_not, Decidable.not_not]
 constructor
 · rintro ⟨⟨h1, h2⟩, h3, h4⟩; exact ⟨h3, h1, h2, h4⟩
 · rintro ⟨h3, h1, h2, h4⟩; exact ⟨⟨h1, h2⟩, h3, h4⟩
theorem leastI_none {d : List Int} {g : Nat → Bool} : leastI d g = none ↔ ∀ p, p < d.length → d.getD p (-1) = -1 ∨ g p = true := by
 unfold leastI;rw [List.find?_eq_none]
 constructor
 · intro h p hp
   have := h p (List.mem_range.2 hp);by_cases e : d.getD p (-1) = -1
   · exact .inl e
   · right
     cases hg : g p with
     | true => rfl
     | false => exact absurd (by rw [hg, decide_eq_true e]; rfl) this
 · intro h p hp hn
   rcases h p (List.mem_range.1 hp) with e | e
   · rw [decide_eq_false (fun h => h e)] at hn; cases hn
   · rw [e, Bool.not_true, Bool.and_false] at hn; cases hn
def cntI (g : Nat → Bool) : Nat → Nat
 | 0 => 0
 | n + 1 => cntI g n + (if g n = true then 0 else 1)
theorem cntI_none : ∀ n, cntI (fun _ => false) n = n
 | 0 => rfl
 | n + 1 => by show cntI _ n + 1 = _; rw [cntI_none n]
theorem cntI_over {g : Nat → Bool} {p : Nat} : ∀ {n : Nat}, n ≤ p → cntI (goneI g p) n = cntI g n
 | 0, _ => rfl
 | n + 1, h => by
   show cntI _ n + _ = cntI _ n + _
   rw [cntI_over (by omega)];simp only [goneI, decide_eq_false (show ¬ n = p by omega), Bool.false_or]
theorem cntI_gone {g : Nat → Bool} {p : Nat} (hg : g p = false) : ∀ {n : Nat}, p < n → cntI (goneI g p) n + 1 = cntI g n
 | 0, h => by omega
 | n + 1, h => by
   show cntI _ n + _ + 1 = cntI _ n + _
   by_cases e : n = p
   · subst e
     rw [cntI_over (Nat.le_refl _), if_pos (by simp [goneI]), if_neg (by rw [hg]; exact Bool.false_ne_true)]
   · have := cntI_gone hg (n := n) (by omega)
     simp only [goneI, decide_eq_false e, Bool.false_or] at *;omega
theorem getD_set (d : List Int) (q : Nat) (v : Int) (r : Nat) (h : q < d.length) : (d.set q v).getD r (-1) = if r = q then v else d.getD r (-1) := by
 rw [List.getD_eq_getElem?_getD, List.getD_eq_getElem?_getD, List.getElem?_set];by_cases e : q = r
 · subst e; rw [if_pos rfl, if_pos h, if_pos rfl]; rfl
 · rw [if_neg e, if_neg (fun h => e h.symm)]
def DpI (d : List Int) (B : Int) : Prop := ∀ r, (d.getD r (-1) = -1 ∨ 0 ≤ d.getD r (-1)) ∧ d.getD r (-1) ≤ B
def KeptI (d d' : List Int) : Prop := d'.length = d.length ∧ ∀ r, d.getD r (-1) ≠ -1 → d'.getD r (-1) = d.getD r (-1)
theorem KeptI.refl (d : List Int) : KeptI d d := ⟨rfl, fun _ _ => rfl⟩
theorem KeptI.trans {a b c : List Int} (h : KeptI a b) (g : KeptI b c) : KeptI a c := ⟨g.1.trans h.1, fun r hr => (g.2 r (by rw [h.2 r hr]; exact hr)).trans (h.2 r hr)⟩
theorem meetI_some {d d' : List Int} {q : Nat} {v B : Int} (h : meetI d q v = some d') (h0 : 0 ≤ v) (hv : v ≤ B) (hd : DpI d B) : q < d.length ∧ d'.getD q (-1) = v ∧ KeptI d d' ∧ DpI d' B := by
 unfold meetI at h;split at h
 · cases h
 · rename_i hq
   have hq' : q < d.length := by omega
   split at h
   · rename_i h1
     cases h
     refine ⟨hq', by rw [getD_set _ _ _ _ hq', if_pos rfl], ⟨by rw [List.length_set], fun r hr => ?_⟩, fun r => ?_⟩
     · rw [getD_set _ _ _ _ hq', if_neg (fun e => hr (by rw [e]; exact h1))]
     · rw [getD_set _ _ _ _ hq']
       split
       · exact ⟨.inr h0, hv⟩
       · exact hd r
   · split at h
     · rename_i h2
       cases h
       exact ⟨hq', h2, KeptI.refl _, hd⟩
     · cases h
structure FitAt (code : List Ins) (d : List Int) (p : Nat) : Prop where
 takes : takesI (inAt code p) ≤ d.getD p (-1)
 ends : endsI (inAt code p).op = true → d.getD p (-1) = takesI (inAt code p)
 goal : endsI (inAt code p).op = false → akI (inAt code p).op = 1 → (inAt code p).a.toNat < d.length ∧ d.getD (inAt code p).a.toNat (-1) = thereI (inAt code p) (d.getD p (-1))
 next : endsI (inAt code p).op = false → (inAt code p).op ≠ 1 → p + 1 < d.length ∧ d.getD (p + 1) (-1) = nextI (inAt code p) (d.getD p (-1))
theorem leaveR_le (op : Nat) : leaveR op ≤ 1 := by unfold leaveR; split <;> omega
theorem nextI_range {x : Ins} {d : Int} (h : takesI x ≤ d) (h0 : 0 ≤ takesI x) : 0 ≤ nextI x d ∧ nextI x d ≤ d + 1 := by
 unfold nextI;have := leaveR_le x.op;omega
theorem thereI_range {x : Ins} {d : Int} (h : takesI x ≤ d) (h0 : 0 ≤ takesI x) : 0 ≤ thereI x d ∧ thereI x d ≤ d + 1 := by
 unfold thereI;have := nextI_range h h0;split
 · omega
 · split <;> omega
theorem FitAt.kept {code : List Ins} {d d' : List Int} {p : Nat} (h : FitAt code d p) (hk : KeptI d d') (hp : d.getD p (-1) ≠ -1) (h0 : 0 ≤ takesI (inAt code p)) : FitAt code d' p := by
 have e := hk.2 p hp;have ht := h.takes;refine ⟨by rw [e]; exact ht, fun hh => by rw [e]; exact h.ends hh, fun h1 h2 => ?_, fun h1 h2 => ?_⟩
 · obtain ⟨a, b⟩ := h.goal h1 h2
   have := (thereI_range ht h0).1;rw [e, hk.1, hk.2 _ (by rw [b]; omega)];exact ⟨a, b⟩
 · obtain ⟨a, b⟩ := h.next h1 h2
   have := (nextI_range ht h0).1;rw [e, hk.1, hk.2 _ (by rw [b]; omega)];exact ⟨a, b⟩
theorem stepI_some {code : List Ins} {d d' : List Int} {p : Nat} {B : Int} (h : stepI code d p = some d') (hp : d.getD p (-1) ≠ -1) (hd : DpI d B) (h0 : 0 ≤ takesI (inAt code p)) :
   FitAt code d' p ∧ KeptI d d' ∧ DpI d' (B + 1) := by
 have hB : DpI d (B + 1) := fun r => ⟨(hd r).1, by have := (hd r).2; omega⟩;have hpB := (hd p).2;unfold stepI at h;dsimp only at h;split at h
 · cases h
 · rename_i ht
   have ht' : takesI (inAt code p) ≤ d.getD p (-1) := by omega
   have hn := nextI_range ht' h0;have hh := thereI_range ht' h0;cases he : endsI (inAt code p).op with
   | true =>
     rw [he, if_pos rfl] at h;split at h
     · rename_i e
       cases h
       exact ⟨⟨ht', fun _ => e, fun h1 => (by rw [he] at h1; cases h1), fun h1 => (by rw [he] at h1; cases h1)⟩, KeptI.refl _, hB⟩
     · cases h
   | false =>
     rw [he, if_neg Bool.false_ne_true] at h;have key : ∀ d1 : List Int, KeptI d d1 → DpI d1 (B + 1) → (akI (inAt code p).op = 1 → (inAt code p).a.toNat < d1.length ∧ d1.getD (inAt code p).a.toNat (-1) = thereI (inAt code p) (d.getD p (-1))) →
         (if (inAt code p).op = 1 then some d1 else meetI d1 (p + 1) (nextI (inAt code p) (d.getD p (-1)))) = some d' → FitAt code d' p ∧ KeptI d d' ∧ DpI d' (B + 1) := by
       intro d1 k1 b1 g1 h;split at h
       · rename_i o1
         cases h
         have e := k1.2 p hp;exact ⟨⟨(by rw [e]; exact ht'), fun hx => (by rw [he] at hx; cases hx), fun _ ha => (by rw [e]; exact g1 ha), fun _ hx => absurd o1 hx⟩, k1, b1⟩
       · rename_i o1
         obtain ⟨m1, m2, m3, m4⟩ := meetI_some h hn.1 (by omega) b1;have k2 := k1.trans m3;have e := k2.2 p hp;refine ⟨⟨(by rw [e]; exact ht'), fun hx => (by rw [he] at hx; cases hx), fun _ ha => ?_, fun _ _ => ?_⟩, k2, m4⟩
         · obtain ⟨g2, g3⟩ := g1 ha
           rw [e, m3.1, m3.2 _ (by rw [g3]; omega)];exact ⟨g2, g3⟩
         · rw [e, m3.1]
           exact ⟨m1, m2⟩
     by_cases ha : akI (inAt code p).op = 1
     · rw [if_pos ha] at h
       cases hm : meetI d (inAt code p).a.toNat (thereI (inAt code p) (d.getD p (-1))) with
       | none => rw [hm] at h; cases h
       | some d1 =>
         rw [hm] at h;obtain ⟨m1, m2, m3, m4⟩ := meetI_some hm hh.1 (by omega) hB;exact key d1 m3 m4 (fun _ => ⟨by rw [m3.1]; exact m1, m2⟩) h
     · rw [if_neg ha] at h
       exact key d (KeptI.refl _) hB (fun hx => absurd hx ha) h
structure FitsI (code : List Ins) (d : List Int) : Prop where
 len : d.length = code.length
 first : d.getD 0 (-1) = 0
 dp : DpI d (code.length + 1)
 at_ : ∀ p, d.getD p (-1) ≠ -1 → FitAt code d p
theorem fitI_ok {code : List Ins} (h0 : ∀ p, 0 ≤ takesI (inAt code p)) : ∀ (f : Nat) (d : List Int) (g : Nat → Bool) (d' : List Int) (B : Int), fitI code f d g = (d', none) → cntI g d.length < f → DpI d B →
   (∀ p, g p = true → d.getD p (-1) ≠ -1 ∧ FitAt code d p) → KeptI d d' ∧ DpI d' (B + f) ∧ ∀ p, d'.getD p (-1) ≠ -1 → FitAt code d' p
 | 0, _, _, _, _, _, h, _, _ => by omega
 | f + 1, d, g, d', B, he, hc, hd, hg => by
   unfold fitI at he;cases hl : leastI d g with
   | none =>
     rw [hl] at he;cases he
     have hn := leastI_none.1 hl;refine ⟨KeptI.refl _, fun r => ⟨(hd r).1, by have := (hd r).2; omega⟩, fun p hp => ?_⟩;by_cases hlt : p < d.length
     · rcases hn p hlt with e | e
       · exact absurd e hp
       · exact (hg p e).2
     · exact absurd (by rw [List.getD_eq_getElem?_getD, List.getElem?_eq_none (by omega)]; rfl) hp
   | some p =>
     rw [hl] at he;obtain ⟨l1, l2, l3, l4⟩ := leastI_some.1 hl;dsimp only at he;cases hs : stepI code d p with
     | none => rw [hs] at he; simp at he
     | some d1 =>
       rw [hs] at he;dsimp only at he;obtain ⟨s1, s2, s3⟩ := stepI_some hs l2 hd (h0 p);have hcg := cntI_gone l3 l1;obtain ⟨r1, r2, r3⟩ := fitI_ok h0 f d1 (goneI g p) d' (B + 1) he (by rw [s2.1]; omega) s3 (fun q hgq => by
         by_cases e : q = p
         · subst e; exact ⟨by rw [s2.2 _ l2]; exact l2, s1⟩
         · have hgq' : g q = true := by simpa [goneI, e] using hgq
           obtain ⟨a, b⟩ := hg q hgq';exact ⟨by rw [s2.2 _ a]; exact a, b.kept s2 a (h0 q)⟩)
       exact ⟨s2.trans r1, fun r => ⟨(r2 r).1, by have := (r2 r).2; omega⟩, r3⟩
theorem depth0_get (n r : Nat) (hn : 0 < n) : (depth0 n).getD r (-1) = if r = 0 then 0 else -1 := by
 unfold depth0;rw [getD_set _ _ _ _ (by rw [List.length_replicate]; exact hn)];split
 · rfl
 · rw [List.getD_eq_getElem?_getD, List.getElem?_replicate]
   split <;> rfl
theorem depth0_len (n : Nat) : (depth0 n).length = n := by unfold depth0; rw [List.length_set, List.length_replicate]
theorem fitsI_ok {code : List Ins} (h0 : ∀ p, 0 ≤ takesI (inAt code p)) (hn : 0 < code.length) {d : List Int} (h : fitsI code = (d, none)) : FitsI code d := by
 have hd : DpI (depth0 code.length) 0 := fun r => by
   rw [depth0_get _ _ hn];split <;> simp
 obtain ⟨r1, r2, r3⟩ := fitI_ok h0 _ _ _ d 0 h (by rw [cntI_none, depth0_len]; omega) hd (fun p hp => by cases hp);refine ⟨by rw [r1.1, depth0_len], ?_, ?_, r3⟩
 · rw [r1.2 0 (by rw [depth0_get _ _ hn]; simp), depth0_get _ _ hn]; rfl
 · have e : (0 : Int) + ((code.length + 1 : Nat) : Int) = (code.length : Int) + 1 := by omega
   rw [e] at r2;exact r2
def itI (code : List Ins) : Nat → Nat → Nat
 | 0, p => p
 | k + 1, p => itI code k (succI code p)
theorem itI_add (code : List Ins) : ∀ (a b p : Nat), itI code (a + b) p = itI code b (itI code a p)
 | 0, b, p => by rw [Nat.zero_add]; rfl
 | a + 1, b, p => by rw [show a + 1 + b = (a + b) + 1 by omega]; exact itI_add code a b (succI code p)
theorem runI_iff (code : List Ins) : ∀ (k p : Nat), runI code k p = true ↔ ∀ j, j < k → freeI (inAt code (itI code j p)).op = true
 | 0, p => by simp [runI]
 | k + 1, p => by
   unfold runI;rw [Bool.and_eq_true, runI_iff code k]
   constructor
   · rintro ⟨h1, h2⟩ j hj
     cases j with
     | zero => exact h1
     | succ j => exact h2 j (by omega)
   · intro h
     exact ⟨h 0 (by omega), fun j hj => h (j + 1) (by omega)⟩
theorem two_alike : ∀ (n : Nat) (f : Nat → Nat), (∀ i, i ≤ n → f i < n) → ∃ i j, i < j ∧ j ≤ n ∧ f i = f j
 | 0, f, h => by have := h 0 (Nat.le_refl _); omega
 | n + 1, f, h => by
   by_cases e : ∃ i, i ≤ n ∧ f i = f (n + 1)
   · obtain ⟨i, hi, e⟩ := e
     exact ⟨i, n + 1, by omega, by omega, e⟩
   · have he : ∀ i, i ≤ n → f i ≠ f (n + 1) := fun i hi h => e ⟨i, hi, h⟩
     have hl := h (n + 1) (Nat.le_refl _);obtain ⟨i, j, hij, hj, e2⟩ := two_alike n (fun i => if f i = n then f (n + 1) else f i) (fun i hi => by
       have h1 := h i (by omega);have h2 := he i hi;split <;> omega)
     have h1 := he i (by omega);have h2 := he j hj;refine ⟨i, j, hij, by omega, ?_⟩;split at e2 <;> split at e2 <;> omega
theorem it_round {code : List Ins} {p i j : Nat} (hij : i < j) (e : itI code i p = itI code j p) (h : ∀ k, k < j → freeI (inAt code (itI code k p)).op = true) : ∀ k, freeI (inAt code (itI code k p)).op = true := by
 intro k
 induction k using Nat.strongRecOn with
 | _ k ih =>
   by_cases hk : k < j
   · exact h k hk
   · have e1 : itI code k p = itI code (i + (k - j)) p := by
       rw [show k = j + (k - j) by omega, itI_add, ← e, ← itI_add]
       congr 1
       omega
     rw [e1];exact ih _ (by omega)
theorem succ_met {code : List Ins} {d : List Int} (hf : FitsI code d) (h0 : ∀ p, 0 ≤ takesI (inAt code p)) {p : Nat} (hp : d.getD p (-1) ≠ -1) (hfr : freeI (inAt code p).op = true) : d.getD (succI code p) (-1) ≠ -1 := by
 have hA := hf.at_ p hp;unfold freeI at hfr;rw [Bool.or_eq_true, beq_iff_eq, beq_iff_eq] at hfr;unfold succI;rcases hfr with e | e
 · rw [if_pos e]
   have := hA.goal (by rw [e]; rfl) (by rw [e]; rfl);rw [this.2];have := (thereI_range hA.takes (h0 p)).1;omega
 · rw [if_neg (by omega)]
   have := hA.next (by rw [e]; rfl) (by omega);rw [this.2];have := (nextI_range hA.takes (h0 p)).1;omega
theorem met_lt {d : List Int} {p : Nat} (hp : d.getD p (-1) ≠ -1) : p < d.length := by
 rcases Nat.lt_or_ge p d.length with h | h
 · exact h
 · exact absurd (by rw [List.getD_eq_getElem?_getD, List.getElem?_eq_none h]; rfl) hp
theorem it_met {code : List Ins} {d : List Int} (hf : FitsI code d) (h0 : ∀ p, 0 ≤ takesI (inAt code p)) : ∀ (k p : Nat), d.getD p (-1) ≠ -1 → (∀ j, j < k → freeI (inAt code (itI code j p)).op = true) → d.getD (itI code k p) (-1) ≠ -1
 | 0, _, hp, _ => hp
 | k + 1, p, hp, h => it_met hf h0 k (succI code p) (succ_met hf h0 hp (h 0 (by omega))) (fun j hj => h (j + 1) (by omega))
theorem run_all {code : List Ins} {d : List Int} (hf : FitsI code d) (h0 : ∀ p, 0 ≤ takesI (inAt code p)) {p : Nat} (hp : d.getD p (-1) ≠ -1) (h : runI code (d.length + 1) p = true) (k : Nat) : freeI (inAt code (itI code k p)).op = true := by
 have hr := (runI_iff code _ p).1 h;obtain ⟨i, j, hij, hj, e⟩ := two_alike d.length (fun i => itI code i p) (fun i hi => met_lt (it_met hf h0 i p hp (fun j hj => hr j (by omega))));exact it_round hij e (fun k hk => hr k (by omega)) k
theorem run_stops {code : List Ins} {d : List Int} (hf : FitsI code d) (h0 : ∀ p, 0 ≤ takesI (inAt code p)) {p k : Nat} (hp : d.getD p (-1) ≠ -1) (h : freeI (inAt code (itI code k p)).op = false) : runI code (d.length + 1) p = false := by
 cases hr : runI code (d.length + 1) p with
 | false => rfl
 | true => rw [run_all hf h0 hp hr k] at h; cases h
theorem run_round {code : List Ins} {p j m : Nat} (hj : j < m) (e : itI code m p = itI code j p) (h : ∀ k, k < m → freeI (inAt code (itI code k p)).op = true) (n : Nat) : runI code n p = true :=
 (runI_iff code n p).2 (fun k _ => it_round hj e.symm h k)
end Go.Proofs.YtefijbpbenmbgaaDoor
namespace Go.Proofs.YtefijbpbenmbgaaDoor
open Go.RowKit Go.Shelf
structure GLoc (lo hi : Nat) (x : Ins) (q : Nat) (D : Nat → Int) : Prop where
 takes : takesI x ≤ D q
 ends : endsI x.op = true → D q = takesI x
 goal : endsI x.op = false → akI x.op = 1 → ∃ t : Nat, x.a = (t : Int) ∧ lo ≤ t ∧ t ≤ hi ∧ D t = thereI x (D q)
 next : endsI x.op = false → x.op ≠ 1 → D (q + 1) = nextI x (D q)
theorem GLoc.congr {lo hi lo' hi' : Nat} {x : Ins} {q : Nat} {D D' : Nat → Int} (h : GLoc lo hi x q D) (hl : lo' ≤ lo) (hh : hi ≤ hi') (hq : lo ≤ q) (hq2 : q < hi) (he : ∀ r, lo ≤ r → r ≤ hi → D' r = D r) : GLoc lo' hi' x q D' := by
 have e0 := he q hq (by omega);have e1 := he (q + 1) (by omega) (by omega);refine ⟨by rw [e0]; exact h.takes, fun a => by rw [e0]; exact h.ends a, fun a b => ?_, fun a b => by rw [e0, e1]; exact h.next a b⟩;obtain ⟨t, h1, h2, h3, h4⟩ := h.goal a b;exact ⟨t, h1, by omega, by omega, by rw [e0, he t h2 h3]; exact h4⟩
def GSeg (lo hi p : Nat) (c : List Ins) (D : Nat → Int) : Prop := ∀ i x, c[i]? = some x → GLoc lo hi x (p + i) D
theorem GSeg.nil {lo hi p : Nat} {D : Nat → Int} : GSeg lo hi p [] D := fun i x h => by simp at h
theorem GSeg.cons {lo hi p : Nat} {x : Ins} {d : List Ins} {D : Nat → Int} (h : GLoc lo hi x p D) (g : GSeg lo hi (p + 1) d D) : GSeg lo hi p (x :: d) D := by
 intro i y hy;cases i with
 | zero =>
   simp only [List.getElem?_cons_zero, Option.some.injEq] at hy;subst hy;exact h
 | succ i =>
   rw [List.getElem?_cons_succ] at hy;have := g i y hy;rw [show p + 1 + i = p + (i + 1) by omega] at this;exact this
theorem GSeg.app {lo hi p : Nat} {c d : List Ins} {D : Nat → Int} (h : GSeg lo hi p c D) (g : GSeg lo hi (p + c.length) d D) : GSeg lo hi p (c ++ d) D := by
 intro i y hy;rcases Nat.lt_or_ge i c.length with hi' | hi'
 · rw [List.getElem?_append_left hi'] at hy
   exact h i y hy
 · rw [List.getElem?_append_right hi'] at hy
   have := g _ y hy;rw [show p + c.length + (i - c.length) = p + i by omega] at this;exact this
theorem GSeg.congr {lo hi p : Nat} {c : List Ins} {D D' : Nat → Int} (h : GSeg p (p + c.length) p c D) (hl : lo ≤ p) (hh : p + c.length ≤ hi) (he : ∀ r, p ≤ r → r ≤ p + c.length → D' r = D r) : GSeg lo hi p c D' := by
 intro i x hx;have hi' := (List.getElem?_eq_some_iff.1 hx).1;exact (h i x hx).congr hl hh (by omega) (by omega) he
def Fs.net : Fs → Nat
 | .nil => 0
 | .cons x _ r => (if exprB x.op = true then 1 else 0) + r.net
def Fs.allE : Fs → Prop
 | .nil => True
 | .cons x _ r => exprB x.op = true ∧ r.allE
def Fs.noE : Fs → Prop
 | .nil => True
 | .cons x _ r => exprB x.op = false ∧ r.noE
theorem net_all : ∀ F : Fs, F.allE → F.net = F.count
 | .nil, _ => rfl
 | .cons x k r, h => by
   show (if exprB x.op = true then 1 else 0) + r.net = r.count + 1
   rw [if_pos h.1, net_all r h.2]; omega
theorem net_no : ∀ F : Fs, F.noE → F.net = 0
 | .nil, _ => rfl
 | .cons x k r, h => by
   show (if exprB x.op = true then 1 else 0) + r.net = 0
   rw [h.1, net_no r h.2]; rfl
theorem expr_all {n : Int} : ∀ {F : Fs} {p : Nat}, F.part 1 n p → F.allE
 | .nil, _, _ => trivial
 | .cons x _ r, p, h => ⟨by have := h.1; simpa [partOK] using this, expr_all h.2⟩
theorem expr_no {pk : Nat} {n : Int} (hp : pk = 2 ∨ pk = 3) : ∀ {F : Fs} {p : Nat}, F.part pk n p → F.noE
 | .nil, _, _ => trivial
 | .cons x _ r, p, h => by
   refine ⟨?_, expr_no hp h.2⟩;have h1 := h.1;rcases hp with rfl | rfl
   · have : x.op = 2 ∨ x.op = 3 := by
       unfold partOK at h1;simp only [show ¬ (2 : Nat) = 1 by omega, ↓reduceIte] at h1;split at h1 <;> simp only [beq_iff_eq] at h1 <;> omega
     rcases this with e | e <;> rw [e] <;> rfl
   · have : 4 ≤ x.op ∧ x.op ≤ 11 := by
       unfold partOK stmtB at h1
       simpa using h1
     unfold exprB;simp only [Bool.or_eq_false_iff, decide_eq_false_iff_not];omega
theorem lone_kind {op : Nat} {k : Kind} (h : kindOf op = some k) (hl : op ∈ loneOps) :
   (k.part = 1 ∨ (k.part = 0 ∧ k.most = 0)) ∧ (op ≠ 25 → op ≠ 50 → op ≠ 51 → k.least = takesR (opI op) ∧ k.most = takesR (opI op) ∧ akI (opI op) = 0) ∧ leaveR (opI op) = (if exprB op = true then 1 else 0) ∧ akI (opI op) ≠ 1 ∧ opI op ≠ 1 ∧ opI op ≠ 5 ∧ opI op ≠ 28 ∧ opI op ≠ 53 ∧ (endsI (opI op) = true → exprB op = false) ∧ wordI (opI op) ≠ [] ∧ k.most ≤ 2048 ∧
     ((k.text = 0 ∧ nameI (opI op) = false ∧ opI op ≠ 24) ∨ (k.text = 1 ∧ nameI (opI op) = true ∧ opI op ≠ 24) ∨ (k.text = 2 ∧ opI op = 24)) ∧ (op = 23 → opI op = 23) ∧ ((op = 25 ∨ op = 50 ∨ op = 51) → akI (opI op) = 3) := by
 have a1 : ∀ p ∈ kindsL, p.1 ∈ loneOps → (p.2.part = 1 ∨ (p.2.part = 0 ∧ p.2.most = 0)) ∧ (p.1 ≠ 25 → p.1 ≠ 50 → p.1 ≠ 51 → p.2.least = takesR (opI p.1) ∧ p.2.most = takesR (opI p.1) ∧ akI (opI p.1) = 0) := by decide
 have a2 : ∀ p ∈ kindsL, p.1 ∈ loneOps → leaveR (opI p.1) = (if exprB p.1 = true then 1 else 0) ∧ akI (opI p.1) ≠ 1 ∧ opI p.1 ≠ 1 ∧ opI p.1 ≠ 5 ∧ opI p.1 ≠ 28 ∧ opI p.1 ≠ 53 := by decide
 have a3 : ∀ p ∈ kindsL, p.1 ∈ loneOps → (endsI (opI p.1) = true → exprB p.1 = false) ∧ wordI (opI p.1) ≠ [] ∧ p.2.most ≤ 2048 := by decide
 have a4 : ∀ p ∈ kindsL, p.1 ∈ loneOps → ((p.2.text = 0 ∧ nameI (opI p.1) = false ∧ opI p.1 ≠ 24) ∨ (p.2.text = 1 ∧ nameI (opI p.1) = true ∧ opI p.1 ≠ 24) ∨ (p.2.text = 2 ∧ opI p.1 = 24)) := by decide
 have a5 : ∀ p ∈ kindsL, p.1 ∈ loneOps → (p.1 = 23 → opI p.1 = 23) ∧ ((p.1 = 25 ∨ p.1 = 50 ∨ p.1 = 51) → akI (opI p.1) = 3) := by decide
 have hm := lookK_pair h;obtain ⟨b1, b2⟩ := a1 _ hm hl;obtain ⟨c1, c2, c3, c4, c5, c6⟩ := a2 _ hm hl;obtain ⟨d1, d2, d3⟩ := a3 _ hm hl;obtain ⟨e1, e2⟩ := a5 _ hm hl;exact ⟨b1, b2, c1, c2, c3, c4, c5, c6, d1, d2, d3, a4 _ hm hl, e1, e2⟩
theorem kids_range {k : Kind} {x : Tw} (h : allowsB k x = true) : (k.least : Int) ≤ x.kids ∧ x.kids ≤ (k.most : Int) := by
 unfold allowsB at h;simp only [Bool.and_eq_true, decide_eq_true_eq] at h;exact ⟨h.1.1.2, h.1.2⟩
theorem lone_takes {x : Tw} {k : Fs} (h : (Fs.cons x k .nil).ok) (hl : x.op ∈ loneOps) : takesI (loneI x) = (k.count : Int) ∧ k.allE := by
 obtain ⟨⟨kd, hk, ha, hp⟩, hn, _, _⟩ := h;obtain ⟨h1, h2, _⟩ := lone_kind hk hl;have h3 := (lone_kind hk hl).2.2.2.2.2.2.2.2.2.2.2.2.2;have hr := kids_range ha
 constructor
 · unfold takesI loneI
   dsimp only;by_cases c : x.op = 25 ∨ x.op = 50 ∨ x.op = 51
   · rw [if_pos (h3 c), if_pos c, hn]
   · obtain ⟨a, b, d⟩ := h2 (by omega) (by omega) (by omega)
     rw [d, if_neg (by decide)];omega
 · rcases h1 with e | ⟨e, m⟩
   · rw [e] at hp; exact expr_all hp
   · have : k.count = 0 := by omega
     rw [forest0 this]
     trivial
theorem part_of {x : Tw} {k : Fs} (h : (Fs.cons x k .nil).ok) : ((x.op = 4 ∨ x.op = 5 ∨ x.op = 30 ∨ x.op = 31) → k.allE) ∧ ((x.op = 1 ∨ x.op = 3) → k.noE) ∧ (x.op = 2 → k = .nil) ∧ ((x.op = 6 ∨ x.op = 7) → k.part 4 x.kids 0) ∧ (x.op = 53 → k.part 5 x.kids 0) := by
 obtain ⟨⟨kd, hk, ha, hp⟩, hn, _, _⟩ := h;have a : ∀ p ∈ kindsL, ((p.1 = 4 ∨ p.1 = 5 ∨ p.1 = 30 ∨ p.1 = 31) → p.2.part = 1) ∧ (p.1 = 1 → p.2.part = 2) ∧ (p.1 = 3 → p.2.part = 3) ∧ (p.1 = 2 → p.2.most = 0) ∧ ((p.1 = 6 ∨ p.1 = 7) → p.2.part = 4) ∧ (p.1 = 53 → p.2.part = 5) := by decide
 obtain ⟨a1, a2, a3, a4, a5, a6⟩ := a _ (lookK_pair hk);dsimp only at a1 a2 a3 a4 a5 a6;have hr := kids_range ha;refine ⟨fun e => ?_, fun e => ?_, fun e => ?_, fun e => ?_, fun e => ?_⟩
 · rw [a1 e] at hp; exact expr_all hp
 · rcases e with e | e
   · rw [a2 e] at hp; exact expr_no (.inl rfl) hp
   · rw [a3 e] at hp; exact expr_no (.inr rfl) hp
 · have := a4 e
   exact forest0 (by omega)
 · rw [a5 e] at hp; exact hp
 · rw [a6 e] at hp; exact hp
theorem part4_0 {n : Int} {a : Tw} {ka r : Fs} (h : (Fs.cons a ka r).part 4 n 0) : exprB a.op = true := by
 have := h.1
 simpa [partOK] using this
theorem part4_S {n : Int} {a : Tw} {ka r : Fs} {p : Nat} (h : (Fs.cons a ka r).part 4 n (p + 1)) : a.op = 3 := by
 have := h.1;unfold partOK at this;simp only [show ¬ (4 : Nat) = 1 by omega, show ¬ (4 : Nat) = 2 by omega, show ¬ (4 : Nat) = 3 by omega, ↓reduceIte, show ¬ ((p + 1 : Nat) : Int) = 0 by omega, beq_iff_eq] at this;omega
theorem part5_0 {n : Int} {a : Tw} {ka r : Fs} {p : Nat} (h : (Fs.cons a ka r).part 5 n p) : a.op = 3 := by
 have := h.1;unfold partOK at this;simp only [show ¬ (5 : Nat) = 1 by omega, show ¬ (5 : Nat) = 2 by omega, show ¬ (5 : Nat) = 3 by omega, show ¬ (5 : Nat) = 4 by omega, ↓reduceIte, beq_iff_eq] at this;omega
theorem one_ok {x : Tw} {k r : Fs} (h : (Fs.cons x k r).ok) : (Fs.cons x k .nil).ok := ⟨h.1, h.2.1, h.2.2.1, trivial⟩
theorem net_e {a : Tw} {ka : Fs} (h : exprB a.op = true) : (Fs.cons a ka .nil).net = 1 := by
 show (if exprB a.op = true then 1 else 0) + 0 = 1
 rw [if_pos h]
theorem net_s {a : Tw} {ka : Fs} (h : exprB a.op = false) : (Fs.cons a ka .nil).net = 0 := by
 show (if exprB a.op = true then 1 else 0) + 0 = 0
 rw [h]; rfl
end Go.Proofs.YtefijbpbenmbgaaDoor
