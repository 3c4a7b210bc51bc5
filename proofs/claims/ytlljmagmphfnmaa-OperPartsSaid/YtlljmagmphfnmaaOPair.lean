/- (mkopair.py) oper's pairs (layer 12), walked: its eight inserts come in whatever order. No condition. -/
import Derived.Test.YtlljmagmphfnmaaOMap
namespace Go.Proofs.Ytlljmagmphfnmaa
open Go.RowKit

def lstP (s0 s1 s2 s3 s4 s5 s6 s7 : Bool) : Array Bool := #[true, true, s0, true, s1, true, s2, true, s3, true, s4, true, s5, true, s6, true, s7, false, false]
def rdyP (s0 s1 s2 s3 s4 s5 s6 s7 : Bool) : List Nat := (bif s0 then [] else [2]) ++ (bif s1 then [] else [4]) ++ (bif s2 then [] else [6]) ++ (bif s3 then [] else [8]) ++ (bif s4 then [] else [10]) ++ (bif s5 then [] else [12]) ++ (bif s6 then [] else [14]) ++ (bif s7 then [] else [16]) ++ (bif (s0 && s1 && s2 && s3 && s4 && s5 && s6 && s7) then [17] else [])
def cntP (s0 s1 s2 s3 s4 s5 s6 s7 : Bool) : Nat := (bif s0 then 0 else 1) + (bif s1 then 0 else 1) + (bif s2 then 0 else 1) + (bif s3 then 0 else 1) + (bif s4 then 0 else 1) + (bif s5 then 0 else 1) + (bif s6 then 0 else 1) + (bif s7 then 0 else 1)
theorem rdy_ne : ∀ s0 s1 s2 s3 s4 s5 s6 s7 : Bool, rdyP s0 s1 s2 s3 s4 s5 s6 s7 ≠ [] := by decide +kernel
theorem cnt_zero : ∀ s0 s1 s2 s3 s4 s5 s6 s7 : Bool, cntP s0 s1 s2 s3 s4 s5 s6 s7 = 0 → (s0 && s1 && s2 && s3 && s4 && s5 && s6 && s7) = true := by decide +kernel
theorem rdy_mem : ∀ s0 s1 s2 s3 s4 s5 s6 s7 : Bool, ∀ i ∈ rdyP s0 s1 s2 s3 s4 s5 s6 s7, (i = 17 ∧ cntP s0 s1 s2 s3 s4 s5 s6 s7 = 0) ∨ (i = 2 ∧ s0 = false ∧ cntP s0 s1 s2 s3 s4 s5 s6 s7 = cntP true s1 s2 s3 s4 s5 s6 s7 + 1) ∨ (i = 4 ∧ s1 = false ∧ cntP s0 s1 s2 s3 s4 s5 s6 s7 = cntP s0 true s2 s3 s4 s5 s6 s7 + 1) ∨ (i = 6 ∧ s2 = false ∧ cntP s0 s1 s2 s3 s4 s5 s6 s7 = cntP s0 s1 true s3 s4 s5 s6 s7 + 1) ∨ (i = 8 ∧ s3 = false ∧ cntP s0 s1 s2 s3 s4 s5 s6 s7 = cntP s0 s1 s2 true s4 s5 s6 s7 + 1) ∨ (i = 10 ∧ s4 = false ∧ cntP s0 s1 s2 s3 s4 s5 s6 s7 = cntP s0 s1 s2 s3 true s5 s6 s7 + 1) ∨ (i = 12 ∧ s5 = false ∧ cntP s0 s1 s2 s3 s4 s5 s6 s7 = cntP s0 s1 s2 s3 s4 true s6 s7 + 1) ∨ (i = 14 ∧ s6 = false ∧ cntP s0 s1 s2 s3 s4 s5 s6 s7 = cntP s0 s1 s2 s3 s4 s5 true s7 + 1) ∨ (i = 16 ∧ s7 = false ∧ cntP s0 s1 s2 s3 s4 s5 s6 s7 = cntP s0 s1 s2 s3 s4 s5 s6 true + 1) := by decide +kernel

theorem wp_insert {ops : Array Oper} {o : Oper} {a : Act} {w : World} {b j : Nat} {L : List Bool} {m x v : Operand} {K : Act → World → Prop} {Q : Exit → Act → World → Prop} (hop : o.op = Op.insert 38 m x v) (hg : o.guard = none) (hd : o.dst = none) (hm : a.eval m = .map (some b)) (hx : a.eval x = keyP j) (hv : a.eval v = valP j)
    (h : PInv w b L) (hj : j < 8) (hl : L.length = 8) (hS : L[j]? = some false) (hK : ∀ w', PInv w' b (L.set j true) → Only (fun k => k = b) w w' → K a w') :
    if Region.wanted o (yielded ops a.tmps) = true then Oper.wp Try.prog o a w K Q else K (a.put o.dst undef) w := by
  obtain ⟨w', hrun, r1, r2⟩ := h.put hj hl hS
  have hw : Region.wanted o (yielded ops a.tmps) = true := by unfold Region.wanted; rw [hg]
  rw [if_pos hw]
  unfold Oper.wp
  simp [execOp, hop, hm, hx, hv, hrun, hd, Result.andThen, Oper.upon]
  exact hK w' r1 r2
/-- The eight inserts, in whatever order. -/
theorem ins_all {ops : Array Oper} {a : Act} {b : Nat} {w0 : World} {Q : Exit → Act → World → Prop}
    (hr : ∀ s0 s1 s2 s3 s4 s5 s6 s7, Region.ready .any ops (lstP s0 s1 s2 s3 s4 s5 s6 s7) = rdyP s0 s1 s2 s3 s4 s5 s6 s7)
    (hop : ∀ j, j < 8 → ∃ o m x v, ops[2 * j + 2]? = some o ∧ o.guard = none ∧ o.dst = none ∧ o.op = Op.insert 38 m x v ∧ a.eval m = .map (some b) ∧ a.eval x = keyP j ∧ a.eval v = valP j)
    (hend : ∀ w, PInv w b (List.replicate 8 true) → Only (fun k => k = b) w0 w → wpAny Try.prog .any ops Q 2 (lstP true true true true true true true true) a w) :
    ∀ (n : Nat) (s0 s1 s2 s3 s4 s5 s6 s7 : Bool) (w : World), cntP s0 s1 s2 s3 s4 s5 s6 s7 = n → PInv w b [s0, s1, s2, s3, s4, s5, s6, s7] → Only (fun k => k = b) w0 w → wpAny Try.prog .any ops Q (n + 2) (lstP s0 s1 s2 s3 s4 s5 s6 s7) a w
  | 0, s0, s1, s2, s3, s4, s5, s6, s7, w, hc, hI, ho => by
    have hz := cnt_zero s0 s1 s2 s3 s4 s5 s6 s7 hc
    simp only [Bool.and_eq_true] at hz
    obtain ⟨⟨⟨⟨⟨⟨⟨rfl, rfl⟩, rfl⟩, rfl⟩, rfl⟩, rfl⟩, rfl⟩, rfl⟩ := hz
    exact hend w hI ho
  | n + 1, s0, s1, s2, s3, s4, s5, s6, s7, w, hc, hI, ho => by
    refine wpAny_all (hr s0 s1 s2 s3 s4 s5 s6 s7) (rdy_ne s0 s1 s2 s3 s4 s5 s6 s7) (fun i hi => ?_)
    rcases rdy_mem s0 s1 s2 s3 s4 s5 s6 s7 i hi with ⟨_, h0⟩ | ⟨rfl, rfl, hn⟩ | ⟨rfl, rfl, hn⟩ | ⟨rfl, rfl, hn⟩ | ⟨rfl, rfl, hn⟩ | ⟨rfl, rfl, hn⟩ | ⟨rfl, rfl, hn⟩ | ⟨rfl, rfl, hn⟩ | ⟨rfl, rfl, hn⟩
    · omega
    · obtain ⟨o, m, x, v, h1, h2, h3, h4, h5, h6, h7⟩ := hop 0 (by decide)
      exact wpOp_step h1 (fun K hK => wp_insert (j := 0) h4 h2 h3 h5 h6 h7 hI (by decide) rfl rfl (fun w2 hI2 ho2 => hK _ _ (ins_all hr hop hend n true s1 s2 s3 s4 s5 s6 s7 w2 (by omega) hI2 (ho.then ho2))))
    · obtain ⟨o, m, x, v, h1, h2, h3, h4, h5, h6, h7⟩ := hop 1 (by decide)
      exact wpOp_step h1 (fun K hK => wp_insert (j := 1) h4 h2 h3 h5 h6 h7 hI (by decide) rfl rfl (fun w2 hI2 ho2 => hK _ _ (ins_all hr hop hend n s0 true s2 s3 s4 s5 s6 s7 w2 (by omega) hI2 (ho.then ho2))))
    · obtain ⟨o, m, x, v, h1, h2, h3, h4, h5, h6, h7⟩ := hop 2 (by decide)
      exact wpOp_step h1 (fun K hK => wp_insert (j := 2) h4 h2 h3 h5 h6 h7 hI (by decide) rfl rfl (fun w2 hI2 ho2 => hK _ _ (ins_all hr hop hend n s0 s1 true s3 s4 s5 s6 s7 w2 (by omega) hI2 (ho.then ho2))))
    · obtain ⟨o, m, x, v, h1, h2, h3, h4, h5, h6, h7⟩ := hop 3 (by decide)
      exact wpOp_step h1 (fun K hK => wp_insert (j := 3) h4 h2 h3 h5 h6 h7 hI (by decide) rfl rfl (fun w2 hI2 ho2 => hK _ _ (ins_all hr hop hend n s0 s1 s2 true s4 s5 s6 s7 w2 (by omega) hI2 (ho.then ho2))))
    · obtain ⟨o, m, x, v, h1, h2, h3, h4, h5, h6, h7⟩ := hop 4 (by decide)
      exact wpOp_step h1 (fun K hK => wp_insert (j := 4) h4 h2 h3 h5 h6 h7 hI (by decide) rfl rfl (fun w2 hI2 ho2 => hK _ _ (ins_all hr hop hend n s0 s1 s2 s3 true s5 s6 s7 w2 (by omega) hI2 (ho.then ho2))))
    · obtain ⟨o, m, x, v, h1, h2, h3, h4, h5, h6, h7⟩ := hop 5 (by decide)
      exact wpOp_step h1 (fun K hK => wp_insert (j := 5) h4 h2 h3 h5 h6 h7 hI (by decide) rfl rfl (fun w2 hI2 ho2 => hK _ _ (ins_all hr hop hend n s0 s1 s2 s3 s4 true s6 s7 w2 (by omega) hI2 (ho.then ho2))))
    · obtain ⟨o, m, x, v, h1, h2, h3, h4, h5, h6, h7⟩ := hop 6 (by decide)
      exact wpOp_step h1 (fun K hK => wp_insert (j := 6) h4 h2 h3 h5 h6 h7 hI (by decide) rfl rfl (fun w2 hI2 ho2 => hK _ _ (ins_all hr hop hend n s0 s1 s2 s3 s4 s5 true s7 w2 (by omega) hI2 (ho.then ho2))))
    · obtain ⟨o, m, x, v, h1, h2, h3, h4, h5, h6, h7⟩ := hop 7 (by decide)
      exact wpOp_step h1 (fun K hK => wp_insert (j := 7) h4 h2 h3 h5 h6 h7 hI (by decide) rfl rfl (fun w2 hI2 ho2 => hK _ _ (ins_all hr hop hend n s0 s1 s2 s3 s4 s5 s6 true w2 (by omega) hI2 (ho.then ho2))))
end Go.Proofs.Ytlljmagmphfnmaa
