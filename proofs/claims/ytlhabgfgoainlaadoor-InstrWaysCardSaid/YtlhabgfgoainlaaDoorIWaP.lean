/- Plain: whichever way one goes through code that fits (layer 14). No condition. -/
import Derived.Test.YtlhabgfgoainlaaDoorIChk2
namespace Go.Proofs.YtlhabgfgoainlaaDoor
open Go.RowKit

/-- On a way: at a place p, behind f free instructions; the last fork's target is fk. -/
structure WayI (code : List Ins) (d : List Int) (p fk f : Nat) : Prop where
  met : d.getD p (-1) ≠ -1
  fork : d.getD fk (-1) = 0
  run : ∃ s, d.getD s (-1) ≠ -1 ∧ itI code f s = p ∧ ∀ j, j < f → freeI (inAt code (itI code j s)).op = true
section
variable {code : List Ins} {d : List Int} {p fk f : Nat} (hf : FitsI code d) (hR : AllRt code) (hc : circI code d = none)
theorem WayI.start (hf : FitsI code d) : WayI code d 0 0 0 := ⟨by rw [hf.first]; decide, hf.first, 0, by rw [hf.first]; decide, rfl, fun j hj => by omega⟩
theorem WayI.lt (h : WayI code d p fk f) : p < d.length := met_lt h.met
theorem WayI.forkLt (h : WayI code d p fk f) : fk < d.length := met_lt (by rw [h.fork]; decide)
theorem WayI.at_ (h : WayI code d p fk f) (hf : FitsI code d) : FitAt code d p := hf.at_ p h.met
/-- Never more free ones one behind the other than there are. -/
theorem WayI.free (h : WayI code d p fk f) (hc : circI code d = none) (hfr : freeI (inAt code p).op = true) : f + 1 ≤ d.length := by
  obtain ⟨s, hs, he, hj⟩ := h.run
  unfold circI at hc
  rw [List.find?_eq_none] at hc
  have h1 := hc s (List.mem_range.2 (met_lt hs))
  rw [decide_eq_true hs, Bool.true_and, Bool.not_eq_true] at h1
  rcases Nat.lt_or_ge d.length (f + 1) with hlt | hge
  · have : runI code (d.length + 1) s = true := (runI_iff code _ s).2 (fun j hjl => by
      by_cases e : j < f
      · exact hj j e
      · have e2 : j = f := by omega
        rw [e2, he]; exact hfr)
    rw [this] at h1; cases h1
  · exact hge
theorem WayI.ended (h : WayI code d p fk f) (hf : FitsI code d) (b : Bool) : WayI code d (if b then fk else 0) fk 0 := by
  have key : ∀ q, d.getD q (-1) = 0 → WayI code d q fk 0 := fun q hq => ⟨by rw [hq]; decide, h.fork, q, by rw [hq]; decide, rfl, fun j hj => by omega⟩
  cases b
  · exact key 0 hf.first
  · exact key fk h.fork
/-- One goes on to a place of which the depth is known. -/
theorem WayI.stepped (h : WayI code d p fk f) {q fk' : Nat} (hq : d.getD q (-1) ≠ -1) (hk : d.getD fk' (-1) = 0) (hs : freeI (inAt code p).op = true → q = succI code p) :
    WayI code d q fk' (if freeI (inAt code p).op then f + 1 else 0) := by
  cases e : freeI (inAt code p).op with
  | false => exact ⟨hq, hk, q, hq, rfl, fun j hj => by simp at hj⟩
  | true =>
    obtain ⟨s, h1, h2, h3⟩ := h.run
    refine ⟨hq, hk, s, h1, ?_, fun j hj => ?_⟩
    · rw [if_pos rfl, itI_succ, h2, hs e]
    · rw [if_pos rfl] at hj
      by_cases e2 : j < f
      · exact h3 j e2
      · have e3 : j = f := by omega
        rw [e3, h2]; exact e
end
theorem WayI.le {code : List Ins} {d : List Int} {p fk f : Nat} (h : WayI code d p fk f) (hc : circI code d = none) : f ≤ d.length := by
  obtain ⟨s, hs, he, hj⟩ := h.run
  unfold circI at hc
  rw [List.find?_eq_none] at hc
  have h1 := hc s (List.mem_range.2 (met_lt hs))
  rw [decide_eq_true hs, Bool.true_and, Bool.not_eq_true] at h1
  rcases Nat.lt_or_ge d.length f with hlt | hge
  · have : runI code (d.length + 1) s = true := (runI_iff code _ s).2 (fun j hjl => hj j (by omega))
    rw [this] at h1; cases h1
  · exact hge
theorem free_ends {op : Nat} (h : endsI op = true) : freeI op = false := by
  unfold endsI at h
  unfold freeI
  simp only [Bool.or_eq_true, beq_iff_eq] at h
  simp only [Bool.or_eq_false_iff, beq_eq_false_iff_ne]
  omega
theorem ak_five : akI 5 = 0 := rfl
theorem dp_range {code : List Ins} {d : List Int} {p : Nat} (hf : FitsI code d) (h : d.getD p (-1) ≠ -1) (hn : code.length ≤ 8192) : 0 ≤ d.getD p (-1) ∧ d.getD p (-1) ≤ 100000 := by
  have := hf.dp p
  omega
end Go.Proofs.YtlhabgfgoainlaaDoor
