/- Plain: where the pass ends well, the list of twigs ends a tree (layer 8). No condition. -/
import Derived.Test.YthgkkdhalcpgbaaRTwigs
namespace Go.Proofs.Ythgkkdhalcpgbaa
open Go.RowKit Go.Shelf

theorem kids_end (ts : List Tw) (k : Kind) (kids : Int) (f : PSt → Bool × PSt)
    (hf : ∀ s s', f s = (true, s') → s.gone < ts.length → s.gone ≤ s'.gone ∧ s'.gone ≤ ts.length ∧ ∀ m r, endL (ts.drop s'.gone) m = some r → endL (ts.drop s.gone) (m + 1) = some (r + (s'.gone - s.gone))) :
    ∀ (n p : Nat) (s s' : PSt), kidsF f ts k kids n p s = (true, s') → s.gone ≤ ts.length → s.gone ≤ s'.gone ∧ s'.gone ≤ ts.length ∧ ∀ m r, endL (ts.drop s'.gone) m = some r → endL (ts.drop s.gone) (m + n) = some (r + (s'.gone - s.gone))
  | 0, _, s, s', h, hl => by
    cases h
    exact ⟨Nat.le_refl _, hl, fun m r e => by rw [Nat.add_zero, Nat.sub_self, Nat.add_zero]; exact e⟩
  | n + 1, p, s, s', h, hl => by
    unfold kidsF at h
    split at h
    · cases h
    · split at h
      · cases h
      · split at h
        · cases h
        · rename_i h1 _ h3
          rcases hq : f s with ⟨b, s2⟩
          rw [hq] at h h3
          have hb : b = true := by cases b; exact absurd rfl h3; rfl
          subst hb
          obtain ⟨a1, a2, a3⟩ := hf s s2 hq (by omega)
          obtain ⟨b1, b2, b3⟩ := kids_end ts k kids f hf n (p + 1) s2 s' h a2
          refine ⟨by omega, b2, fun m r e => ?_⟩
          have e2 := a3 _ _ (b3 m r e)
          rw [show m + (n + 1) = m + n + 1 by omega, e2]
          congr 1
          omega
theorem pass_end (ts : List Tw) : ∀ (fuel lies : Nat) (s s' : PSt), passF fuel ts lies s = (true, s') → s.gone < ts.length → s.gone ≤ s'.gone ∧ s'.gone ≤ ts.length ∧ ∀ m r, endL (ts.drop s'.gone) m = some r → endL (ts.drop s.gone) (m + 1) = some (r + (s'.gone - s.gone))
  | 0, _, s, s', h, _ => by cases h
  | fuel + 1, lies, s, s', h, hl => by
    unfold passF at h
    split at h
    · cases h
    · split at h
      · cases h
      · rename_i k _ _
        have hx : twAt ts s.gone = ts[s.gone] := by simp [twAt, List.getD_eq_getElem?_getD, List.getElem?_eq_getElem hl]
        obtain ⟨b1, b2, b3⟩ := kids_end ts k _ _ (fun t t' ht htl => pass_end ts fuel (lies + 1) t t' ht htl) _ 0 (nextS s lies) s' h hl
        have b1' : s.gone + 1 ≤ s'.gone := b1
        refine ⟨by omega, b2, fun m r e => ?_⟩
        have e2 := b3 m r e
        have e3 : endL (ts.drop (s.gone + 1)) (m + ts[s.gone].kids.toNat) = some (r + (s'.gone - (s.gone + 1))) := by rw [← hx]; exact e2
        rw [List.drop_eq_getElem_cons hl]
        unfold endL
        rw [e3]
        show some (r + (s'.gone - (s.gone + 1)) + 1) = _
        congr 1
        omega
/-- A right tree ends where its list ends. -/
theorem right_end {ts : List Tw} (h0 : 0 < ts.length) (h1 : (passF ts.length ts 1 ⟨0, 0, 0⟩).1 = true) (h2 : ¬ (passF ts.length ts 1 ⟨0, 0, 0⟩).2.gone < ts.length) : endL ts 1 = some ts.length := by
  rcases hq : passF ts.length ts 1 ⟨0, 0, 0⟩ with ⟨b, s'⟩
  rw [hq] at h1 h2
  have hb : b = true := h1
  subst hb
  obtain ⟨_, a2, a3⟩ := pass_end ts _ _ _ _ hq h0
  have h2' : ¬ s'.gone < ts.length := h2
  have e : s'.gone = ts.length := by omega
  have a4 := a3 0 0 (endL_zero _)
  rw [e] at a4
  simpa using a4
end Go.Proofs.Ythgkkdhalcpgbaa
