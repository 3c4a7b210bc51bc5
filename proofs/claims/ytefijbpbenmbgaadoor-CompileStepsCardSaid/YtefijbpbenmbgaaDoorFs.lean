/- Plain: a right tree of twigs as a forest: its first twig, its parts, what stands beside it. No condition. -/
import Derived.Test.YtefijbpbenmbgaaDoorRLook
namespace Go.Proofs.YtefijbpbenmbgaaDoor
open Go.RowKit Go.Shelf

/-- Trees one behind the other: the first one's first twig, the first one's parts, the others. -/
inductive Fs where
  | nil
  | cons (x : Tw) (k r : Fs)
def Fs.flat : Fs → List Tw
  | .nil => []
  | .cons x k r => x :: (k.flat ++ r.flat)
def Fs.count : Fs → Nat
  | .nil => 0
  | .cons _ _ r => r.count + 1
/-- They may be the parts, from place p on of n, of a twig of that kind. -/
def Fs.part (pk : Nat) (n : Int) : Fs → Nat → Prop
  | .nil, _ => True
  | .cons x _ r, p => partOK pk (x.op : Int) (p : Int) n = true ∧ r.part pk n (p + 1)
/-- They are right trees. -/
def Fs.ok : Fs → Prop
  | .nil => True
  | .cons x k r => (∃ kd, kindOf x.op = some kd ∧ allowsB kd x = true ∧ k.part kd.part x.kids 0) ∧ x.kids = (k.count : Int) ∧ k.ok ∧ r.ok
theorem drop_at {ts : List Tw} {i : Nat} (h : i < ts.length) : ts.drop i = twAt ts i :: ts.drop (i + 1) := by
  rw [List.drop_eq_getElem_cons h]
  simp [twAt, List.getD_eq_getElem?_getD, List.getElem?_eq_getElem h]
theorem kids_forest (ts : List Tw) (k : Kind) (kids : Int) (f : PSt → Bool × PSt)
    (hf : ∀ s s', f s = (true, s') → s.gone < ts.length → s'.gone ≤ ts.length ∧ ∃ x K, (Fs.cons x K .nil).ok ∧ x = twAt ts s.gone ∧ ts.drop s.gone = x :: (K.flat ++ ts.drop s'.gone)) :
    ∀ (n p : Nat) (s s' : PSt), kidsF f ts k kids n p s = (true, s') → s.gone ≤ ts.length → s'.gone ≤ ts.length ∧ ∃ F : Fs, F.count = n ∧ F.ok ∧ F.part k.part kids p ∧ ts.drop s.gone = F.flat ++ ts.drop s'.gone
  | 0, _, s, s', h, hl => by
    cases h
    exact ⟨hl, .nil, rfl, trivial, trivial, rfl⟩
  | n + 1, p, s, s', h, hl => by
    unfold kidsF at h
    split at h
    · cases h
    · rename_i h1
      split at h
      · cases h
      · rename_i h2
        split at h
        · cases h
        · rename_i h3
          rcases hq : f s with ⟨b, s2⟩
          rw [hq] at h h3
          have hb : b = true := by cases b; exact absurd rfl h3; rfl
          subst hb
          obtain ⟨a1, x, K, ⟨a2, a3, a4, _⟩, a5, a6⟩ := hf s s2 hq (by omega)
          obtain ⟨b1, F, b2, b3, b4, b5⟩ := kids_forest ts k kids f hf n (p + 1) s2 s' h a1
          refine ⟨b1, .cons x K F, ?_, ⟨a2, a3, a4, b3⟩, ⟨?_, b4⟩, ?_⟩
          · show F.count + 1 = n + 1
            rw [b2]
          · rw [a5]
            cases hc : partOK k.part ((twAt ts s.gone).op : Int) (p : Int) kids with
            | true => rfl
            | false => exact absurd hc h2
          · show ts.drop s.gone = x :: (K.flat ++ F.flat) ++ ts.drop s'.gone
            rw [a6, b5]
            simp
theorem allows_least {k : Kind} {x : Tw} (h : allowsB k x = true) : 0 ≤ x.kids := by
  unfold allowsB at h
  simp only [Bool.and_eq_true, decide_eq_true_eq] at h
  omega
theorem pass_forest (ts : List Tw) : ∀ (fuel lies : Nat) (s s' : PSt), passF fuel ts lies s = (true, s') → s.gone < ts.length → s'.gone ≤ ts.length ∧ ∃ x K, (Fs.cons x K .nil).ok ∧ x = twAt ts s.gone ∧ ts.drop s.gone = x :: (K.flat ++ ts.drop s'.gone)
  | 0, _, s, s', h, _ => by cases h
  | fuel + 1, lies, s, s', h, hl => by
    unfold passF at h
    split at h
    · cases h
    · rename_i k hk
      split at h
      · cases h
      · rename_i ha
        have ha' : allowsB k (twAt ts s.gone) = true := by
          cases hc : allowsB k (twAt ts s.gone) with
          | true => rfl
          | false => exact absurd hc ha
        obtain ⟨b1, F, b2, b3, b4, b5⟩ := kids_forest ts k (twAt ts s.gone).kids _ (fun t t' ht htl => pass_forest ts fuel (lies + 1) t t' ht htl) _ 0 (nextS s lies) s' h hl
        refine ⟨b1, twAt ts s.gone, F, ⟨⟨k, hk, ha', b4⟩, ?_, b3, trivial⟩, rfl, ?_⟩
        · rw [b2]
          have := allows_least ha'
          omega
        · rw [drop_at hl]
          congr 1
/-- A list of twigs that tree.Check finds right is one right tree. -/
theorem right_forest {ts : List Tw} (h : (lookF ts).2.2 = 0) : ∃ x K, (Fs.cons x K .nil).ok ∧ ts = x :: K.flat ∧ ts.length ≤ 2048 := by
  unfold lookF at h
  split at h
  · cases h
  · split at h
    · cases h
    · split at h
      · cases h
      · rename_i h1 h0 h2
        rcases hq : passF ts.length ts 1 ⟨0, 0, 0⟩ with ⟨b, s'⟩
        rw [hq] at h2
        have hb : b = true := by
          cases b
          · exact absurd (.inl rfl) h2
          · rfl
        subst hb
        obtain ⟨a1, x, K, a2, _, a3⟩ := pass_forest ts _ _ _ _ hq (by show 0 < ts.length; omega)
        have hg : s'.gone = ts.length := by
          have : ¬ s'.gone < ts.length := fun h => h2 (.inr h)
          omega
        refine ⟨x, K, a2, ?_, by omega⟩
        have e : ts.drop 0 = x :: (K.flat ++ ts.drop s'.gone) := a3
        rw [hg, List.drop_length, List.append_nil, List.drop_zero] at e
        exact e
end Go.Proofs.YtefijbpbenmbgaaDoor
