/- Plain: what check's slots say of a flow (layer 15, for compile). No condition. -/
import Derived.Test.YtefijbpbenmbgaaDoorGenP
import Derived.Test.YtefijbpbenmbgaaDoorCkB
import Derived.Test.YtefijbpbenmbgaaDoorCkU
namespace Go.Proofs.YtefijbpbenmbgaaDoor
open Go.RowKit Go.Shelf

theorem kids_deep (ts : List Tw) (k : Kind) (kids : Int) (f : PSt → Bool × PSt) (hf : ∀ s, s.gone < ts.length → s.tooDeep ≤ ts.length → (f s).2.gone ≤ ts.length ∧ (f s).2.tooDeep ≤ ts.length) :
    ∀ (n p : Nat) (s : PSt), s.gone ≤ ts.length → s.tooDeep ≤ ts.length → (kidsF f ts k kids n p s).2.gone ≤ ts.length ∧ (kidsF f ts k kids n p s).2.tooDeep ≤ ts.length
  | 0, _, s, h1, h2 => ⟨h1, h2⟩
  | n + 1, p, s, h1, h2 => by
    unfold kidsF
    split
    · exact ⟨h1, h2⟩
    · split
      · exact ⟨h1, h2⟩
      · have h3 := hf s (by omega) h2
        split
        · exact h3
        · exact kids_deep ts k kids f hf n (p + 1) (f s).2 h3.1 h3.2
theorem pass_deep (ts : List Tw) : ∀ (fuel lies : Nat) (s : PSt), s.gone < ts.length → s.tooDeep ≤ ts.length → (passF fuel ts lies s).2.gone ≤ ts.length ∧ (passF fuel ts lies s).2.tooDeep ≤ ts.length
  | 0, _, s, h1, h2 => ⟨Nat.le_of_lt h1, h2⟩
  | fuel + 1, lies, s, h1, h2 => by
    unfold passF
    split
    · exact ⟨Nat.le_of_lt h1, h2⟩
    · split
      · exact ⟨Nat.le_of_lt h1, h2⟩
      · refine kids_deep ts _ _ _ (fun s' a b => pass_deep ts fuel (lies + 1) s' a b) _ 0 (nextS s lies) h1 ?_
        unfold nextS
        dsimp only
        split <;> omega
theorem look_le (ts : List Tw) : (lookF ts).1 ≤ ts.length := by
  unfold lookF
  split
  · exact Nat.zero_le _
  · split
    · exact Nat.zero_le _
    · have h := pass_deep ts ts.length 1 ⟨0, 0, 0⟩ (by show 0 < _; omega) (Nat.zero_le _)
      split
      · exact h.1
      · split
        · exact h.2
        · exact Nat.zero_le _
theorem trees_le : ∀ (F : Fs) (st : CSt), (treesC F st).1.l.length ≤ st.l.length + F.flat.length
  | .nil, st => Nat.le_refl _
  | .cons x k r, st => by
    unfold treesC
    show _ ≤ st.l.length + (x :: (k.flat ++ r.flat)).length
    rw [List.length_cons, List.length_append]
    split
    · exact Nat.le_add_right _ _
    · have ih := trees_le k ⟨st.l ++ [(slotC st x).1], st.seen, (slotC st x).2.1⟩
      generalize treesC k ⟨st.l ++ [(slotC st x).1], st.seen, (slotC st x).2.1⟩ = R at *
      have e1 : (⟨st.l ++ [(slotC st x).1], st.seen, (slotC st x).2.1⟩ : CSt).l.length = st.l.length + 1 := by simp
      rw [e1] at ih
      split
      · omega
      · have h2 := trees_le r (endC x (slotC st x).1 st.seen.length R.1)
        have e : (endC x (slotC st x).1 st.seen.length R.1).l = R.1.l := by
          unfold endC
          split
          · rfl
          · split <;> rfl
        rw [e] at h2
        omega
/-- Wrong names: no slots, and a place within the list. -/
theorem slots_bad {ts : List Tw} {r : List Int × Int × Int} (h : SlotsIs ts r) (he : r.2.2 ≠ 0) : r.1 = [] ∧ ∃ k : Nat, r.2.1 = (k : Int) ∧ k ≤ ts.length := by
  rcases h with ⟨_, rfl⟩ | ⟨_, _, x, K, _, hx, rfl⟩
  · exact ⟨rfl, _, rfl, look_le ts⟩
  · unfold slotsF at he ⊢
    split
    · exact ⟨rfl, 0, rfl, Nat.zero_le _⟩
    · rename_i h1
      rw [if_neg h1] at he
      split
      · refine ⟨rfl, _, rfl, ?_⟩
        have := trees_le (.cons x K .nil) st0
        rw [tree_one] at this
        rw [hx]
        simpa [Fs.flat, st0] using this
      · rename_i h2
        rw [if_neg h2] at he
        exact absurd rfl he
/-- Right names: a slot for each twig, and what each one means. -/
theorem slots_good {ts : List Tw} {r : List Int × Int × Int} (h : SlotsIs ts r) (he : r.2.2 = 0) : r.2.1 = 0 ∧ ∃ st, r.1 = st.l ∧ BInv ts st := by
  rcases h with ⟨hb, rfl⟩ | ⟨_, _, x, K, _, hx, rfl⟩
  · exact absurd he hb
  · unfold slotsF at he ⊢
    split
    · rename_i h1
      rw [if_pos h1] at he
      cases he
    · rename_i h1
      rw [if_neg h1] at he
      split
      · rename_i h2
        rw [if_pos h2] at he
        exact absurd he h2
      · rename_i h2
        refine ⟨rfl, (treeC x K st0).1, rfl, ?_⟩
        have hb0 : BInv [] st0 := ⟨rfl, rfl, by decide, fun p hp => (by cases hp), fun i x s h => by simp at h⟩
        have := trees_bound (.cons x K .nil) [] st0 hb0 (by rw [tree_one]; omega)
        rw [tree_one] at this
        rw [hx]
        simpa [Fs.flat] using this
theorem fits_of : ∀ (ts : List Tw) (l : List Int), l.length = ts.length → (∀ (i : Nat) (x : Tw) (s : Int), ts[i]? = some x → l[i]? = some s → SlotFit x s) → SlotsFit ts l
  | [], [], _, _ => trivial
  | [], _ :: _, h, _ => by simp at h
  | _ :: _, [], h, _ => by simp at h
  | x :: r, s :: t, h, hp => ⟨hp 0 x s rfl rfl, fits_of r t (by simpa using h) (fun i y u h1 h2 => hp (i + 1) y u (by simpa using h1) (by simpa using h2))⟩
theorem names_le (l : List Tw) (i : Nat) : (namesL (l.take i)).length ≤ (namesL l).length := by
  have : namesL l = namesL (l.take i) ++ namesL (l.drop i) := by rw [← namesL_app, List.take_append_drop]
  rw [this, List.length_append]
  omega
/-- The slots of a flow whose names are right. -/
theorem slots_fit {ts : List Tw} {st : CSt} (h : BInv ts st) : SlotsFit ts st.l := by
  refine fits_of ts st.l h.len (fun i x s hx hs => ?_)
  have hb := h.bound i x s hx hs
  have hle := names_le ts i
  have hm := h.made
  have hfew := h.few
  unfold BoundAt at hb
  by_cases c : makesB x = true
  · rw [if_pos c] at hb
    obtain ⟨rfl, h2⟩ := hb
    exact ⟨by omega, by omega, fun _ => by omega⟩
  · rw [if_neg c] at hb
    by_cases d : usesB x = true
    · rw [if_pos d] at hb
      obtain ⟨k, rfl, hk⟩ := hb
      have : k < (namesL (ts.take i)).length := by
        rcases Nat.lt_or_ge k (namesL (ts.take i)).length with h | h
        · exact h
        · rw [List.getElem?_eq_none h] at hk; cases hk
      exact ⟨by omega, by omega, fun _ => by omega⟩
    · rw [if_neg d] at hb
      subst hb
      refine ⟨by omega, by omega, fun e => ?_⟩
      exfalso
      unfold makesB at c
      unfold usesB at d
      simp only [Bool.or_eq_true, beq_iff_eq] at c d
      omega
/-- A flow whose names are right is a tree whose first twig is a flow's. -/
theorem flow_tree {ts : List Tw} {r : List Int × Int × Int} (h : SlotsIs ts r) (he : r.2.2 = 0) : ts.length ≤ 2048 ∧ ∃ x K, (Fs.cons x K .nil).ok ∧ ts = x :: K.flat ∧ x.op = 1 := by
  rcases h with ⟨hb, rfl⟩ | ⟨_, hn, x, K, hok, hx, rfl⟩
  · exact absurd he hb
  · refine ⟨hn, x, K, hok, hx, ?_⟩
    unfold slotsF at he
    by_cases c : x.op = 1
    · exact c
    · rw [if_pos c] at he
      cases he
end Go.Proofs.YtefijbpbenmbgaaDoor
