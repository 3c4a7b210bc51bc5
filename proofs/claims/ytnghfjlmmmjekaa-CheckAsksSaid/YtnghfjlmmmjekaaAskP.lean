/- Plain: names put in order, each once: by sort and compact, and one by one (layer 11). No condition. -/
import Derived.Lib.SlicesCompact
namespace Go.Proofs.Ytnghfjlmmmjekaa
open Go.Lib

/-- A name put into a rising row. -/
def insU (s : List UInt8) : List (List UInt8) → List (List UInt8)
  | [] => [s]
  | x :: r => if x < s then x :: insU s r else if x = s then x :: r else s :: x :: r
def insAll (ns out : List (List UInt8)) : List (List UInt8) := ns.foldl (fun o s => insU s o) out
def risF (ns : List (List UInt8)) : List (List UInt8) := Lib.compact (ns.mergeSort fun x y => decide (x ≤ y))
theorem ins_mem (s t : List UInt8) : ∀ l, t ∈ insU s l ↔ t = s ∨ t ∈ l
  | [] => by unfold insU; simp
  | x :: r => by
    unfold insU
    split
    · rw [List.mem_cons, ins_mem s t r, List.mem_cons]
      constructor
      · rintro (h | h | h)
        · exact .inr (.inl h)
        · exact .inl h
        · exact .inr (.inr h)
      · rintro (h | h | h)
        · exact .inr (.inl h)
        · exact .inl h
        · exact .inr (.inr h)
    · split
      · rename_i h
        subst h
        constructor
        · exact .inr
        · rintro (h | h)
          · rw [h]; exact List.mem_cons_self ..
          · exact h
      · exact List.mem_cons
/-- Rising, each once. -/
def RisesU (l : List (List UInt8)) : Prop := l.Pairwise (fun x y => x < y)
theorem ins_rises (s : List UInt8) : ∀ l, RisesU l → RisesU (insU s l)
  | [], _ => by unfold insU; exact List.pairwise_singleton _ _
  | x :: r, h => by
    have ⟨h1, h2⟩ := List.pairwise_cons.1 h
    unfold insU
    split
    · rename_i hx
      refine List.pairwise_cons.2 ⟨fun y hy => ?_, ins_rises s r h2⟩
      rcases (ins_mem s y r).1 hy with rfl | hy
      · exact hx
      · exact h1 y hy
    · split
      · exact h
      · rename_i hx hne
        have hs : s < x := by
          have h3 : s ≤ x := List.not_lt.1 hx
          rcases List.le_iff_lt_or_eq.1 h3 with h | h
          · exact h
          · exact absurd h.symm hne
        refine List.pairwise_cons.2 ⟨fun y hy => ?_, h⟩
        rcases List.mem_cons.1 hy with rfl | hy
        · exact hs
        · exact List.lt_trans hs (h1 y hy)
theorem all_mem (t : List UInt8) : ∀ (ns out : List (List UInt8)), t ∈ insAll ns out ↔ t ∈ ns ∨ t ∈ out
  | [], out => by unfold insAll; simp
  | s :: r, out => by
    have ih := all_mem t r (insU s out)
    unfold insAll at ih ⊢
    rw [List.foldl_cons, ih, ins_mem, List.mem_cons]
    constructor
    · rintro (h | h | h)
      · exact .inl (.inr h)
      · exact .inl (.inl h)
      · exact .inr h
    · rintro ((h | h) | h)
      · exact .inr (.inl h)
      · exact .inl h
      · exact .inr (.inr h)
theorem all_rises : ∀ (ns out : List (List UInt8)), RisesU out → RisesU (insAll ns out)
  | [], _, h => h
  | s :: r, out, h => by
    unfold insAll
    rw [List.foldl_cons]
    exact all_rises r (insU s out) (ins_rises s out h)
/-- Two rising rows of the same names are the same. -/
theorem rises_same : ∀ (l m : List (List UInt8)), RisesU l → RisesU m → (∀ t, t ∈ l ↔ t ∈ m) → l = m
  | [], [], _, _, _ => rfl
  | [], y :: m, _, _, h => by have := (h y).2 (List.mem_cons_self ..); cases this
  | x :: l, [], _, _, h => by have := (h x).1 (List.mem_cons_self ..); cases this
  | x :: l, y :: m, hl, hm, h => by
    have ⟨l1, l2⟩ := List.pairwise_cons.1 hl
    have ⟨m1, m2⟩ := List.pairwise_cons.1 hm
    have hxy : x = y := by
      rcases List.mem_cons.1 ((h x).1 (List.mem_cons_self ..)) with e | e
      · exact e
      · rcases List.mem_cons.1 ((h y).2 (List.mem_cons_self ..)) with f | f
        · exact f.symm
        · exact absurd (List.lt_trans (m1 x e) (l1 y f)) (List.lt_irrefl _)
    subst hxy
    congr 1
    refine rises_same l m l2 m2 (fun t => ?_)
    have ht := h t
    rw [List.mem_cons, List.mem_cons] at ht
    constructor
    · intro e
      rcases ht.1 (.inr e) with rfl | e2
      · exact absurd (l1 t e) (List.lt_irrefl _)
      · exact e2
    · intro e
      rcases ht.2 (.inr e) with rfl | e2
      · exact absurd (m1 t e) (List.lt_irrefl _)
      · exact e2
/-- What stands up to a place, each once: of rows that do not fall. -/
theorem compact_rises {d : Array (List UInt8)} (hd : ∀ i j, i < j → j < d.size → d[i]! ≤ d[j]!) : ∀ m, m ≤ d.size → RisesU (compactUpTo d m) ∧ (∀ t, t ∈ compactUpTo d m ↔ ∃ j, j < m ∧ d[j]! = t)
  | 0, _ => ⟨List.Pairwise.nil, fun t => by simp [compactUpTo]⟩
  | m + 1, hm => by
    obtain ⟨h1, h2⟩ := compact_rises hd m (by omega)
    rw [compactUpTo_succ]
    cases hk : keeps d m with
    | false =>
      rw [if_neg (by decide), List.append_nil]
      refine ⟨h1, fun t => (h2 t).trans ⟨fun ⟨j, a, b⟩ => ⟨j, by omega, b⟩, ?_⟩⟩
      rintro ⟨j, a, b⟩
      rcases Nat.lt_or_ge j m with h | h
      · exact ⟨j, h, b⟩
      · obtain rfl : j = m := by omega
        have hk2 := hk
        unfold keeps at hk2
        simp only [decide_eq_false_iff_not, not_or] at hk2
        have e : d[j]! = d[j - 1]! := Classical.not_not.1 hk2.2
        exact ⟨j - 1, by omega, by rw [← e]; exact b⟩
    | true =>
      rw [if_pos rfl]
      constructor
      · refine List.pairwise_append.2 ⟨h1, List.pairwise_singleton _ _, fun a ha b hb => ?_⟩
        obtain ⟨j, hj, rfl⟩ := (h2 a).1 ha
        obtain rfl := List.mem_singleton.1 hb
        have h0 : m ≠ 0 := by omega
        unfold keeps at hk
        simp only [decide_eq_true_eq] at hk
        have hne : d[m]! ≠ d[m - 1]! := hk.resolve_left h0
        have hle := hd (m - 1) m (by omega) (by omega)
        have hlt : d[m - 1]! < d[m]! := by
          rcases List.le_iff_lt_or_eq.1 hle with h | h
          · exact h
          · exact absurd h.symm hne
        rcases Nat.lt_or_ge j (m - 1) with h | h
        · rcases List.le_iff_lt_or_eq.1 (hd j (m - 1) h (by omega)) with h3 | h3
          · exact List.lt_trans h3 hlt
          · rw [h3]; exact hlt
        · obtain rfl : j = m - 1 := by omega
          exact hlt
      · intro t
        rw [List.mem_append, h2, List.mem_singleton]
        constructor
        · rintro (⟨j, a, b⟩ | rfl)
          · exact ⟨j, by omega, b⟩
          · exact ⟨m, by omega, rfl⟩
        · rintro ⟨j, a, b⟩
          rcases Nat.lt_or_ge j m with h | h
          · exact .inl ⟨j, h, b⟩
          · obtain rfl : j = m := by omega
            exact .inr b.symm
theorem ris_is (ns : List (List UInt8)) : risF ns = insAll ns [] := by
  have hs : (ns.mergeSort fun x y => decide (x ≤ y)).Pairwise (fun x y => decide (x ≤ y) = true) :=
    List.pairwise_mergeSort (fun a b c h1 h2 => by simp only [decide_eq_true_eq] at *; exact List.le_trans h1 h2) (fun a b => by simp only [Bool.or_eq_true, decide_eq_true_eq]; exact List.le_total a b) ns
  have hd : ∀ i j, i < j → j < (ns.mergeSort fun x y => decide (x ≤ y)).toArray.size → (ns.mergeSort fun x y => decide (x ≤ y)).toArray[i]! ≤ (ns.mergeSort fun x y => decide (x ≤ y)).toArray[j]! := by
    intro i j hij hj
    rw [List.size_toArray] at hj
    have h := List.pairwise_iff_getElem.1 hs i j (by omega) hj hij
    simp only [decide_eq_true_eq] at h
    rw [getElem!_pos _ i (by rw [List.size_toArray]; omega), getElem!_pos _ j (by rw [List.size_toArray]; omega), List.getElem_toArray, List.getElem_toArray]
    exact h
  obtain ⟨h1, h2⟩ := compact_rises hd _ (Nat.le_refl _)
  unfold risF Lib.compact
  rw [List.size_toArray] at h1 h2
  refine rises_same _ _ h1 (all_rises ns [] List.Pairwise.nil) (fun t => ?_)
  rw [h2, all_mem]
  constructor
  · rintro ⟨j, a, b⟩
    refine .inl ?_
    rw [getElem!_pos _ j (by rw [List.size_toArray]; exact a), List.getElem_toArray] at b
    rw [← List.mem_mergeSort (le := fun x y => decide (x ≤ y))]
    rw [← b]
    exact List.getElem_mem _
  · rintro (h | h)
    · rw [← List.mem_mergeSort (le := fun x y => decide (x ≤ y))] at h
      obtain ⟨j, hj, e⟩ := List.mem_iff_getElem.1 h
      exact ⟨j, hj, by rw [getElem!_pos _ j (by rw [List.size_toArray]; exact hj), List.getElem_toArray]; exact e⟩
    · cases h
end Go.Proofs.Ytnghfjlmmmjekaa
