/- Keys and All in the words of a heap's things; there is one order. -/
import Derived.Test.YtabcifaknckomaaHKeys
import Derived.Test.YtabcifaknckomaaHTakesP
namespace Go.Proofs.Ytabcifaknckomaa.HI
open Go.RowKit

section
variable {F : Nat → Prop} {w : World} {b p : Nat} {L : List T}
theorem hp_keys (h : Hp F w b L p) :
    Calls Try.prog 22 #[.pointer (some ⟨b, 0, none⟩)] w fun e w' => ∃ (S : List T), e = .returned (.slice (some ⟨w.heap.size, 0, none⟩) L.length L.length) ∧ S.Perm L ∧ InOrder S ∧ w'.ownsRow w.heap.size 2 1 (.slice (some ⟨w.heap.size, 0, none⟩) L.length L.length) L.length (S.map fun x => .int .i64 x.key) ∧ Below w.heap.size w w' := by
  obtain ⟨bm, sv, d, h1, h2, h3, h4⟩ := h
  refine (keys_any h1).mono fun e w' ⟨S, he, g1, g2, g3, g4⟩ => ⟨S, ?_, g1.trans h3, g2, ?_, g4⟩
  · rw [he, h3.length_eq]
  · rw [← h3.length_eq]; exact g3
theorem hp_all (h : Hp F w b L p) :
    Calls Try.prog 23 #[.pointer (some ⟨b, 0, none⟩)] w fun e w' => ∃ (S : List T), e = .returned (.slice (some ⟨w.heap.size, 0, none⟩) L.length L.length) ∧ S.Perm L ∧ InOrder S ∧ w'.ownsRow w.heap.size 3 1 (.slice (some ⟨w.heap.size, 0, none⟩) L.length L.length) L.length (S.map fun x => .int .i64 x.v) ∧ Below w.heap.size w w' := by
  obtain ⟨bm, sv, d, h1, h2, h3, h4⟩ := h
  refine (all_any h1).mono fun e w' ⟨S, he, g1, g2, g3, g4⟩ => ⟨S, ?_, g1.trans h3, g2, ?_, g4⟩
  · rw [he, h3.length_eq]
  · rw [← h3.length_eq]; exact g3
end

/-- Unlike numbers. -/
def Unlike (L : List T) : Prop := ∀ x ∈ L, ∀ y ∈ L, x.num = y.num → x = y
theorem le_both {x y : T} (h : le_ T.key T.num x y) (g : le_ T.key T.num y x) : x.num = y.num := by
  unfold le_ lt_ lexLt at *; omega
theorem order_unique : ∀ {S R : List T}, S.Perm R → InOrder S → InOrder R → Unlike S → S = R
  | [], R, hp, _, _, _ => (List.nil_perm.1 hp).symm
  | x :: r, [], hp, _, _, _ => by have := hp.length_eq; simp at this
  | x :: r, y :: s, hp, h1, h2, hu => by
    obtain ⟨a1, a2⟩ := List.pairwise_cons.1 h1
    obtain ⟨b1, b2⟩ := List.pairwise_cons.1 h2
    have hxy : le_ T.key T.num x y := by
      rcases List.mem_cons.1 (hp.mem_iff.2 (List.mem_cons_self (a := y) (l := s))) with e | e
      · rw [e]; exact le_refl_ _
      · exact a1 y e
    have hyx : le_ T.key T.num y x := by
      rcases List.mem_cons.1 (hp.mem_iff.1 (List.mem_cons_self (a := x) (l := r))) with e | e
      · rw [e]; exact le_refl_ _
      · exact b1 x e
    have e : x = y := hu x List.mem_cons_self y (hp.mem_iff.2 List.mem_cons_self) (le_both hxy hyx)
    subst e
    rw [order_unique (List.Perm.cons_inv hp) a2 b2 (fun u hu' v hv => hu u (List.mem_cons_of_mem _ hu') v (List.mem_cons_of_mem _ hv))]
/-- The first of what is left is the next in order. -/
theorem first_next {S L : List T} {k : Nat} {x : T} (hp : L.Perm (S.drop k)) (hk : k < S.length) (hS : InOrder S) (hu : Unlike S) (hx : IsFirst x L) : x = at_ S k := by
  have hd : S.drop k = at_ S k :: S.drop (k + 1) := by rw [at_eq S k hk, List.drop_eq_getElem_cons hk]
  have hSd : InOrder (S.drop k) := hS.sublist (List.drop_sublist k S)
  rw [hd] at hp hSd
  obtain ⟨a1, _⟩ := List.pairwise_cons.1 hSd
  have hxm : x ∈ at_ S k :: S.drop (k + 1) := hp.mem_iff.1 hx.1
  have h1 : le_ T.key T.num (at_ S k) x := by
    rcases List.mem_cons.1 hxm with e | e
    · rw [e]; exact le_refl_ _
    · exact a1 x e
  have h2 : le_ T.key T.num x (at_ S k) := hx.2 _ (hp.mem_iff.2 List.mem_cons_self)
  refine hu x ?_ _ (at_mem S k hk) (le_both h2 h1)
  rcases List.mem_cons.1 hxm with e | e
  · rw [e]; exact at_mem S k hk
  · exact List.mem_of_mem_drop e
theorem rest_next {S L L' : List T} {k : Nat} {x : T} (hp : L.Perm (S.drop k)) (hk : k < S.length) (hx : x = at_ S k) (hp' : (x :: L').Perm L) : L'.Perm (S.drop (k + 1)) := by
  have hd : S.drop k = at_ S k :: S.drop (k + 1) := by rw [at_eq S k hk, List.drop_eq_getElem_cons hk]
  have := hp'.trans hp
  rw [hd, hx] at this
  exact List.Perm.cons_inv this
/-- Neighbours in order. -/
theorem order_at {S : List T} (hS : InOrder S) {i j : Nat} (hij : i < j) (hj : j < S.length) : le_ T.key T.num (at_ S i) (at_ S j) := by
  rw [at_eq S i (by omega), at_eq S j hj]
  exact (List.pairwise_iff_getElem.1 hS) i j (by omega) hj hij
theorem nums_at {S : List T} (hn : (S.map T.num).Nodup) {i j : Nat} (hi : i < S.length) (hj : j < S.length) (e : (at_ S i).num = (at_ S j).num) : i = j := by
  rw [List.nodup_iff_pairwise_ne, List.pairwise_iff_getElem] at hn
  rw [at_eq S i hi, at_eq S j hj] at e
  rcases Nat.lt_trichotomy i j with h | h | h
  · exact absurd (by rw [List.getElem_map, List.getElem_map]; exact e) (hn i j (by simpa using hi) (by simpa using hj) h)
  · exact h
  · exact absurd (by rw [List.getElem_map, List.getElem_map]; exact e.symm) (hn j i (by simpa using hj) (by simpa using hi) h)
/-- A row of numbers told of things. -/
theorem told_cell {w : World} {base : Nat} {e : TypeId} {g n cap : Nat} {S : List T} {f : T → Int} (h : w.ownsRow base e 1 (.slice (some ⟨g, 0, none⟩) n cap) n (S.map fun x => .int .i64 (f x))) {j : Nat} (hj : j < n) (hl : S.length = n) : w.cell? ⟨g, j, none⟩ = some (.int .i64 (f (at_ S j))) := by
  rw [h.cellAt j (by omega), List.getElem?_map, List.getElem?_eq_getElem (by omega), at_eq S j (by omega)]
  rfl
end Go.Proofs.Ytabcifaknckomaa.HI
