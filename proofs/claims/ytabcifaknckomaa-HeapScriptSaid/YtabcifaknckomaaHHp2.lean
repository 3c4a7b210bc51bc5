/- A heap as its things: the contracts of Remove, Change in these words. -/
import Derived.Test.YtabcifaknckomaaHHp
namespace Go.Proofs.Ytabcifaknckomaa.HI
open Go.RowKit

section
variable {F : Nat → Prop} {w : World} {b p : Nat} {L : List T}
theorem nodup_of_at {d : List T} {f : Int → Option Nat} (h : Pl T.num f d) : (d.map T.num).Nodup := by
  rw [List.nodup_iff_pairwise_ne, List.pairwise_iff_getElem]
  intro i j hi hj hij e
  simp only [List.length_map] at hi hj
  simp only [List.getElem_map] at e
  rw [← at_eq d i hi, ← at_eq d j hj] at e
  have := h.inj hi hj e
  omega
theorem Hp.nodup (h : Hp F w b L p) : (L.map T.num).Nodup := by
  obtain ⟨bm, sv, d, h1, _, h3, _⟩ := h
  obtain ⟨f, _, hpl⟩ := h1.map
  exact (h3.map T.num).nodup_iff.1 (nodup_of_at hpl)

theorem hp_remove_none (h : Hp F w b L p) {x : Int} (hx : I64 x) (hn : ∀ y ∈ L, y.num ≠ x) :
    Calls Try.prog 13 #[.pointer (some ⟨b, 0, none⟩), .int .i64 x] w fun e w' => e = .returned (.tuple #[.int .i64 0, .bool false]) ∧ w = w' := by
  obtain ⟨bm, sv, d, h1, h2, h3, h4⟩ := h
  exact remove_none h1 hx (fun j hj => hn _ (h3.mem_iff.1 (at_mem d j hj)))
theorem hp_remove_some (h : Hp F w b L p) {y : T} (hy : y ∈ L) :
    Calls Try.prog 13 #[.pointer (some ⟨b, 0, none⟩), .int .i64 y.num] w fun e w' => ∃ L', e = .returned (.tuple #[.int .i64 y.v, .bool true]) ∧ (y :: L').Perm L ∧ Hp F w' b L' p ∧ Only F w w' := by
  obtain ⟨bm, sv, d, h1, h2, h3, h4⟩ := h
  obtain ⟨i, hi, hiy⟩ := mem_at (h3.mem_iff.2 hy)
  refine (remove_some h1 h2 (hiy ▸ h1.i64n i hi) hi (by rw [hiy])).mono fun e w' ⟨he, d', sv', g1, g2, g3, g4, g5⟩ => ⟨d', ?_, ?_, ⟨bm, sv', d', g1, g3, List.Perm.refl _, fun k hk => ?_⟩, g5.mono (fun k _ hk => h4 k hk)⟩
  · rw [he, hiy]
  · rw [hiy] at g2; exact g2.trans h3
  · rcases hk with e | e | e
    · exact h4 k (.inl e)
    · exact h4 k (.inr (.inl e))
    · exact h4 k (.inr (.inr (by rw [← g4]; exact e)))
theorem hp_change_none (h : Hp F w b L p) {x : Int} (key : Int) (hx : I64 x) (hn : ∀ y ∈ L, y.num ≠ x) :
    Calls Try.prog 15 #[.pointer (some ⟨b, 0, none⟩), .int .i64 x, .int .i64 key] w fun e w' => e = .returned (.bool false) ∧ w = w' := by
  obtain ⟨bm, sv, d, h1, h2, h3, h4⟩ := h
  exact change_none h1 key hx (fun j hj => hn _ (h3.mem_iff.1 (at_mem d j hj)))

/-- Each thing with that number gets that key. -/
def rekeyL (L : List T) (x key : Int) : List T := L.map fun y => if y.num = x then ⟨key, y.num, y.v⟩ else y
theorem rekey_is {d : List T} {f : Int → Option Nat} (hpl : Pl T.num f d) {i : Nat} (hi : i < d.length) (key : Int) : rekey d i key = rekeyL d (at_ d i).num key := by
  apply ext_at (by unfold rekey rekeyL; simp)
  intro j hj
  have hj' : j < d.length := by unfold rekey at hj; simpa using hj
  have e1 : at_ (rekeyL d (at_ d i).num key) j = (fun y : T => if y.num = (at_ d i).num then ⟨key, y.num, y.v⟩ else y) (at_ d j) := by
    rw [at_eq _ _ (by unfold rekeyL; simpa using hj'), at_eq d j hj']
    unfold rekeyL
    rw [List.getElem_map]
  rw [e1]
  unfold rekey
  rw [at_set _ _ _ _ hi]
  by_cases e : j = i
  · subst e; simp
  · rw [if_neg e]
    have : ¬ (at_ d j).num = (at_ d i).num := fun e2 => e (hpl.inj hj' hi e2)
    simp [this]
theorem hp_change_some (h : Hp F w b L p) {y : T} (hy : y ∈ L) (key : Int) :
    Calls Try.prog 15 #[.pointer (some ⟨b, 0, none⟩), .int .i64 y.num, .int .i64 key] w fun e w' => e = .returned (.bool true) ∧ Hp F w' b (rekeyL L y.num key) p ∧ Only F w w' := by
  obtain ⟨bm, sv, d, h1, h2, h3, h4⟩ := h
  obtain ⟨i, hi, hiy⟩ := mem_at (h3.mem_iff.2 hy)
  refine (change_some h1 h2 key (hiy ▸ h1.i64n i hi) hi (by rw [hiy])).mono fun e w' ⟨he, d', g1, g2, g3, g5⟩ => ⟨he, ⟨bm, sv, d', g1, g3, ?_, h4⟩, g5.mono (fun k _ hk => h4 k hk)⟩
  obtain ⟨f, _, hpl⟩ := h1.map
  rw [rekey_is hpl hi key, hiy] at g2
  exact g2.trans (h3.map _)
end
end Go.Proofs.Ytabcifaknckomaa.HI
