/- What HeapTakes does to the things of a heap: plain facts on lists. -/
import Derived.Test.YtabcifaknckomaaHFill
namespace Go.Proofs.Ytabcifaknckomaa
open Go.RowKit HI

/-- Things of these keys, but for those whose number is in C; those that are told in tb are gone. -/
structure Tk (zs : List Int) (C : Int → Prop) (tb : List Bool) (L : List T) : Prop where
  len : tb.length = zs.length
  rng : ∀ x ∈ L, x.v = x.num ∧ 0 ≤ x.num ∧ x.num < zs.length
  there : ∀ j : Nat, j < zs.length → ((∃ x ∈ L, x.num = j) ↔ tb.getD j false = false)
  key : ∀ x ∈ L, ¬ C x.num → x.key = zs.getD x.num.toNat 0

theorem mem_fillL {zs : List Int} {k : Nat} {x : T} : x ∈ fillL zs k ↔ ∃ i, i < k ∧ x = ⟨zs.getD i 0, i, i⟩ := by
  unfold fillL
  rw [List.mem_map]
  constructor
  · rintro ⟨i, hi, rfl⟩; exact ⟨i, List.mem_range.1 hi, rfl⟩
  · rintro ⟨i, hi, rfl⟩; exact ⟨i, List.mem_range.2 hi, rfl⟩
theorem fillL_length (zs : List Int) (k : Nat) : (fillL zs k).length = k := by unfold fillL; simp

theorem Tk.start (zs : List Int) : Tk zs (fun _ => False) (List.replicate zs.length false) (fillL zs zs.length) := by
  refine ⟨by simp, fun x hx => ?_, fun j hj => ⟨fun _ => by simp [List.getD, hj], fun _ => ⟨_, mem_fillL.2 ⟨j, hj, rfl⟩, rfl⟩⟩, fun x hx _ => ?_⟩
  · obtain ⟨i, hi, rfl⟩ := mem_fillL.1 hx
    exact ⟨rfl, by show (0 : Int) ≤ i; omega, by show (i : Int) < _; omega⟩
  · obtain ⟨i, hi, rfl⟩ := mem_fillL.1 hx
    show zs.getD i 0 = zs.getD ((i : Int).toNat) 0
    rw [Int.toNat_natCast]
theorem Tk.more {zs : List Int} {C D : Int → Prop} {tb : List Bool} {L : List T} (h : Tk zs C tb L) (hD : ∀ j, C j → D j) : Tk zs D tb L :=
  ⟨h.len, h.rng, h.there, fun x hx hn => h.key x hx (fun e => hn (hD _ e))⟩
theorem Tk.perm {zs : List Int} {C : Int → Prop} {tb : List Bool} {L L' : List T} (h : Tk zs C tb L) (hp : L.Perm L') : Tk zs C tb L' :=
  ⟨h.len, fun x hx => h.rng x (hp.mem_iff.2 hx), fun j hj => by rw [← h.there j hj]; exact ⟨fun ⟨x, hx, e⟩ => ⟨x, hp.mem_iff.2 hx, e⟩, fun ⟨x, hx, e⟩ => ⟨x, hp.mem_iff.1 hx, e⟩⟩, fun x hx => h.key x (hp.mem_iff.2 hx)⟩
theorem mem_rekeyL {L : List T} {n key : Int} {x : T} (hx : x ∈ rekeyL L n key) : ∃ y ∈ L, x.num = y.num ∧ x.v = y.v ∧ (x.num ≠ n → x = y) := by
  unfold rekeyL at hx
  obtain ⟨y, hy, rfl⟩ := List.mem_map.1 hx
  refine ⟨y, hy, ?_⟩
  by_cases e : y.num = n
  · rw [if_pos e]; exact ⟨rfl, rfl, fun h => absurd e h⟩
  · rw [if_neg e]; exact ⟨rfl, rfl, fun _ => rfl⟩
theorem rekeyL_mem {L : List T} {n key : Int} {y : T} (hy : y ∈ L) : ∃ x ∈ rekeyL L n key, x.num = y.num := by
  refine ⟨_, List.mem_map.2 ⟨y, hy, rfl⟩, ?_⟩
  split <;> rfl
theorem Tk.change {zs : List Int} {C : Int → Prop} {tb : List Bool} {L : List T} (h : Tk zs C tb L) (n key : Int) : Tk zs (fun j => C j ∨ j = n) tb (rekeyL L n key) := by
  refine ⟨h.len, fun x hx => ?_, fun j hj => ?_, fun x hx hn => ?_⟩
  · obtain ⟨y, hy, e1, e2, _⟩ := mem_rekeyL hx
    rw [e1, e2]; exact h.rng y hy
  · rw [← h.there j hj]
    constructor
    · rintro ⟨x, hx, e⟩
      obtain ⟨y, hy, e1, _⟩ := mem_rekeyL hx
      exact ⟨y, hy, by rw [← e1]; exact e⟩
    · rintro ⟨y, hy, e⟩
      obtain ⟨x, hx, e1⟩ := rekeyL_mem (n := n) (key := key) hy
      exact ⟨x, hx, by rw [e1]; exact e⟩
  · obtain ⟨y, hy, e1, e2, e3⟩ := mem_rekeyL hx
    have := e3 (fun e => hn (.inr e))
    subst this
    exact h.key x hy (fun e => hn (.inl e))
theorem Tk.remove {zs : List Int} {C : Int → Prop} {tb : List Bool} {L L' : List T} (h : Tk zs C tb L) (hn : (L.map T.num).Nodup) {y : T} {j : Nat} (hp : (y :: L').Perm L) (hj : y.num = j) (hjl : j < zs.length) : Tk zs C (tb.set j true) L' := by
  have hsub : ∀ x ∈ L', x ∈ L := fun x hx => hp.mem_iff.1 (List.mem_cons_of_mem _ hx)
  have hnd : ((y :: L').map T.num).Nodup := (hp.map T.num).nodup_iff.2 hn
  rw [List.map_cons, List.nodup_cons] at hnd
  refine ⟨by simp [h.len], fun x hx => h.rng x (hsub x hx), fun i hi => ?_, fun x hx => h.key x (hsub x hx)⟩
  have hgl : (tb.set j true).getD i false = if i = j then true else tb.getD i false := by
    simp only [List.getD, List.getElem?_set]
    by_cases e : j = i
    · subst e; simp [h.len, hi]
    · rw [if_neg e, if_neg (fun e2 => e e2.symm)]
  rw [hgl]
  by_cases e : i = j
  · rw [if_pos e]
    constructor
    · rintro ⟨x, hx, e1⟩
      exact absurd (List.mem_map.2 ⟨x, hx, by rw [e1, hj, e]⟩) hnd.1
    · intro e2; simp at e2
  · rw [if_neg e, ← h.there i hi]
    constructor
    · rintro ⟨x, hx, e1⟩; exact ⟨x, hsub x hx, e1⟩
    · rintro ⟨x, hx, e1⟩
      rcases List.mem_cons.1 (hp.mem_iff.2 hx) with e2 | e2
      · subst e2; exact absurd (by rw [hj] at e1; omega) e
      · exact ⟨x, e2, e1⟩

/-- How many things a heap has, off its memory: for a loop's measure. -/
def hpLen (w : World) (b : Nat) : Nat := match w.cell? ⟨b, 0, none⟩ with | some (.slice _ n _) => n | _ => 0
theorem hpLen_is {F : Nat → Prop} {w : World} {b p : Nat} {L : List T} (h : Hp F w b L p) : hpLen w b = L.length := by
  obtain ⟨bm, sv, d, h1, _, h3, _⟩ := h
  obtain ⟨a, cap, rfl, _⟩ := ownsRow_shape h1.row
  unfold hpLen
  rw [h1.c0]
  exact h3.length_eq

theorem fillL_key {zs : List Int} {k : Nat} (hz : ∀ z ∈ zs, I64 z) (hk : k ≤ zs.length) : ∀ x ∈ fillL zs k, I64 x.key := by
  intro x hx
  obtain ⟨i, hi, rfl⟩ := mem_fillL.1 hx
  exact hz _ (by rw [List.getD, List.getElem?_eq_getElem (by omega)]; exact List.getElem_mem _)
theorem rekeyL_key {L : List T} {n key : Int} (h : ∀ x ∈ L, I64 x.key) (hk : I64 key) : ∀ x ∈ rekeyL L n key, I64 x.key := by
  intro x hx
  unfold rekeyL at hx
  obtain ⟨y, hy, rfl⟩ := List.mem_map.1 hx
  split
  · exact hk
  · exact h y hy
theorem getD_I64 {zs : List Int} (hz : ∀ z ∈ zs, I64 z) (k : Nat) : I64 (zs.getD k 0) := by
  by_cases h : k < zs.length
  · exact hz _ (by rw [List.getD, List.getElem?_eq_getElem h]; exact List.getElem_mem _)
  · rw [List.getD, List.getElem?_eq_none (by omega)]; exact ⟨by decide, by decide⟩

/-! ### a row of bools -/
theorem bools_cell {w : World} {base : Nat} {e : TypeId} {g n cap : Nat} {tb : List Bool} (h : w.ownsRow base e 1 (.slice (some ⟨g, 0, none⟩) n cap) n (tb.map Value.bool)) {j : Nat} (hj : j < n) (hl : tb.length = n) : w.cell? ⟨g, j, none⟩ = some (.bool (tb.getD j false)) := by
  rw [h.cellAt j (by omega), List.getElem?_map, List.getD, List.getElem?_eq_getElem (by omega)]
  rfl
theorem bools_set {w : World} {base : Nat} {e : TypeId} {g n cap : Nat} {tb : List Bool} (h : w.ownsRow base e 1 (.slice (some ⟨g, 0, none⟩) n cap) n (tb.map Value.bool)) (j : Nat) (b : Bool) : (w.setCell ⟨g, j, none⟩ (.bool b)).ownsRow base e 1 (.slice (some ⟨g, 0, none⟩) n cap) n ((tb.set j b).map Value.bool) := by
  have := (h.stored j (.bool b)).1
  rw [List.map_set]
  exact this
theorem set_getD {tb : List Bool} {j i : Nat} (hj : j < tb.length) : (tb.set j true).getD i false = if i = j then true else tb.getD i false := by
  simp only [List.getD, List.getElem?_set]
  by_cases e : j = i
  · subst e; simp [hj]
  · rw [if_neg e, if_neg (fun e2 => e e2.symm)]
end Go.Proofs.Ytabcifaknckomaa
