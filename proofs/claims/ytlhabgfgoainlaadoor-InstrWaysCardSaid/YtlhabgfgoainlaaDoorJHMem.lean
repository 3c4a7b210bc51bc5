/- A heap of things in memory: what the blocks hold. -/
import Derived.Test.YtlhabgfgoainlaaDoorJHOrd
import Derived.Test.YtlhabgfgoainlaaDoorJHPlain
import Derived.Test.YtlhabgfgoainlaaDoorJMapF
import Derived.BigRegion
import Derived.BigQuiet
import Derived.Deep.QuietTactic
namespace Go.Proofs.YtlhabgfgoainlaaDoor.HI
open Go.RowKit

/-- A thing: its key, its number, its value. -/
structure T where
  key : Int
  num : Int
  v : Int
instance : Inhabited T := ⟨⟨0, 0, 0⟩⟩
/-- .. in memory. -/
def enc (x : T) : List Value := [.int .i64 x.key, .int .i64 x.num, .int .i64 x.v]
theorem enc_len (x : T) : (enc x).length = 3 := rfl

/-- The heap in block b: its things d, in a row that sv tells, its map in block bm; p were ever pushed. -/
structure HeapAt (w : World) (b bm : Nat) (sv : Value) (d : List T) (p : Nat) : Prop where
  st : w.heap[b]? = some (.cells #[sv, .map (some bm), .int .i64 p] 113 (0, 0))
  row : w.ownsRow 0 139 3 sv d.length (rowOf enc d)
  map : ∃ f, MapIs Tryd.prog 3 3 w bm f d.length ∧ Pl T.num f d
  num : ∀ i, i < d.length → 0 ≤ (at_ d i).num ∧ (at_ d i).num < p
  len : d.length ≤ p
  lim : p ≤ 1099511627776

/-- The blocks of a heap. -/
def Foot (b bm : Nat) (sv : Value) (k : Nat) : Prop := k = b ∨ k = bm ∨ sv.ownBlock = some k

section
variable {w : World} {b bm p : Nat} {sv : Value} {d : List T}
theorem HeapAt.c0 (h : HeapAt w b bm sv d p) : w.cell? ⟨b, 0, none⟩ = some sv := by simp [World.cell?, h.st]
theorem HeapAt.c1 (h : HeapAt w b bm sv d p) : w.cell? ⟨b, 1, none⟩ = some (.map (some bm)) := by simp [World.cell?, h.st]
theorem HeapAt.c2 (h : HeapAt w b bm sv d p) : w.cell? ⟨b, 2, none⟩ = some (.int .i64 p) := by simp [World.cell?, h.st]
theorem HeapAt.f (h : HeapAt w b bm sv d p) (j : Nat) : w.frozen? ⟨b, j, none⟩ = false := by simp [World.frozen?, h.st]
theorem HeapAt.lt (h : HeapAt w b bm sv d p) : b < w.heap.size := (Array.getElem?_eq_some_iff.1 h.st).1
theorem HeapAt.ltm (h : HeapAt w b bm sv d p) : bm < w.heap.size := by obtain ⟨f, h1, _⟩ := h.map; exact h1.lt
theorem HeapAt.ltg (h : HeapAt w b bm sv d p) {g : Nat} (hg : sv.ownBlock = some g) : g < w.heap.size := (h.row.lt g hg).2
theorem HeapAt.bm_ne (h : HeapAt w b bm sv d p) : bm ≠ b := by obtain ⟨f, h1, _⟩ := h.map; exact h1.ne_cells h.st
/-- The block of the row. -/
theorem own_block {e : TypeId} {k n base : Nat} {sv : Value} {xs : List Value} (h : w.ownsRow base e k sv n xs) {g : Nat} (hg : sv.ownBlock = some g) : ∃ cur, w.heap[g]? = some (.cells cur e (0, 0)) := by
  rcases h.2 with ⟨rfl, _⟩ | ⟨g', cap, cur, rfl, _, hh, _⟩
  · simp [Value.ownBlock] at hg
  · simp [Value.ownBlock] at hg; subst hg; exact ⟨cur, hh⟩
theorem HeapAt.g_ne (h : HeapAt w b bm sv d p) {g : Nat} (hg : sv.ownBlock = some g) : g ≠ b ∧ g ≠ bm := by
  obtain ⟨cur, hh⟩ := own_block h.row hg
  refine ⟨fun e => ?_, fun e => ?_⟩
  · subst e; have := h.st; rw [hh] at this; simp at this
  · obtain ⟨f, h1, _⟩ := h.map; exact h1.ne_cells hh e.symm
theorem HeapAt.drew (h : HeapAt w b bm sv d p) : HeapAt w.drew b bm sv d p := ⟨h.st, h.row, h.map, h.num, h.len, h.lim⟩
theorem HeapAt.kept {w' : World} {F : Nat → Prop} (h : HeapAt w b bm sv d p) (ho : Only F w w') (hF : ∀ k, Foot b bm sv k → ¬ F k) : HeapAt w' b bm sv d p := by
  refine ⟨(ho.block b h.lt (hF b (.inl rfl))).trans h.st, ownsRow_only h.row ho (fun g hg => hF g (.inr (.inr hg))), ?_, h.num, h.len, h.lim⟩
  obtain ⟨f, h1, h2⟩ := h.map
  exact ⟨f, h1.kept ho (hF bm (.inr (.inl rfl))), h2⟩
theorem HeapAt.i64n (h : HeapAt w b bm sv d p) (i : Nat) (hi : i < d.length) : I64 (at_ d i).num := by
  have := h.num i hi
  have := h.lim
  unfold I64
  omega
end

theorem ownsRow_drew {w : World} {base k n : Nat} {e : TypeId} {v : Value} {xs : List Value} (h : w.ownsRow base e k v n xs) : w.drew.ownsRow base e k v n xs := h
/-- The cells of a thing of the row. -/
theorem row_cells {w : World} {g n cap : Nat} {d : List T} (h : w.ownsRow 0 139 3 (.slice (some ⟨g, 0, none⟩) n cap) n (rowOf enc d)) (hn : n = d.length) {i : Nat} (hi : i < d.length) :
    w.cell? ⟨g, i * 3, none⟩ = some (.int .i64 (at_ d i).key) ∧ w.cell? ⟨g, i * 3 + 1, none⟩ = some (.int .i64 (at_ d i).num) ∧ w.cell? ⟨g, i * 3 + 2, none⟩ = some (.int .i64 (at_ d i).v) := by
  have e := at_eq d i hi
  refine ⟨?_, ?_, ?_⟩
  · rw [h.cellAt _ (by omega)]
    have := rowOf_get enc_len d i 0 hi (by omega)
    rw [Nat.add_zero] at this
    rw [this, e]; rfl
  · rw [h.cellAt _ (by omega), rowOf_get enc_len d i 1 hi (by omega), e]; rfl
  · rw [h.cellAt _ (by omega), rowOf_get enc_len d i 2 hi (by omega), e]; rfl

/-- A thing is stored at a place of the row. -/
theorem row_store {w : World} {g n cap : Nat} {d : List T} (h : w.ownsRow 0 139 3 (.slice (some ⟨g, 0, none⟩) n cap) n (rowOf enc d)) {i : Nat} (hi : i < d.length) (x : T) :
    (((w.setCell ⟨g, i * 3, none⟩ (.int .i64 x.key)).setCell ⟨g, i * 3 + 1, none⟩ (.int .i64 x.num)).setCell ⟨g, i * 3 + 2, none⟩ (.int .i64 x.v)).ownsRow 0 139 3 (.slice (some ⟨g, 0, none⟩) n cap) n (rowOf enc (d.set i x)) := by
  have h1 := (h.stored (i * 3) (.int .i64 x.key)).1
  have h2 := (h1.stored (i * 3 + 1) (.int .i64 x.num)).1
  have h3 := (h2.stored (i * 3 + 2) (.int .i64 x.v)).1
  rw [rowOf_set3 enc_len d i hi x rfl] at h3
  exact h3

/-- Two things of the row have changed their places. -/
theorem row_swap {w : World} {g n cap a c : Nat} {d : List T} (h : w.ownsRow 0 139 3 (.slice (some ⟨g, 0, none⟩) n cap) n (rowOf enc d)) (ha : a < d.length) (hc : c < d.length) {k1 n1 v1 k2 n2 v2 : Int} (hx : at_ d a = ⟨k1, n1, v1⟩) (hy : at_ d c = ⟨k2, n2, v2⟩) :
    ((((((w.setCell ⟨g, a * 3, none⟩ (.int .i64 k2)).setCell ⟨g, a * 3 + 1, none⟩ (.int .i64 n2)).setCell ⟨g, a * 3 + 2, none⟩ (.int .i64 v2)).setCell ⟨g, c * 3, none⟩ (.int .i64 k1)).setCell ⟨g, c * 3 + 1, none⟩ (.int .i64 n1)).setCell ⟨g, c * 3 + 2, none⟩ (.int .i64 v1)).ownsRow 0 139 3 (.slice (some ⟨g, 0, none⟩) n cap) n (rowOf enc (swp d a c)) ∧
    Only (fun k => k = g) w ((((((w.setCell ⟨g, a * 3, none⟩ (.int .i64 k2)).setCell ⟨g, a * 3 + 1, none⟩ (.int .i64 n2)).setCell ⟨g, a * 3 + 2, none⟩ (.int .i64 v2)).setCell ⟨g, c * 3, none⟩ (.int .i64 k1)).setCell ⟨g, c * 3 + 1, none⟩ (.int .i64 n1)).setCell ⟨g, c * 3 + 2, none⟩ (.int .i64 v1)) := by
  constructor
  · have h1 := row_store h ha (at_ d c)
    have h2 := row_store h1 (i := c) (by simpa using hc) (at_ d a)
    rw [hx, hy] at h2
    unfold swp
    rw [hx, hy]
    exact h2
  · have key : ∀ (W : World) (j : Nat) (u : Value), Only (fun k => k = g) w W → Only (fun k => k = g) w (W.setCell ⟨g, j, none⟩ u) := fun W j u ho => ho.setCell (p := ⟨g, j, none⟩) (.inl rfl) u
    exact key _ _ _ (key _ _ _ (key _ _ _ (key _ _ _ (key _ _ _ (key _ _ _ (Only.refl _ w))))))
end Go.Proofs.YtlhabgfgoainlaaDoor.HI
