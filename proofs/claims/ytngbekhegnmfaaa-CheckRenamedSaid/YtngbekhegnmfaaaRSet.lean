/- A twig written over in a row of the call's own (layer 8). No condition. -/
import Derived.Test.YtngbekhegnmfaaaRTws
namespace Go.Proofs.Ytngbekhegnmfaaa
open Go.RowKit Go.Shelf

theorem rowOf_set4 {α : Type} {enc : α → List Value} (hk : ∀ x, (enc x).length = 4) (d : List α) (i : Nat) (hi : i < d.length) (x : α) {a b c e : Value} (he : enc x = [a, b, c, e]) :
    ((((rowOf enc d).set (i * 4) a).set (i * 4 + 1) b).set (i * 4 + 2) c).set (i * 4 + 3) e = rowOf enc (d.set i x) := by
  apply List.ext_getElem?
  intro p
  have hlen : (rowOf enc d).length = d.length * 4 := rowOf_length hk d
  have hlen2 : (rowOf enc (d.set i x)).length = d.length * 4 := by rw [rowOf_length hk]; simp
  by_cases hp : p < d.length * 4
  · have hq : p / 4 < d.length := by omega
    have e0 := rowOf_get hk d (p / 4) (p % 4) hq (by omega)
    have e1 := rowOf_get hk (d.set i x) (p / 4) (p % 4) (by simpa using hq) (by omega)
    rw [show p / 4 * 4 + p % 4 = p by omega] at e0 e1
    rw [e1]
    simp only [List.getElem?_set, List.length_set, hlen]
    by_cases hpi : p / 4 = i
    · have : (d.set i x)[p / 4]'(by simpa using hq) = x := by subst hpi; simp
      rw [this, he]
      rcases (show p % 4 = 0 ∨ p % 4 = 1 ∨ p % 4 = 2 ∨ p % 4 = 3 by omega) with h | h | h | h
      · rw [if_neg (by omega), if_neg (by omega), if_neg (by omega), if_pos (by omega), if_pos (by omega), h]; rfl
      · rw [if_neg (by omega), if_neg (by omega), if_pos (by omega), if_pos (by omega), h]; rfl
      · rw [if_neg (by omega), if_pos (by omega), if_pos (by omega), h]; rfl
      · rw [if_pos (by omega), if_pos (by omega), h]; rfl
    · have : (d.set i x)[p / 4]'(by simpa using hq) = d[p / 4] := by rw [List.getElem_set_ne (by omega)]
      rw [this, if_neg (by omega), if_neg (by omega), if_neg (by omega), if_neg (by omega)]
      exact e0
  · rw [List.getElem?_eq_none (by simp only [List.length_set]; omega), List.getElem?_eq_none (by omega)]
/-- One twig of the row written over. -/
theorem TwsAt.set {w : World} {base g n cap : Nat} {ts : List Tw} (h : TwsAt w base (.slice (some ⟨g, 0, none⟩) n cap) ts) (hn : n = ts.length) {i : Nat} (hi : i < n) (op : Nat) (kids num : Int) (text : List UInt8) :
    TwsAt ((((w.setCell ⟨g, i * 4, none⟩ (.int .u8 (op : Int))).setCell ⟨g, i * 4 + 1, none⟩ (.int .i64 kids)).setCell ⟨g, i * 4 + 2, none⟩ (.int .i64 num)).setCell ⟨g, i * 4 + 3, none⟩ (.string ⟨text.toArray⟩)) base (.slice (some ⟨g, 0, none⟩) n cap) (ts.set i ⟨op, kids, num, text⟩) ∧
    Only (fun k => k = g) w ((((w.setCell ⟨g, i * 4, none⟩ (.int .u8 (op : Int))).setCell ⟨g, i * 4 + 1, none⟩ (.int .i64 kids)).setCell ⟨g, i * 4 + 2, none⟩ (.int .i64 num)).setCell ⟨g, i * 4 + 3, none⟩ (.string ⟨text.toArray⟩)) := by
  subst hn
  constructor
  · have h1 := (World.ownsRow.stored h (i * 4) (.int .u8 (op : Int))).1
    have h2 := (h1.stored (i * 4 + 1) (.int .i64 kids)).1
    have h3 := (h2.stored (i * 4 + 2) (.int .i64 num)).1
    have h4 := (h3.stored (i * 4 + 3) (.string ⟨text.toArray⟩)).1
    rw [rowOf_set4 twC_len ts i hi ⟨op, kids, num, text⟩ rfl] at h4
    unfold TwsAt
    rw [List.length_set]
    exact h4
  · have key : ∀ (W : World) (j : Nat) (u : Value), Only (fun k => k = g) w W → Only (fun k => k = g) w (W.setCell ⟨g, j, none⟩ u) := fun W j u ho => ho.setCell (p := ⟨g, j, none⟩) (.inl rfl) u
    exact key _ _ _ (key _ _ _ (key _ _ _ (key _ _ _ (Only.refl _ w))))
/-- The cells of a twig of the row, and that they may be written. -/
theorem TwsAt.held {w : World} {base g n cap : Nat} {ts : List Tw} (h : TwsAt w base (.slice (some ⟨g, 0, none⟩) n cap) ts) (hn : n = ts.length) {i : Nat} (hi : i < n) :
    ∃ op : Nat, ∃ kids num : Int, ∃ text : List UInt8, w.cell? ⟨g, i * 4, none⟩ = some (.int .u8 (op : Int)) ∧ w.cell? ⟨g, i * 4 + 1, none⟩ = some (.int .i64 kids) ∧ w.cell? ⟨g, i * 4 + 2, none⟩ = some (.int .i64 num) ∧ w.cell? ⟨g, i * 4 + 3, none⟩ = some (.string ⟨text.toArray⟩) ∧ ∀ j, w.frozen? ⟨g, j, none⟩ = false := by
  subst hn
  have q : ∀ j, j < 4 → w.cell? ⟨g, i * 4 + j, none⟩ = (twC ts[i])[j]? := fun j hj => (World.ownsRow.cellAt (g := g) (cap := cap) h (i * 4 + j) (by omega)).trans (rowOf_get twC_len ts i j hi hj)
  exact ⟨ts[i].op, ts[i].kids, ts[i].num, ts[i].text, q 0 (by omega), q 1 (by omega), q 2 (by omega), q 3 (by omega), fun j => World.ownsRow.frozenAt (n := ts.length) h j⟩
theorem TwsAt.nil {w : World} {base : Nat} : TwsAt w base (.slice none 0 0) [] := ⟨by simp [rowOf], .inl ⟨rfl, rfl⟩⟩
theorem TwsAt.owned {w : World} {base : Nat} {v : Value} {ts : List Tw} (h : TwsAt w base v ts) (h0 : 0 < ts.length) : ∃ g cap, v = .slice (some ⟨g, 0, none⟩) ts.length cap ∧ base ≤ g ∧ g < w.heap.size ∧ ts.length ≤ cap ∧ cap ≤ 9223372036854775807 := by
  obtain ⟨g, cap, e, h1, h2, h3, h4, _⟩ := ownsRow_head h h0
  exact ⟨g, cap, e, h1, h2, h3, h4⟩
end Go.Proofs.Ytngbekhegnmfaaa
