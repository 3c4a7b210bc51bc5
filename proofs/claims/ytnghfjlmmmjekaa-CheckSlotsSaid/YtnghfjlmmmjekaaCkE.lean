/- The document's variables that are seen (layer 11) in memory; find, walked. No condition. -/
import Derived.Test.YtnghfjlmmmjekaaCkM
import Derived.Test.YtnghfjlmmmjekaaCkD
import Derived.Test.YtnghfjlmmmjekaaCkKids
namespace Go.Proofs.Ytnghfjlmmmjekaa
open Go.RowKit Go.Shelf

def varC (p : List UInt8 × Nat) : List Value := [strV p.1, .int .i64 (p.2 : Int)]
theorem varC_len (p : List UInt8 × Nat) : (varC p).length = 2 := rfl
/-- A row of variables of the call's own. -/
def VarsAt (w : World) (base : Nat) (v : Value) (L : List (List UInt8 × Nat)) : Prop := w.ownsRow base 56 2 v L.length (rowOf varC L)
section
variable {w W : World} {base : Nat} {v : Value} {L : List (List UInt8 × Nat)}
theorem VarsAt.shape (h : VarsAt w base v L) : ∃ a cap, v = .slice a L.length cap ∧ L.length ≤ cap ∧ cap ≤ 9223372036854775807 := ownsRow_shape h
theorem VarsAt.below (h : VarsAt w base v L) (hb : Below w.heap.size w W) : VarsAt W base v L := ownsRow_only (F := fun _ => False) h (Only.of_below hb) (fun _ _ h => h)
theorem VarsAt.cells (h : VarsAt w base v L) (h0 : 0 < L.length) : ∃ g cap, v = .slice (some ⟨g, 0, none⟩) L.length cap ∧ ∀ i (hi : i < L.length), w.cell? ⟨g, i * 2, none⟩ = some (strV L[i].1) ∧ w.cell? ⟨g, i * 2 + 1, none⟩ = some (.int .i64 (L[i].2 : Int)) := by
  obtain ⟨g, cap, e, h1, h2, h3, h4, _⟩ := ownsRow_head h h0
  refine ⟨g, cap, e, fun i hi => ?_⟩
  have hh := h
  unfold VarsAt at hh
  rw [e] at hh
  have q : ∀ j, j < 2 → w.cell? ⟨g, i * 2 + j, none⟩ = (varC L[i])[j]? := fun j hj => (World.ownsRow.cellAt (g := g) (cap := cap) hh (i * 2 + j) (by omega)).trans (rowOf_get varC_len L i j hi hj)
  exact ⟨q 0 (by omega), q 1 (by omega)⟩
end
/-- The slot that find answers. -/
def findI (L : List (List UInt8 × Nat)) (s : List UInt8) : Int := match findL L s with
  | some v => (v : Int)
  | none => -1
theorem findL_app (s : List UInt8) (B : List (List UInt8 × Nat)) : ∀ A : List (List UInt8 × Nat), findL (A ++ B) s = match findL B s with | some v => some v | none => findL A s
  | [] => by
    show findL B s = _
    cases findL B s <;> rfl
  | p :: r => by
    show (match findL (r ++ B) s with | some v => some v | none => if p.1 = s then some p.2 else none) = _
    rw [findL_app s B r]
    cases findL B s <;> rfl
theorem findL_hit {L : List (List UInt8 × Nat)} {s : List UInt8} {k : Nat} (h : findL (L.drop (k + 1)) s = none) (hk : k < L.length) :
    (L[k].1 = s → findI L s = (L[k].2 : Int)) ∧ (L[k].1 ≠ s → findL (L.drop k) s = none) := by
  have e : L.drop k = [L[k]] ++ L.drop (k + 1) := List.drop_eq_getElem_cons hk
  have e1 : findL [L[k]] s = if L[k].1 = s then some L[k].2 else none := rfl
  constructor
  · intro h1
    have hd : findL (L.drop k) s = some L[k].2 := by
      rw [e, findL_app, h]
      dsimp only
      rw [e1, if_pos h1]
    have hf : findL L s = some L[k].2 := by
      have := findL_app s (L.drop k) (L.take k)
      rw [List.take_append_drop, hd] at this
      exact this
    unfold findI
    rw [hf]
  · intro h1
    rw [e, findL_app, h]
    dsimp only
    rw [e1, if_neg h1]
set_option maxRecDepth 20000 in
set_option maxHeartbeats 2000000 in
theorem find11_any {v : Value} {base : Nat} {L : List (List UInt8 × Nat)} (w : World) (h : VarsAt w base v L) (hL : L.length ≤ 1000000) (s : List UInt8) :
    Calls Try.prog 38 #[v, strV s] w fun e w' => e = .returned (.int .i64 (findI L s)) ∧ w' = w := by
  obtain ⟨a, cap, rfl, _, _⟩ := h.shape
  have hc := Lib.hid h.cells
  clear h
  unfold strV
  go_enter Try.func38, Try.ntmps38
  go_wp2_with fail
  go_loopw [5] (fun t5 wr => ∃ k : Nat, k ≤ L.length ∧ t5 = .int .i64 ((k : Int) - 1) ∧ wr = w ∧ Hid (findL (L.drop k) s = none)) (fun t5 _ => (intOf t5 + 1).toNat)
  case atStart => exact ⟨L.length, Nat.le_refl _, rfl, rfl, Lib.hid (by rw [List.drop_length]; rfl)⟩
  case round =>
    obtain ⟨k, hk, rfl, rfl, hF⟩ := hrel
    rcases k with _ | k
    · have hr : findI L s = -1 := by
        unfold findI
        have := hF.out
        rw [List.drop_zero] at this
        rw [this]
      replace hr := Lib.hid hr
      have hlti : ¬ (0 : Int) ≤ (((0 : Nat) : Int) - 1) := by omega
      go_wp2_with fail
      go_ret
      exact ⟨by rw [hr.out]; rfl, rfl⟩
    · rw [show (((k + 1 : Nat) : Int) - 1) = (k : Int) by omega]
      have hlti : (0 : Int) ≤ (k : Int) := by omega
      have hlt2 : (k : Int) < (L.length : Int) := by omega
      obtain ⟨g, cap2, e, hcc⟩ := hc.out (by omega)
      injection e with e1 e2 e3
      subst e1 e3
      clear e2
      obtain ⟨y0, y1⟩ := hcc k (by omega)
      obtain ⟨g1, g2⟩ := findL_hit hF.out (show k < L.length by omega)
      generalize L[k] = p at *
      obtain ⟨pn, pv⟩ := p
      unfold strV at y0
      dsimp only at y0 y1 g1 g2
      clear hcc hF
      by_cases hp : pn = s
      · subst hp
        have hr := Lib.hid (g1 rfl)
        have hq : (pn == pn) = true := beq_self_eq_true _
        clear g1 g2
        go_wp2_with fail
        go_ret
        exact ⟨by rw [hr.out]; rfl, rfl⟩
      · have hr := Lib.hid (g2 hp)
        have hq : (pn == s) = false := beq_eq_false_iff_ne.2 hp
        clear g1 g2
        go_wp2_with fail
        go_roundw
        case rel => exact ⟨k, by omega, by go_num, trivial, hr⟩
        case measure => simp [intOf]
end Go.Proofs.Ytnghfjlmmmjekaa
