/- The contracts of a heap's ahead, made, Len. -/
import Derived.Test.YtlhabgfgoainlaaDoorJHSwap0
namespace Go.Proofs.YtlhabgfgoainlaaDoor.HI
open Go.RowKit

/-- Which of two things comes first. -/
def aheadB (x y : T) : Bool := decide (ordI x.key x.num y.key y.num < 0)
theorem aheadB_iff (x y : T) : aheadB x y = true ↔ lt_ T.key T.num x y := by
  unfold aheadB lt_
  rw [decide_eq_true_iff]
  exact ordI_neg _ _ _ _
theorem aheadB_false (x y : T) : aheadB x y = false ↔ ¬ lt_ T.key T.num x y := by
  rw [← aheadB_iff]; simp

set_option maxHeartbeats 1000000 in
theorem ahead_any {b bm p a c : Nat} {sv : Value} {d : List T} {w : World} (h : HeapAt w b bm sv d p) (ha : a < d.length) (hc : c < d.length) :
    Calls Tryd.prog 90 #[.pointer (some ⟨b, 0, none⟩), .int .i64 a, .int .i64 c] w fun e w' => e = .returned (.bool (aheadB (at_ d a) (at_ d c))) ∧ Below w.heap.size w w' := by
  obtain ⟨g, cap, rfl, _, hgl, hn, hcm, _⟩ := ownsRow_head h.row (by omega)
  obtain ⟨n, hlen⟩ : ∃ n, n = d.length := ⟨_, rfl⟩
  have hrow := h.row
  rw [← hlen] at hrow h hn
  have c0 := h.c0
  have han : a < n := by omega
  have hcn : c < n := by omega
  obtain ⟨⟨k1, n1, v1⟩, hx⟩ : ∃ x, at_ d a = x := ⟨_, rfl⟩
  obtain ⟨⟨k2, n2, v2⟩, hy⟩ : ∃ x, at_ d c = x := ⟨_, rfl⟩
  obtain ⟨a0, a1, a2⟩ := row_cells hrow hlen ha
  obtain ⟨e0, e1, e2⟩ := row_cells hrow hlen hc
  rw [hx] at a0 a1 a2
  rw [hy] at e0 e1 e2
  dsimp only at a0 a1 a2 e0 e1 e2
  obtain ⟨o, ho⟩ := exHid (ordI k1 n1 k2 n2)
  have C : ∀ w, Calls Tryd.prog 93 #[.agg #[.int .i64 k1, .int .i64 n1, .int .i64 v1], .agg #[.int .i64 k2, .int .i64 n2, .int .i64 v2]] w fun e w' => e = .returned (.int .i64 o) ∧ Below w.heap.size w w' := fun w => by have := order_any k1 n1 v1 k2 n2 v2 w; rw [ho.out] at this; exact this
  replace C := Lib.hid C
  have fin : aheadB (at_ d a) (at_ d c) = decide (o < 0) := by rw [hx, hy]; unfold aheadB; dsimp only; rw [ho.out]
  replace fin := Lib.hid fin
  clear h hrow hx hy hlen ha hc ho
  go_enter Tryd.func90, Tryd.ntmps90
  go_wp2
  go_region_held3 (fun w' => w'.cell? ⟨b, 0, none⟩ = some (.slice (some ⟨g, 0, none⟩) n cap) ∧ w'.cell? ⟨g, a * 3, none⟩ = some (.int .i64 k1) ∧ w'.cell? ⟨g, a * 3 + 1, none⟩ = some (.int .i64 n1) ∧ w'.cell? ⟨g, a * 3 + 2, none⟩ = some (.int .i64 v1) ∧ w'.cell? ⟨g, c * 3, none⟩ = some (.int .i64 k2) ∧ w'.cell? ⟨g, c * 3 + 1, none⟩ = some (.int .i64 n2) ∧ w'.cell? ⟨g, c * 3 + 2, none⟩ = some (.int .i64 v2))
    (first
      | exact ⟨c0, a0, a1, a2, e0, e1, e2⟩
      | exact hold)
    ((go_at_call 93; refine (C.out _).mono ?_; rintro e w' ⟨rfl, hb⟩; have hold : w'.cell? ⟨b, 0, none⟩ = some (.slice (some ⟨g, 0, none⟩) n cap) ∧ w'.cell? ⟨g, a * 3, none⟩ = some (.int .i64 k1) ∧ w'.cell? ⟨g, a * 3 + 1, none⟩ = some (.int .i64 n1) ∧ w'.cell? ⟨g, a * 3 + 2, none⟩ = some (.int .i64 v1) ∧ w'.cell? ⟨g, c * 3, none⟩ = some (.int .i64 k2) ∧ w'.cell? ⟨g, c * 3 + 1, none⟩ = some (.int .i64 n2) ∧ w'.cell? ⟨g, c * 3 + 2, none⟩ = some (.int .i64 v2) := (by refine ⟨?_, ?_, ?_, ?_, ?_, ?_, ?_⟩ <;> exact Below.keeps hb (by assumption))))
  go_wp2
  go_ret
  exact ⟨ret_bool fin.out.symm, below_drew hb⟩

/-- .. said of numbers. -/
theorem ahead_at {b bm p a c : Nat} {sv : Value} {d : List T} {w : World} (h : HeapAt w b bm sv d p) {x y : Int} {o : Bool} (hx : x = a) (hy : y = c) (ha : a < d.length) (hc : c < d.length) (ho : aheadB (at_ d a) (at_ d c) = o) :
    Calls Tryd.prog 90 #[.pointer (some ⟨b, 0, none⟩), .int .i64 x, .int .i64 y] w fun e w' => e = .returned (.bool o) ∧ HeapAt w' b bm sv d p ∧ Below w.heap.size w w' := by
  subst hx; subst hy; subst ho
  exact (ahead_any h ha hc).mono fun e w' ⟨h1, h2⟩ => ⟨h1, h.kept (F := fun _ => False) (Only.of_below h2) (fun _ _ h => h), h2⟩

set_option maxHeartbeats 400000 in
theorem made_any {b bm p : Nat} {sv : Value} {d : List T} {w : World} (h : HeapAt w b bm sv d p) :
    Calls Tryd.prog 80 #[.pointer (some ⟨b, 0, none⟩)] w fun e w' => e = .returned (.bool true) ∧ w = w' := by
  have c1 := h.c1
  have hq := fun w => run_neq_map (P := Tryd.prog) w 110 _ _ (some bm) Tryd.underlying110
  clear h
  go_enter Tryd.func80, Tryd.ntmps80
  go_wp2
  go_ret
  exact ⟨rfl, rfl⟩
set_option maxHeartbeats 400000 in
theorem made_nil (w : World) :
    Calls Tryd.prog 80 #[.pointer none] w fun e w' => e = .returned (.bool false) ∧ w = w' := by
  go_enter Tryd.func80, Tryd.ntmps80
  go_wp2
  go_ret
  exact ⟨rfl, rfl⟩
set_option maxHeartbeats 400000 in
theorem made_zero {b : Nat} {w : World} (c1 : w.cell? ⟨b, 1, none⟩ = some (.map none)) :
    Calls Tryd.prog 80 #[.pointer (some ⟨b, 0, none⟩)] w fun e w' => e = .returned (.bool false) ∧ w = w' := by
  have hq := fun w => run_neq_map (P := Tryd.prog) w 110 _ _ none Tryd.underlying110
  go_enter Tryd.func80, Tryd.ntmps80
  go_wp2
  go_ret
  exact ⟨rfl, rfl⟩
set_option maxHeartbeats 400000 in
theorem len_any {b bm p : Nat} {sv : Value} {d : List T} {w : World} (h : HeapAt w b bm sv d p) :
    Calls Tryd.prog 82 #[.pointer (some ⟨b, 0, none⟩)] w fun e w' => e = .returned (.int .i64 d.length) ∧ w = w' := by
  obtain ⟨a, cap, rfl, _⟩ := ownsRow_shape h.row
  have c0 := h.c0
  have M := Lib.hid (made_any h)
  clear h
  go_enter Tryd.func82, Tryd.ntmps82
  go_wp2_with (go_at_call 80; refine M.out.mono ?_; rintro e w' ⟨rfl, rfl⟩)
  go_ret
  exact ⟨rfl, rfl⟩
end Go.Proofs.YtlhabgfgoainlaaDoor.HI
