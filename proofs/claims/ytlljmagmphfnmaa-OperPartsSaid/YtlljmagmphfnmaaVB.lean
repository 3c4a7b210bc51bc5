/- (mkvb.py) Nodes in a row: what a right node is, how many values must still come, the cells of a row of nodes; a node's number is as itself. No condition. -/
import Derived.Test.YtlljmagmphfnmaaCFoot
import Derived.Test.YtlljmagmphfnmaaFineC
namespace Go.Proofs.Ytlljmagmphfnmaa
open Go.RowKit

/-- A node. -/
structure Nd where
  k : Nat
  kids : Nat
  n : Int
  s : ByteArray
  x : Nat
  y : Nat
def nd0 (k : Nat) : Nd := ⟨k, 0, 0, ⟨#[]⟩, 0, 0⟩
instance : Inhabited Nd := ⟨nd0 0⟩
/-- Is a node right? -/
def RightNd (d : Nd) : Prop :=
  (d.k = 0 ∧ d = nd0 0) ∨ (d.k = 1 ∧ (d = ⟨1, 0, 0, ⟨#[]⟩, 0, 0⟩ ∨ d = ⟨1, 0, 1, ⟨#[]⟩, 0, 0⟩)) ∨ (d.k = 2 ∧ d = ⟨2, 0, d.n, ⟨#[]⟩, 0, 0⟩ ∧ I64 d.n) ∨ (d.k = 3 ∧ d = ⟨3, 0, 0, d.s, 0, 0⟩) ∨
    (d.k = 4 ∧ d = ⟨4, 0, 0, ⟨#[]⟩, d.x, d.y⟩ ∧ fineB d.x d.y = true ∧ d.x < 18446744073709551616 ∧ d.y < 18446744073709551616) ∨ (d.k = 5 ∧ d = ⟨5, d.kids, 0, ⟨#[]⟩, 0, 0⟩)

/-- How many values must still come behind nodes. -/
def leftN : List Nd → Int
  | [] => 1
  | x :: d => leftN d + x.kids - 1
theorem leftN_append : ∀ (a b : List Nd), leftN (a ++ b) = leftN a + leftN b - 1
  | [], b => by show leftN b = 1 + leftN b - 1; omega
  | x :: a, b => by show leftN (a ++ b) + x.kids - 1 = leftN a + x.kids - 1 + leftN b - 1; rw [leftN_append a b]; omega
theorem leftN_snoc (a : List Nd) (x : Nd) : leftN (a ++ [x]) = leftN a + x.kids - 1 := by
  rw [leftN_append]
  show leftN a + (1 + x.kids - 1) - 1 = _
  omega
/-- The size of nodes. -/
def sizeN : List Nd → Nat
  | [] => 0
  | x :: d => 1 + x.s.size + sizeN d
theorem sizeN_append : ∀ (a b : List Nd), sizeN (a ++ b) = sizeN a + sizeN b
  | [], b => by show sizeN b = 0 + sizeN b; omega
  | x :: a, b => by show 1 + x.s.size + sizeN (a ++ b) = 1 + x.s.size + sizeN a + sizeN b; rw [sizeN_append a b]; omega

/-- A node as a value. -/
def ndV (d : Nd) : Value := .agg #[.int .u8 d.k, .int .i64 d.kids, .int .i64 d.n, .string d.s, .complex .f64 d.x d.y]
/-- .. as cells. -/
def encN (d : Nd) : List Value := [.int .u8 d.k, .int .i64 d.kids, .int .i64 d.n, .string d.s, .complex .f64 d.x d.y]
theorem encN_len (d : Nd) : (encN d).length = 5 := rfl

theorem sc_any (a : Addr) (x y : Nat) (m : Mode) (w : World) : (store a (.complex .f64 x y) m).run Try.prog w = stored Try.prog w a (.complex .f64 x y) m := run_store _ _ _ _ _ rfl

theorem cells5 {W : World} {z : Nat} {v0 v1 v2 v3 v4 : Value} {t : TypeId} (h : W.heap[z]? = some (.cells #[v0, v1, v2, v3, v4] t (0, 0))) :
    W.cell? ⟨z, 0, none⟩ = some v0 ∧ W.cell? ⟨z, 1, none⟩ = some v1 ∧ W.cell? ⟨z, 2, none⟩ = some v2 ∧ W.cell? ⟨z, 3, none⟩ = some v3 ∧ W.cell? ⟨z, 4, none⟩ = some v4 ∧ (∀ j, W.frozen? ⟨z, j, none⟩ = false) := by
  refine ⟨?_, ?_, ?_, ?_, ?_, fun j => ?_⟩ <;> simp [World.cell?, World.frozen?, h]
theorem infoN : (Try.prog.info? 37).map (fun i => (i.zero, i.size, i.bytes)) = some (some (.agg #[.int .u8 0, .int .i64 0, .int .i64 0, .string ⟨#[]⟩, .complex .f64 0 0]), 5, 56) := by kernel_rfl
theorem infoN_parts : ∃ i0, Try.prog.info? 37 = some i0 ∧ i0.zero = some (.agg #[.int .u8 0, .int .i64 0, .int .i64 0, .string ⟨#[]⟩, .complex .f64 0 0]) ∧ i0.size = 5 ∧ i0.bytes = 56 := by
  have h := infoN
  cases hi : Try.prog.info? 37 with
  | none => rw [hi] at h; simp at h
  | some i0 =>
    rw [hi] at h
    simp at h
    exact ⟨i0, rfl, h.1, h.2.1, h.2.2⟩
theorem encN_one (d : Nd) : ∀ u ∈ encN d, u.oneCell' = true := by
  intro u hu
  simp only [encN, List.mem_cons, List.mem_nil_iff, or_false] at hu
  rcases hu with rfl | rfl | rfl | rfl | rfl <;> rfl
/-- The blocks of a row. -/
def RowOf (v : Value) (k : Nat) : Prop := v.ownBlock = some k

theorem row_base {w : World} {base k n : Nat} {e : TypeId} {v : Value} {xs : List Value} (h : w.ownsRow base e k v n xs) : ∀ q, RowOf v q → base ≤ q := fun q hq => (h.lt q hq).1
/-- A row of nodes of the call's own. -/
def RowN (w : World) (base : Nat) (v : Value) (d : List Nd) : Prop := w.ownsRow base 37 5 v d.length (rowOf encN d)
theorem RowN.nil (w : World) (base : Nat) : RowN w base (.slice none 0 0) [] := World.ownsRow_nil _ _ _ _
theorem RowN.only {w w' : World} {base : Nat} {v : Value} {d : List Nd} {F : Nat → Prop} (h : RowN w base v d) (ho : Only F w w') (hF : ∀ k, RowOf v k → ¬ F k) : RowN w' base v d := ownsRow_only h ho hF

theorem rowN_low {b b' : Nat} {w : World} {v : Value} {d : List Nd} (h : RowN w b v d) (hb : b' ≤ b) : RowN w b' v d := by
  refine ⟨h.1, ?_⟩
  rcases h.2 with h | ⟨g', cap, cur, hv, hbb, hr⟩
  · exact .inl h
  · exact .inr ⟨g', cap, cur, hv, Nat.le_trans hb hbb, hr⟩
theorem RowN.below {w w' : World} {b : Nat} {v : Value} {d : List Nd} (h : RowN w b v d) (hb : Below w.heap.size w w') : RowN w' b v d := h.only (F := fun _ => False) (Only.of_below hb) (fun _ _ h => h)
/-- A node's number is as itself. -/
def SelfN (x : Nd) : Prop := FloatKind.f64.format.order x.x x.x = some .eq ∧ FloatKind.f64.format.order x.y x.y = some .eq
theorem ord_00 : FloatKind.f64.format.order 0 0 = some .eq := by decide
theorem RightNd.self {x : Nd} (h : RightNd x) : SelfN x := by
  rcases h with ⟨_, h⟩ | ⟨_, h | h⟩ | ⟨_, h, _⟩ | ⟨_, h⟩ | ⟨_, h, hf, _, _⟩ | ⟨_, h⟩
  · rw [h]; exact ⟨ord_00, ord_00⟩
  · rw [h]; exact ⟨ord_00, ord_00⟩
  · rw [h]; exact ⟨ord_00, ord_00⟩
  · rw [h]; exact ⟨ord_00, ord_00⟩
  · rw [h]; exact ⟨ord_00, ord_00⟩
  · unfold fineB at hf
    simp only [Bool.and_eq_true] at hf
    exact ⟨ord_self_fin hf.1.1.1, ord_self_fin hf.1.1.2⟩
  · rw [h]; exact ⟨ord_00, ord_00⟩

theorem floatEq_self {x : Nat} (ho : FloatKind.f64.format.order x x = some .eq) : Op.floatEq .f64 x x = true := by
  unfold Op.floatEq
  rw [ho]
  rfl
theorem eqc (d : Nat) (t : TypeId) (x y : Nat) (w : World) (h : Try.prog.underlying t = some (.complex .f64)) :
    (Op.equalIn (d + 1) t (.complex .f64 x y) (.complex .f64 x y)).run Try.prog w = .ok (Op.floatEq .f64 x x && Op.floatEq .f64 y y) w := by
  simp [Op.equalIn, run_underlying h]
theorem eq_num {x y : Nat} (hx : FloatKind.f64.format.order x x = some .eq) (hy : FloatKind.f64.format.order y y = some .eq) (w : World) : (Op.equalIn 9999 35 (.complex .f64 x y) (.complex .f64 x y)).run Try.prog w = .ok true w := by
  rw [eqc 9998 _ _ _ _ Try.underlying35, floatEq_self hx, floatEq_self hy]
  rfl

/-- The cells of a node of a row. -/
theorem rowN_cells {w : World} {base g cap : Nat} {d : List Nd} (h : RowN w base (.slice (some ⟨g, 0, none⟩) d.length cap) d) {i : Nat} (hi : i < d.length) :
    w.cell? ⟨g, i * 5, none⟩ = some (.int .u8 (d[i]).k) ∧ w.cell? ⟨g, i * 5 + 1, none⟩ = some (.int .i64 (d[i]).kids) ∧ w.cell? ⟨g, i * 5 + 2, none⟩ = some (.int .i64 (d[i]).n) ∧ w.cell? ⟨g, i * 5 + 3, none⟩ = some (.string (d[i]).s) ∧ w.cell? ⟨g, i * 5 + 4, none⟩ = some (.complex .f64 (d[i]).x (d[i]).y) := by
  unfold RowN at h
  refine ⟨?_, ?_, ?_, ?_, ?_⟩
  · rw [h.cellAt _ (by omega)]
    have := rowOf_get encN_len d i 0 hi (by omega)
    rw [Nat.add_zero] at this
    rw [this]; rfl
  · rw [h.cellAt _ (by omega), rowOf_get encN_len d i 1 hi (by omega)]; rfl
  · rw [h.cellAt _ (by omega), rowOf_get encN_len d i 2 hi (by omega)]; rfl
  · rw [h.cellAt _ (by omega), rowOf_get encN_len d i 3 hi (by omega)]; rfl
  · rw [h.cellAt _ (by omega), rowOf_get encN_len d i 4 hi (by omega)]; rfl

end Go.Proofs.Ytlljmagmphfnmaa
