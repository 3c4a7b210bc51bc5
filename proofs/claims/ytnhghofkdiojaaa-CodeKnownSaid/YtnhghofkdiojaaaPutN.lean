/- Contracts of code's writers: a node. -/
import Derived.Test.YtnhghofkdiojaaaPutV
namespace Go.Proofs.Ytnhghofkdiojaaa
open Go.RowKit

section
variable {w : World} {base : Nat} {v : Value} {l : List Nat}

/-- Behind the call's own node, and a byte's cell. -/
def headW (w : World) (o : Obj) (k : Nat) : World := (w.alloc o).alloc (.cells #[.int .u8 k] 5)
theorem head_size (w : World) (o : Obj) (k : Nat) : (headW w o k).heap.size = w.heap.size + 2 := by simp [headW]
theorem head_new (w : World) (o : Obj) (k : Nat) : ∀ j u, [Value.int .u8 k][j]? = some u → (headW w o k).cell? ((⟨w.heap.size + 1, 0, none⟩ : Addr).add j) = some u := by
  have h := cell_one_new (w.alloc o) (.int .u8 k) 5
  rw [show (w.alloc o).heap.size = w.heap.size + 1 by simp] at h
  exact h
theorem head_own {o : Obj} {k : Nat} (h : Buf8 w base v l) : (headW w o k).ownsRow base 5 1 v l.length (cellsN l) := World.ownsRow.alloc (World.ownsRow.alloc h o) _
theorem own_alloc (h : Buf8 w base v l) (o : Obj) : (w.alloc o).ownsRow base 5 1 v l.length (cellsN l) := World.ownsRow.alloc h o
/-- A node's cells. -/
def ndO (d : Nd) : Obj := .cells #[.int .u8 d.k, .int .i64 d.kids, .int .i64 d.n, .string d.s, .complex .f64 d.x d.y] 34
theorem head_step {d : Nd} {w1 : World} {v1 : Value} (h : Buf8 w base v l) (hb : base ≤ w.heap.size) (hown : w1.ownsRow base 5 1 v1 (l.length + 1) (cellsN l ++ [.int .u8 d.k])) (hg : (headW w (ndO d) d.k).grownBy w1 v.ownBlock) :
    Buf8 w1 base v1 (l ++ [d.k]) ∧ Below base w w1 ∧ w.heap.size < w1.heap.size ∧ w1.cell? ⟨w.heap.size, 0, none⟩ = some (.int .u8 d.k) ∧ w1.cell? ⟨w.heap.size, 1, none⟩ = some (.int .i64 d.kids) ∧
      w1.cell? ⟨w.heap.size, 2, none⟩ = some (.int .i64 d.n) ∧ w1.cell? ⟨w.heap.size, 3, none⟩ = some (.string d.s) ∧ w1.cell? ⟨w.heap.size, 4, none⟩ = some (.complex .f64 d.x d.y) := by
  have hk : ∀ q, v.ownBlock = some q → base ≤ q ∧ q < w.heap.size := fun q hq => World.ownsRow.lt h q hq
  have hO : Only (RowOf v) w w1 := (((Only.refl (RowOf v) w).alloc (ndO d)).alloc _).then (Only.of_grown hg (fun k hk => hk))
  have hs := hg.size
  rw [head_size] at hs
  have hq : w1.heap[w.heap.size]? = some (.cells #[.int .u8 d.k, .int .i64 d.kids, .int .i64 d.n, .string d.s, .complex .f64 d.x d.y] 34) := by
    rw [hg.block w.heap.size (by rw [head_size]; omega) (fun e => by have := (hk _ e.symm).2; omega)]
    unfold headW
    rw [Below.heap_alloc _ _ _ (by simp)]
    exact heap_alloc_new w _
  refine ⟨?_, hO.below hb (fun q hq h' => by have := (hk q h').1; omega), by omega, ?_, ?_, ?_, ?_, ?_⟩
  · unfold Buf8
    rw [cellsN_append, List.length_append]
    exact hown
  all_goals simp [World.cell?, hq]

set_option maxRecDepth 100000 in
set_option maxHeartbeats 2000000 in
theorem putNode_0 (h : Buf8 w base v l) (hb : base ≤ w.heap.size) (hlen : l.length ≤ 1099511620000) :
    Calls Try.prog 36 #[v, ndV ⟨0, 0, 0, ⟨#[]⟩, 0, 0⟩] w (PutOn base w (l ++ ([0]))) := by
  obtain ⟨i0, hi, hz0, hz1, hz2⟩ := info8_parts
  have hsc := sc_any
  have hnw := head_new w (ndO ⟨0, 0, 0, ⟨#[]⟩, 0, 0⟩) 0
  have how := head_own (o := ndO ⟨0, 0, 0, ⟨#[]⟩, 0, 0⟩) (k := 0) h
  have hst := fun w1 v1 => head_step (d := ⟨0, 0, 0, ⟨#[]⟩, 0, 0⟩) (w1 := w1) (v1 := v1) h hb
  replace h := Lib.hid h
  replace how := Lib.hid how
  unfold ndV
  go_enter Try.func36, Try.ntmps36
  go_wp2_with (at_builtin; (refine wpList_append_own_at _ rfl _ _ 22 rfl base 5 i0 (.int .u8 0) 1 1 Try.underlying22 hi hz0 hz1 hz2 rfl (by decide) _ l.length (cellsN l) rfl how.out ⟨w.heap.size + 1, 0, none⟩ 1 1 [.int .u8 (0 : Nat)] rfl rfl hnw one_byte (by unfold maxLen; omega) (by omega) (by simp; omega) ?_; intro v1 w1 hown1 hg1 _ _; obtain ⟨q1, q2, q3, c0, c1, c2, c3, c4⟩ := hst _ _ hown1 hg1; replace q1 := Lib.hid q1))
  go_ret
  exact ⟨_, rfl, q1.out, q2⟩

set_option maxRecDepth 100000 in
set_option maxHeartbeats 2000000 in
theorem putNode_2 {n : Int} (hn : I64 n) (h : Buf8 w base v l) (hb : base ≤ w.heap.size) (hlen : l.length ≤ 1099511620000) :
    Calls Try.prog 36 #[v, ndV ⟨2, 0, n, ⟨#[]⟩, 0, 0⟩] w (PutOn base w (l ++ (2 :: uintL (foldN n)))) := by
  obtain ⟨i0, hi, hz0, hz1, hz2⟩ := info8_parts
  have hsc := sc_any
  have hnw := head_new w (ndO ⟨2, 0, n, ⟨#[]⟩, 0, 0⟩) 2
  have how := head_own (o := ndO ⟨2, 0, n, ⟨#[]⟩, 0, 0⟩) (k := 2) h
  have hst := fun w1 v1 => head_step (d := ⟨2, 0, n, ⟨#[]⟩, 0, 0⟩) (w1 := w1) (v1 := v1) h hb
  have hF := fold_any hn
  have hP := fun (w1 : World) (v1 : Value) (hB : Buf8 w1 base v1 (l ++ [2])) (hb1 : base ≤ w1.heap.size) => putUint_on hB hb1 (by simp; omega) (foldN n) (foldN_lt hn.1 hn.2)
  replace h := Lib.hid h
  replace how := Lib.hid how
  unfold ndV
  go_enter Try.func36, Try.ntmps36
  go_wp2_with (first
    | (at_builtin; (refine wpList_append_own_at _ rfl _ _ 22 rfl base 5 i0 (.int .u8 0) 1 1 Try.underlying22 hi hz0 hz1 hz2 rfl (by decide) _ l.length (cellsN l) rfl how.out ⟨w.heap.size + 1, 0, none⟩ 1 1 [.int .u8 (2 : Nat)] rfl rfl hnw one_byte (by unfold maxLen; omega) (by omega) (by simp; omega) ?_; intro v1 w1 hown1 hg1 _ _; obtain ⟨q1, q2, q3, c0, c1, c2, c3, c4⟩ := hst _ _ hown1 hg1; have h3 := hP _ _ q1 (Nat.le_trans hb q2.size); replace q1 := Lib.hid q1))
    | ((with_reducible refine (hF _).mono ?_); rintro e w' ⟨rfl, rfl⟩)
    | ((with_reducible refine h3.mono ?_); rintro e w2 ⟨v2, rfl, hB2, hb2⟩))
  go_ret
  exact ⟨v2, rfl, by rw [List.append_assoc] at hB2; exact hB2, q2.trans hb2⟩

set_option maxRecDepth 100000 in
set_option maxHeartbeats 2000000 in
theorem putNode_3 {s : ByteArray} (hs : s.size ≤ 1099511620000) (h : Buf8 w base v l) (hb : base ≤ w.heap.size) (hlen : l.length ≤ 1099511620000) :
    Calls Try.prog 36 #[v, ndV ⟨3, 0, 0, s, 0, 0⟩] w (PutOn base w (l ++ (3 :: (uintL s.size ++ strN s)))) := by
  obtain ⟨i0, hi, hz0, hz1, hz2⟩ := info8_parts
  have hsc := sc_any
  have hnw := head_new w (ndO ⟨3, 0, 0, s, 0, 0⟩) 3
  have how := head_own (o := ndO ⟨3, 0, 0, s, 0, 0⟩) (k := 3) h
  have hst := fun w1 v1 => head_step (d := ⟨3, 0, 0, s, 0, 0⟩) (w1 := w1) (v1 := v1) h hb
  have hP := fun (w1 : World) (v1 : Value) (hB : Buf8 w1 base v1 (l ++ [3])) (hb1 : base ≤ w1.heap.size) => putText_on hB hb1 (by simp; omega) s (by omega)
  replace h := Lib.hid h
  replace how := Lib.hid how
  unfold ndV
  go_enter Try.func36, Try.ntmps36
  go_wp2_with (first
    | (at_builtin; (refine wpList_append_own_at _ rfl _ _ 22 rfl base 5 i0 (.int .u8 0) 1 1 Try.underlying22 hi hz0 hz1 hz2 rfl (by decide) _ l.length (cellsN l) rfl how.out ⟨w.heap.size + 1, 0, none⟩ 1 1 [.int .u8 (3 : Nat)] rfl rfl hnw one_byte (by unfold maxLen; omega) (by omega) (by simp; omega) ?_; intro v1 w1 hown1 hg1 _ _; obtain ⟨q1, q2, q3, c0, c1, c2, c3, c4⟩ := hst _ _ hown1 hg1; have h3 := hP _ _ q1 (Nat.le_trans hb q2.size); replace q1 := Lib.hid q1))
    | ((with_reducible refine h3.mono ?_); rintro e w2 ⟨v2, rfl, hB2, hb2⟩))
  go_ret
  exact ⟨v2, rfl, by rw [List.append_assoc] at hB2; exact hB2, q2.trans hb2⟩

set_option maxRecDepth 100000 in
set_option maxHeartbeats 2000000 in
theorem putNode_4 {x y : Nat} (hx : x < 18446744073709551616) (hy : y < 18446744073709551616) (h : Buf8 w base v l) (hb : base ≤ w.heap.size) (hlen : l.length ≤ 1099511620000) :
    Calls Try.prog 36 #[v, ndV ⟨4, 0, 0, ⟨#[]⟩, x, y⟩] w (PutOn base w (l ++ (4 :: (beL x ++ beL y)))) := by
  obtain ⟨i0, hi, hz0, hz1, hz2⟩ := info8_parts
  have hsc := sc_any
  have hnw := head_new w (ndO ⟨4, 0, 0, ⟨#[]⟩, x, y⟩) 4
  have how := head_own (o := ndO ⟨4, 0, 0, ⟨#[]⟩, x, y⟩) (k := 4) h
  have hst := fun w1 v1 => head_step (d := ⟨4, 0, 0, ⟨#[]⟩, x, y⟩) (w1 := w1) (v1 := v1) h hb
  have hP := fun (w1 : World) (v1 : Value) (hB : Buf8 w1 base v1 (l ++ [4])) (hb1 : base ≤ w1.heap.size) => putNum_on hB hb1 (by simp; omega) x y hx hy
  replace h := Lib.hid h
  replace how := Lib.hid how
  unfold ndV
  go_enter Try.func36, Try.ntmps36
  go_wp2_with (first
    | (at_builtin; (refine wpList_append_own_at _ rfl _ _ 22 rfl base 5 i0 (.int .u8 0) 1 1 Try.underlying22 hi hz0 hz1 hz2 rfl (by decide) _ l.length (cellsN l) rfl how.out ⟨w.heap.size + 1, 0, none⟩ 1 1 [.int .u8 (4 : Nat)] rfl rfl hnw one_byte (by unfold maxLen; omega) (by omega) (by simp; omega) ?_; intro v1 w1 hown1 hg1 _ _; obtain ⟨q1, q2, q3, c0, c1, c2, c3, c4⟩ := hst _ _ hown1 hg1; have h3 := hP _ _ q1 (Nat.le_trans hb q2.size); replace q1 := Lib.hid q1))
    | ((with_reducible refine h3.mono ?_); rintro e w2 ⟨v2, rfl, hB2, hb2⟩))
  go_ret
  exact ⟨v2, rfl, by rw [List.append_assoc] at hB2; exact hB2, q2.trans hb2⟩

set_option maxRecDepth 100000 in
set_option maxHeartbeats 2000000 in
theorem putNode_5 {kids : Nat} (hk : kids ≤ 1024) (h : Buf8 w base v l) (hb : base ≤ w.heap.size) (hlen : l.length ≤ 1099511620000) :
    Calls Try.prog 36 #[v, ndV ⟨5, kids, 0, ⟨#[]⟩, 0, 0⟩] w (PutOn base w (l ++ (5 :: uintL kids))) := by
  obtain ⟨i0, hi, hz0, hz1, hz2⟩ := info8_parts
  have hsc := sc_any
  have hnw := head_new w (ndO ⟨5, kids, 0, ⟨#[]⟩, 0, 0⟩) 5
  have how := head_own (o := ndO ⟨5, kids, 0, ⟨#[]⟩, 0, 0⟩) (k := 5) h
  have hst := fun w1 v1 => head_step (d := ⟨5, kids, 0, ⟨#[]⟩, 0, 0⟩) (w1 := w1) (v1 := v1) h hb
  have hP := fun (w1 : World) (v1 : Value) (hB : Buf8 w1 base v1 (l ++ [5])) (hb1 : base ≤ w1.heap.size) => putUint_on hB hb1 (by simp; omega) kids (by omega)
  replace h := Lib.hid h
  replace how := Lib.hid how
  unfold ndV
  go_enter Try.func36, Try.ntmps36
  go_wp2_with (first
    | (at_builtin; (refine wpList_append_own_at _ rfl _ _ 22 rfl base 5 i0 (.int .u8 0) 1 1 Try.underlying22 hi hz0 hz1 hz2 rfl (by decide) _ l.length (cellsN l) rfl how.out ⟨w.heap.size + 1, 0, none⟩ 1 1 [.int .u8 (5 : Nat)] rfl rfl hnw one_byte (by unfold maxLen; omega) (by omega) (by simp; omega) ?_; intro v1 w1 hown1 hg1 _ _; obtain ⟨q1, q2, q3, c0, c1, c2, c3, c4⟩ := hst _ _ hown1 hg1; have h3 := hP _ _ q1 (Nat.le_trans hb q2.size); replace q1 := Lib.hid q1))
    | ((with_reducible refine h3.mono ?_); rintro e w2 ⟨v2, rfl, hB2, hb2⟩))
  go_ret
  exact ⟨v2, rfl, by rw [List.append_assoc] at hB2; exact hB2, q2.trans hb2⟩

set_option maxRecDepth 100000 in
set_option maxHeartbeats 2000000 in
theorem putNode_1 {c : Nat} (hc : c < 2) (h : Buf8 w base v l) (hb : base ≤ w.heap.size) (hlen : l.length ≤ 1099511620000) :
    Calls Try.prog 36 #[v, ndV ⟨1, 0, (c : Int), ⟨#[]⟩, 0, 0⟩] w (PutOn base w (l ++ ([1, c]))) := by
  obtain ⟨i0, hi, hz0, hz1, hz2⟩ := info8_parts
  have hsc := sc_any
  have hnw := head_new w (ndO ⟨1, 0, (c : Int), ⟨#[]⟩, 0, 0⟩) 1
  have how := head_own (o := ndO ⟨1, 0, (c : Int), ⟨#[]⟩, 0, 0⟩) (k := 1) h
  have hst := fun w1 v1 => head_step (d := ⟨1, 0, (c : Int), ⟨#[]⟩, 0, 0⟩) (w1 := w1) (v1 := v1) h hb
  have h8 : IntKind.u8.wrap (c : Int) = (c : Int) := by rw [IntKind.wrap_u8']; omega
  replace h := Lib.hid h
  replace how := Lib.hid how
  unfold ndV
  go_enter Try.func36, Try.ntmps36
  go_wp2_with (first
    | (at_builtin; (refine wpList_append_own_at _ rfl _ _ 22 rfl base 5 i0 (.int .u8 0) 1 1 Try.underlying22 hi hz0 hz1 hz2 rfl (by decide) _ l.length (cellsN l) rfl how.out ⟨w.heap.size + 1, 0, none⟩ 1 1 [.int .u8 (1 : Nat)] rfl rfl hnw one_byte (by unfold maxLen; omega) (by omega) (by simp; omega) ?_; intro v1 w1 hown1 hg1 _ _; obtain ⟨q1, q2, q3, c0, c1, c2, c3, c4⟩ := hst _ _ hown1 hg1; have hbl := Nat.le_trans hb q2.size; have h3 := fun o => Lib.hid (own_alloc q1 o); replace q1 := Lib.hid q1))
    | (at_builtin; (refine wpList_append_own_at _ rfl _ _ 22 rfl base 5 i0 (.int .u8 0) 1 1 Try.underlying22 hi hz0 hz1 hz2 rfl (by decide) _ (l ++ [1]).length (cellsN (l ++ [1])) rfl (h3 _).out ⟨w1.heap.size, 0, none⟩ 1 1 [.int .u8 (c : Nat)] rfl rfl (cell_one_new _ _ _) one_byte (by simp; unfold maxLen; omega) (by simp; omega) (by simp; omega) ?_; intro v2 w2 hown2 hg2 _ hloc2)))
  go_ret
  have q1 := q1.out
  have h4 := put_step (wr := w1) (v0 := v1) (w := w1) (Only.refl _ _) (fun k hk => .inl hk) hown2 rfl hg2 hloc2
  have h5 := h4.1
  rw [List.append_assoc] at h5
  exact ⟨v2, rfl, h5, q2.trans (h4.2.1.below hbl (fun k hk h' => by have := row_base q1 k h'; omega))⟩
end
end Go.Proofs.Ytnhghofkdiojaaa
