/- A row of bytes of the call's own, as bytes: append, string(b). No condition. -/
import Derived.Test.YtngbekhegnmfaaaCkH
import Derived.Maps.AppendAt
import Derived.Laws.AppendOwnNone
import Derived.Lib.BufferRead
import Derived.Lib.AppendStr
import Derived.Lib.UnsafeStr
import Derived.Laws.IdiomStrings
namespace Go.Proofs.Ytngbekhegnmfaaa
open Go.RowKit

theorem cell_oneB (w : World) (v : Value) (t : TypeId) (j : Nat) (u : Value) (hj : ([v] : List Value)[j]? = some u) : (w.alloc (.cells #[v] t)).cell? ((⟨w.heap.size, 0, none⟩ : Addr).add j) = some u := by
  match j, hj with
  | 0, hj =>
    simp at hj
    subst hj
    have h := heap_alloc_new w (Obj.cells #[v] t)
    simp only [World.cell?, Addr.add, ↓reduceIte, h]
    rfl
/-- A row of the call's own holds these bytes. -/
def BufU (w : World) (base : Nat) (v : Value) (l : List UInt8) : Prop := w.ownsRow base 5 1 v l.length (Lib.byteCells l)
theorem u8_info : (Try.prog.info? 5).map (fun i => (i.zero, i.size, i.bytes)) = some (some (.int .u8 0), 1, 1) := by kernel_rfl
theorem u8_parts : ∃ i0, Try.prog.info? 5 = some i0 ∧ i0.zero = some (.int .u8 0) ∧ i0.size = 1 ∧ i0.bytes = 1 := by
  have h := u8_info
  cases hi : Try.prog.info? 5 with
  | none => rw [hi] at h; simp at h
  | some i0 =>
    rw [hi] at h
    simp at h
    exact ⟨i0, rfl, h.1, h.2.1, h.2.2⟩
theorem byteCells_snoc (l : List UInt8) (c : UInt8) : Lib.byteCells (l ++ [c]) = Lib.byteCells l ++ [.int .u8 (c.toNat : Int)] := by simp [Lib.byteCells]
theorem byteCells_one (l : List UInt8) : ∀ u ∈ Lib.byteCells l, u.oneCell' = true := by
  intro u hu
  simp only [Lib.byteCells, List.mem_map] at hu
  obtain ⟨b, _, rfl⟩ := hu
  rfl
section
variable {w W : World} {base : Nat} {v : Value} {l : List UInt8}
theorem BufU.nil (w : World) (base : Nat) : BufU w base (.slice none 0 0) [] := World.ownsRow_nil _ _ _ _
theorem BufU.below (h : BufU w base v l) (hb : Below w.heap.size w W) : BufU W base v l := ownsRow_only (F := fun _ => False) h (Only.of_below hb) (fun _ _ h => h)
theorem BufU.shape (h : BufU w base v l) : ∃ a cap, v = .slice a l.length cap ∧ l.length ≤ cap ∧ cap ≤ 9223372036854775807 := ownsRow_shape h

/-- string(b) -/
theorem BufU.string (h : BufU w base v l) : (convert 58 9 v).run Try.prog w = .ok (.string ⟨l.toArray⟩) w := by
  rcases h.2 with ⟨hv, h0⟩ | ⟨g, cap, cur, hv, hb, hg, hnc, hcm, hsz, ht⟩
  · have h1 : l = [] := List.eq_nil_of_length_eq_zero h0
    subst h1
    rw [hv]
    exact Lib.run_convert_nil_bytes w _ _ _ 0 Try.underlying58 Try.underlying5 Try.underlying9
  · have hh := h
    unfold BufU at hh
    rw [hv] at hh ⊢
    refine run_convert_bytes_back w _ _ 5 ⟨g, 0, none⟩ cap l Try.underlying58 Try.underlying5 Try.underlying9 (fun j hj => ?_)
    rw [show (⟨g, 0, none⟩ : Addr).add j = ⟨g, j, none⟩ by simp [Addr.add]; omega, World.ownsRow.cellAt (g := g) (cap := cap) hh j (by omega)]
    simp [Lib.byteCells, List.getElem?_eq_getElem hj]

/-- append(b, c): at the operation. -/
theorem wpList_append_u8 {ops : Array Oper} {rest : List Oper} {o : Oper} {a : Act} {Q : Exit → Act → World → Prop} (hgd : o.guard = none) (s x : Operand) (T : TypeId) (hT : Try.prog.underlying T = some (.slice 5))
    (ho : o.op = .call { callee := .builtin .append, args := #[s, x], argTypes := #[T, T] })
    (hs : a.eval s = v) (hown : BufU w base v l) {c : UInt8} {w2 : World} (hw : w = w2.alloc (.cells #[.int .u8 (c.toNat : Int)] 5)) (hx : a.eval x = .slice (some ⟨w2.heap.size, 0, none⟩) 1 1)
    (hk : l.length ≤ 140737488351232) (hbase : base ≤ w.heap.size)
    (h : ∀ a' cap w', BufU w' base (.slice a' (l.length + 1) cap) (l ++ [c]) → Below base w w' → wpList Try.prog ops Q rest (a.put o.dst (.slice a' (l.length + 1) cap)) w') : wpList Try.prog ops Q (o :: rest) a w := by
  obtain ⟨i0, hi, hz0, hz1, hz2⟩ := u8_parts
  subst hw
  refine wpList_append_own_at _ hgd s x T ho base 5 i0 (.int .u8 0) 1 1 hT hi hz0 hz1 hz2 rfl (by decide) v l.length (Lib.byteCells l) hs hown ⟨w2.heap.size, 0, none⟩ 1 1 [.int .u8 (c.toNat : Int)] hx rfl (cell_oneB _ _ _) (fun y hy => by simp at hy; subst hy; rfl) (by unfold maxLen; omega) (by omega) hbase ?_
  intro v' w' h2 h3 _ _
  obtain ⟨a', cap, rfl, _⟩ := ownsRow_shape h2
  refine h a' cap w' ?_ ((Below.refl base _).grown h3 hbase (fun k hk => (World.ownsRow.lt hown k hk).1))
  unfold BufU
  rw [byteCells_snoc, List.length_append]
  exact h2
end

end Go.Proofs.Ytngbekhegnmfaaa
