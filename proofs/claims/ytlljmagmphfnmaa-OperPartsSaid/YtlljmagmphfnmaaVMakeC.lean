/- (mkvb.py, out of VMake) Contracts of value's makers and of the document's: each answers one new node; the statement's comparison of two lists of one node. -/
import Derived.Test.YtlljmagmphfnmaaVB
import Derived.LoopTactic
import Derived.Below
import Derived.Laws.Rows
import Derived.Laws.StructEq
import Derived.Laws.Cover3
import Derived.Deep.QuietTactic
import Derived.BigQuiet
namespace Go.Proofs.Ytlljmagmphfnmaa
open Go.RowKit

/-- A node: its cells. -/
def nodeC (k n : Int) (s : ByteArray) (x y : Nat) : Array Value := #[.int .u8 k, .int .i64 0, .int .i64 n, .string s, .complex .f64 x y]
/-- Block b is one node, without kids. -/
structure IsNode (w : World) (b : Nat) (k n : Int) (s : ByteArray) (x y : Nat) : Prop where
  st : w.heap[b]? = some (.cells (nodeC k n s x y) 37 (0, 0))
/-- One new node was made, and told as a list of one. -/
def Made (w : World) (k n : Int) (s : ByteArray) (x y : Nat) (e : Ending) (w' : World) : Prop :=
  ∃ b, e = .returned (.slice (some ⟨b, 0, none⟩) 1 1) ∧ IsNode w' b k n s x y ∧ w.heap.size ≤ b ∧ Below w.heap.size w w'

section
variable {w : World} {b : Nat} {k n : Int} {s : ByteArray} {x y : Nat}
theorem IsNode.lt (h : IsNode w b k n s x y) : b < w.heap.size := (Array.getElem?_eq_some_iff.1 h.st).1
theorem IsNode.c0 (h : IsNode w b k n s x y) : w.cell? ⟨b, 0, none⟩ = some (.int .u8 k) := by simp [World.cell?, h.st, nodeC]
theorem IsNode.c1 (h : IsNode w b k n s x y) : w.cell? ⟨b, 1, none⟩ = some (.int .i64 0) := by simp [World.cell?, h.st, nodeC]
theorem IsNode.c2 (h : IsNode w b k n s x y) : w.cell? ⟨b, 2, none⟩ = some (.int .i64 n) := by simp [World.cell?, h.st, nodeC]
theorem IsNode.c3 (h : IsNode w b k n s x y) : w.cell? ⟨b, 3, none⟩ = some (.string s) := by simp [World.cell?, h.st, nodeC]
theorem IsNode.c4 (h : IsNode w b k n s x y) : w.cell? ⟨b, 4, none⟩ = some (.complex .f64 x y) := by simp [World.cell?, h.st, nodeC]
theorem IsNode.f (h : IsNode w b k n s x y) (j : Nat) : w.frozen? ⟨b, j, none⟩ = false := by simp [World.frozen?, h.st]
theorem IsNode.kept {w' : World} (h : IsNode w b k n s x y) {B : Nat} (hb : Below B w w') (hB : b < B) : IsNode w' b k n s x y := ⟨(hb.block b hB).trans h.st⟩
theorem IsNode.below {w' : World} (h : IsNode w b k n s x y) (hb : Below w.heap.size w w') : IsNode w' b k n s x y := h.kept hb h.lt
theorem IsNode.made (w : World) (k n : Int) (s : ByteArray) (x y : Nat) : IsNode (w.alloc (.cells (nodeC k n s x y) 37)) w.heap.size k n s x y := ⟨heap_alloc_new w _⟩
end

theorem made_one (w : World) (k n : Int) (s : ByteArray) (x y : Nat) :
    Made w k n s x y (.returned (.slice (some ⟨w.heap.size, 0, none⟩) 1 1)) (w.alloc (.cells (nodeC k n s x y) 37)) :=
  ⟨w.heap.size, rfl, IsNode.made w k n s x y, Nat.le_refl _, (Below.refl _ _).alloc (Nat.le_refl _) _⟩
theorem made_two (w : World) (o : Obj) (k n : Int) (s : ByteArray) (x y : Nat) :
    Made w k n s x y (.returned (.slice (some ⟨w.heap.size + 1, 0, none⟩) 1 1)) ((w.alloc o).alloc (.cells (nodeC k n s x y) 37)) := by
  have h := IsNode.made (w.alloc o) k n s x y
  have e : (w.alloc o).heap.size = w.heap.size + 1 := by simp
  rw [e] at h
  exact ⟨w.heap.size + 1, rfl, h, by omega, ((Below.refl _ _).alloc (Nat.le_refl _) _).alloc (by omega) _⟩

set_option maxHeartbeats 400000 in
theorem nodeInt_any (k n : Int) (w : World) :
    Calls Try.prog 20 #[.int .u8 k, .int .i64 n, .func (.func 21) #[] #[]] w (Made w k n ⟨#[]⟩ 0 0) := by
  have hsc := sc_any
  go_enter Try.func20, Try.ntmps20
  go_wp2
  go_ret
  exact made_two _ _ _ _ _ _ _

set_option maxHeartbeats 400000 in
theorem nodeText_any (k : Int) (s : ByteArray) (w : World) :
    Calls Try.prog 63 #[.int .u8 k, .string s, .func (.func 64) #[] #[]] w (Made w k 0 s 0 0) := by
  have hsc := sc_any
  go_enter Try.func63, Try.ntmps63
  go_wp2
  go_ret
  exact made_two _ _ _ _ _ _ _

set_option maxHeartbeats 400000 in
theorem nodeNum_any (k : Int) (x y : Nat) (w : World) :
    Calls Try.prog 51 #[.int .u8 k, .complex .f64 x y, .func (.func 52) #[] #[]] w (Made w k 0 ⟨#[]⟩ x y) := by
  have hsc := sc_any
  go_enter Try.func51, Try.ntmps51
  go_wp2
  go_ret
  exact made_two _ _ _ _ _ _ _

set_option maxHeartbeats 400000 in
theorem Int_any (n : Int) (w : World) : Calls Try.prog 5 #[.int .i64 n] w (Made w 2 n ⟨#[]⟩ 0 0) := by
  go_enter Try.func5, Try.ntmps5
  go_wp2_with ((with_reducible refine (nodeInt_any _ _ _).mono ?_); rintro e w' ⟨b, rfl, hn, hb, hB⟩)
  go_ret
  exact ⟨b, rfl, hn, hb, hB⟩
set_option maxHeartbeats 400000 in
theorem Bool_yes (w : World) : Calls Try.prog 11 #[.bool true] w (Made w 1 1 ⟨#[]⟩ 0 0) := by
  go_enter Try.func11, Try.ntmps11
  go_wp2_with ((with_reducible refine (nodeInt_any _ _ _).mono ?_); rintro e w' ⟨b, rfl, hn, hb, hB⟩)
  go_ret
  exact ⟨b, rfl, hn, hb, hB⟩
set_option maxHeartbeats 400000 in
theorem Bool_no (w : World) : Calls Try.prog 11 #[.bool false] w (Made w 1 0 ⟨#[]⟩ 0 0) := by
  go_enter Try.func11, Try.ntmps11
  go_wp2_with ((with_reducible refine (nodeInt_any _ _ _).mono ?_); rintro e w' ⟨b, rfl, hn, hb, hB⟩)
  go_ret
  exact ⟨b, rfl, hn, hb, hB⟩
end Go.Proofs.Ytlljmagmphfnmaa
