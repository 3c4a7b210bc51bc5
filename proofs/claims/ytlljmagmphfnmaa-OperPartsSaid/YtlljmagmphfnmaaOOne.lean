/- Values of one node (layer 12): bools, whole numbers, texts as rows of one right node: made, checked, compared, asked whether they are true. No condition. -/
import Derived.Test.YtlljmagmphfnmaaVMakeC
import Derived.Test.YtlljmagmphfnmaaChkC
namespace Go.Proofs.Ytlljmagmphfnmaa
open Go.RowKit

/-- A new value of these nodes, told. -/
def Told1 (w : World) (d : List Nd) (e : Ending) (w' : World) : Prop := ∃ v, e = .returned v ∧ RowN w' w.heap.size v d ∧ Below w.heap.size w w'
theorem made_told {w w' : World} {k : Nat} {n : Int} {s : ByteArray} {x y : Nat} {e : Ending} (h : Made w (k : Int) n s x y e w') : Told1 w [⟨k, 0, n, s, x, y⟩] e w' := by
  obtain ⟨b, rfl, hn, hb, hB⟩ := h
  refine ⟨_, rfl, ⟨rfl, .inr ⟨b, 1, _, rfl, hb, hn.st, Nat.le_refl _, by unfold maxLen; omega, rfl, rfl⟩⟩, hB⟩
def boolN (b : Bool) : Nd := ⟨1, 0, if b then 1 else 0, ⟨#[]⟩, 0, 0⟩
def intN (n : Int) : Nd := ⟨2, 0, n, ⟨#[]⟩, 0, 0⟩
def textN (s : ByteArray) : Nd := ⟨3, 0, 0, s, 0, 0⟩
theorem Int_row (n : Int) (w : World) : Calls Try.prog 5 #[.int .i64 n] w (Told1 w [intN n]) := (Int_any n w).mono fun _ _ h => made_told (k := 2) h
theorem Bool_row (b : Bool) (w : World) : Calls Try.prog 11 #[.bool b] w (Told1 w [boolN b]) := by
  cases b
  · exact (Bool_no w).mono fun _ _ h => made_told (k := 1) h
  · exact (Bool_yes w).mono fun _ _ h => made_told (k := 1) h
set_option maxHeartbeats 400000 in
theorem Text_row (s : ByteArray) (hs : s.size ≤ 4095) (w : World) : Calls Try.prog 40 #[.string s] w fun e w' => ∃ v, e = .returned (.tuple #[v, .int .i64 0]) ∧ RowN w' w.heap.size v [textN s] ∧ Below w.heap.size w w' := by
  have h1 : ¬ ((4095 : Int) < (s.size : Int)) := by omega
  go_enter Try.func40, Try.ntmps40
  go_wp2_with fail
  refine (nodeText_any _ _ _).mono ?_
  rintro e w1 hm
  obtain ⟨v, rfl, hr, hb⟩ := made_told (k := 3) hm
  obtain ⟨g, cap, rfl, _⟩ := ownsRow_head hr (Nat.le_refl 1)
  go_wp2_with fail
  go_ret2
  exact ⟨_, rfl, hr, hb⟩
theorem one_good {x : Nd} (hk : x.kids = 0) : GoodV [x] where
  ne := by simp
  few := by simp
  kids := fun y hy => by rw [List.mem_singleton.1 hy, hk]; omega
  pos := fun i hi => by
    have : i = 0 := by simpa using hi
    subst this
    show (0 : Int) < 1
    omega
  fin := by show (1 : Int) + x.kids - 1 = 0; omega
theorem one_right {x : Nd} (hk : x.kids = 0) (hr : RightNd x) (hs : x.s.size ≤ 4095) : RightV [x] where
  good := one_good hk
  nodes := fun y hy => by rw [List.mem_singleton.1 hy]; exact hr
  kl := fun y hy => by rw [List.mem_singleton.1 hy, hk]; simp
  sz := by show 1 + x.s.size + 0 ≤ 4096; omega
theorem bool_right (b : Bool) : RightV [boolN b] := one_right rfl (.inr (.inl ⟨rfl, by cases b <;> simp [boolN]⟩)) (by show (0 : Nat) ≤ 4095; omega)
theorem int_right {n : Int} (h : I64 n) : RightV [intN n] := one_right rfl (.inr (.inr (.inl ⟨rfl, rfl, h⟩))) (by show (0 : Nat) ≤ 4095; omega)
theorem text_right {s : ByteArray} (h : s.size ≤ 4095) : RightV [textN s] := one_right rfl (.inr (.inr (.inr (.inl ⟨rfl, rfl⟩)))) h
/-- Are two of them the same? (Of numbers that are nought.) -/
def sameB (x y : Nd) : Bool := x.k == y.k && (x.kids == y.kids && (x.n == y.n && x.s.toList == y.s.toList))
end Go.Proofs.Ytlljmagmphfnmaa
