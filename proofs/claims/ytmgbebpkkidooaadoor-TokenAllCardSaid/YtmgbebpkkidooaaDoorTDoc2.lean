/- The document's Among, Signs, May (layer 7), walked (Among out of TWords, which holds the law TokenWords too). No condition. -/
import Derived.Test.YtmgbebpkkidooaaDoorTDoc1
import Derived.Test.YtmgbebpkkidooaaDoorTTold
namespace Go.Proofs.YtmgbebpkkidooaaDoor
open Go.RowKit Tok

/-- Texts in memory, one behind the other. -/
def Txts (w : World) (a : Option Addr) (f : Nat → ByteArray) (n : Nat) : Prop :=
  0 < n → ∃ b off, a = some ⟨b, off, none⟩ ∧ b < w.heap.size ∧ ∀ j, j < n → w.cell? ⟨b, off + j, none⟩ = some (.string (f j))
theorem Txts.below {w W : World} {a : Option Addr} {f : Nat → ByteArray} {n : Nat} (h : Txts w a f n) (hb : Below w.heap.size w W) : Txts W a f n := by
  intro h0
  obtain ⟨b, off, rfl, hl, hc⟩ := h h0
  exact ⟨b, off, rfl, Nat.lt_of_lt_of_le hl hb.size, fun j hj => (hb.cell (p := ⟨b, off + j, none⟩) hl).trans (hc j hj)⟩

theorem any_range (g : Nat → Bool) : ∀ n, (∀ j, j < n → g j = false) → (List.range n).any g = false := by
  intro n h
  rw [List.any_eq_false]
  intro j hj
  simp [h j (List.mem_range.1 hj)]
theorem any_hit {g : Nat → Bool} {n j : Nat} (hj : j < n) (h : g j = true) : (List.range n).any g = true :=
  List.any_eq_true.2 ⟨j, List.mem_range.2 hj, h⟩

set_option maxRecDepth 20000 in
set_option maxHeartbeats 1000000 in
theorem among_any {w : World} {a : Option Addr} {f : Nat → ByteArray} {n cap : Nat} (h : Txts w a f n) (hn : n ≤ 1000) (s : ByteArray) :
    Calls Tryd.prog 43 #[.slice a n cap, .string s] w fun e w' => e = .returned (.bool ((List.range n).any fun j => (f j).toList == s.toList)) ∧ w = w' := by
  obtain ⟨V, hV⟩ := exHid ((List.range n).any fun j => (f j).toList == s.toList)
  rw [hV]
  replace h := Lib.hid h
  go_enter Tryd.func43, Tryd.ntmps43
  go_wp2
  go_loop [5] (fun t5 => ∃ i : Nat, i ≤ n ∧ t5 = .int .i64 i ∧ Hid (∀ j, j < i → ((f j).toList == s.toList) = false)) (fun t5 => n - (intOf t5).toNat)
  case atStart => exact ⟨0, by omega, rfl, fun j hj => by omega⟩
  case round =>
    obtain ⟨i, hi, rfl, hall⟩ := hrel
    rcases Nat.lt_or_ge i n with hlt | hge
    · obtain ⟨b, off, rfl, _, hc⟩ := h.out (by omega)
      have x := hc i hlt
      have hlti : (i : Int) < (n : Int) := by omega
      cases hq : ((f i).toList == s.toList) with
      | false =>
        have hnx : Hid (∀ j, j < i + 1 → ((f j).toList == s.toList) = false) := by
          intro j hj
          rcases Nat.lt_or_ge j i with h1 | h1
          · exact hall j h1
          · obtain rfl : j = i := by omega
            exact hq
        generalize f i = S at *
        clear hc
        go_wp2
        go_round
        case rel => exact ⟨i + 1, by omega, by go_num, hnx⟩
        case measure => simp [intOf]; omega
      | true =>
        have hv : V = true := by rw [← hV.out]; exact any_hit hlt hq
        replace hv := Lib.hid hv
        generalize f i = S at *
        clear hc
        go_wp2
        go_ret
        exact ⟨ret_bool (by rw [hv.out]), rfl⟩
    · obtain rfl : i = n := by omega
      have hlti : ¬ ((i : Int) < (i : Int)) := by omega
      have hv : V = false := by rw [← hV.out]; exact any_range _ _ hall
      replace hv := Lib.hid hv
      go_wp2
      go_ret
      exact ⟨ret_bool (by rw [hv.out]), rfl⟩


def sgAt (i : Nat) : ByteArray := ⟨(signs.getD i []).toArray⟩
theorem txts_signs (w : World) (cs : Array Value) (t : TypeId) (h : cs = ((List.range 17).map fun j => Value.string (sgAt j)).toArray) : Txts (w.alloc (.cells cs t)) (some ⟨w.heap.size, 0, none⟩) sgAt 17 := by
  subst h
  refine fun _ => ⟨_, 0, rfl, by simp, fun j hj => ?_⟩
  rw [Nat.zero_add]
  simp only [World.cell?, heap_alloc_new]
  simp [List.getElem?_range hj]
set_option maxRecDepth 20000 in
theorem refSigns_any (w : World) :
    Calls Tryd.prog 44 #[] w fun e w' => ∃ b, e = .returned (.slice (some ⟨b, 0, none⟩) 17 17) ∧ Txts w' (some ⟨b, 0, none⟩) sgAt 17 ∧ Below w.heap.size w w' := by
  go_enter Tryd.func44, Tryd.ntmps44
  go_wp2
  go_ret
  exact ⟨_, rfl, txts_signs w _ _ (by rfl), (Below.refl _ w).alloc (Nat.le_refl _) _⟩
theorem sg_range (l : List UInt8) : ((List.range 17).any fun j => (sgAt j).toList == (⟨l.toArray⟩ : ByteArray).toList) = decide (l ∈ signs) := by
  have h : signs = (List.range 17).map fun j => (sgAt j).data.toList := by decide +kernel
  have e : ∀ s : ByteArray, s.toList = s.data.toList := fun s => ByteArray.toList_eq s
  simp only [e]
  conv => rhs; rw [h]
  rw [Bool.eq_iff_iff, List.any_eq_true, decide_eq_true_iff, List.mem_map]
  constructor
  · rintro ⟨j, hj, h2⟩
    exact ⟨j, hj, beq_iff_eq.1 h2⟩
  · rintro ⟨j, hj, h2⟩
    exact ⟨j, hj, beq_iff_eq.2 h2⟩
end Go.Proofs.YtmgbebpkkidooaaDoor
