/- The law TokenBack: tokens that are spelled are read again, just they. -/
import Derived.Test.YtmgbebpkkidooaaDoorTBare
import Derived.Test.YtmgbebpkkidooaaDoorTOpen
import Derived.Test.YtmgbebpkkidooaaDoorTLaid
namespace Go.Proofs.YtmgbebpkkidooaaDoor
open Go.RowKit Tok

theorem allG_le {ts : List Tg} (hf : ∀ t ∈ ts, Fit t) (ha : ts.all told = true) : ∀ t ∈ ts, told t = true ∧ t.num ≤ 9223372036854775807 :=
  fun t ht => ⟨List.all_eq_true.1 ha t ht, (hf t ht).2.2⟩

set_option maxRecDepth 20000 in
set_option maxHeartbeats 2000000 in
theorem tokenBack_walk (v : Value) (w : World) (h : ToksIn w v) (hE : ErrR w) (hS : SignsOK w) (hP : PowOK w.heap.size w) :
    Calls Tryd.prog 5 #[v] w fun e w' => e = .returned (.bool true) ∧ Below w.heap.size w w' := by
  obtain ⟨ts, hT, hf⟩ := h
  have hWk := Lib.hid (fun W (h : Below w.heap.size w W) => wakes_any W (hE.below h) (hS.below h))
  have kS := Lib.hid (Spell_any hT hf hS hP)
  have hT0 := Lib.hid hT
  obtain ⟨a0, cap0, rfl, hl1, hl2, _⟩ := hT
  rcases Nat.lt_or_ge 10000 ts.length with hlen | hlen
  · have hi : (10000 : Int) < (ts.length : Int) := by omega
    go_enter Tryd.func5, Tryd.ntmps5
    go_wp2_with fail
    refine (hWk.out _ (Below.refl _ _)).mono ?_
    rintro e w1 ⟨rfl, hb1⟩
    go_wp2
    go_ret
    exact ⟨rfl, hb1⟩
  · have hi : ¬ (10000 : Int) < (ts.length : Int) := by omega
    have kA := Lib.hid (fun (s : ByteArray) (hs : s.size ≤ 16384) W (h : Below w.heap.size w W) => All_any s W hs (hE.below h) (hS.below h))
    by_cases hall : ts.all told = true
    · rcases Nat.lt_or_ge 16384 (joinL ts).length with hj | hj
      · have hr : spellR ts = ([], 2) := by unfold spellR; rw [if_pos hall, if_pos hj]
        rw [hr] at kS
        unfold spellV at kS
        dsimp only at kS
        go_enter Tryd.func5, Tryd.ntmps5
        go_wp2_with fail
        refine kS.out.mono ?_
        rintro e w1 ⟨rfl, hb1⟩
        go_wp2_with fail
        refine (hWk.out _ hb1).mono ?_
        rintro e w2 ⟨rfl, hb2⟩
        go_wp2
        go_ret
        exact ⟨rfl, below_next hb1 hb2⟩
      · have hr : spellR ts = (joinL ts, 0) := by unfold spellR; rw [if_pos hall, if_neg (by omega)]
        rw [hr] at kS
        unfold spellV at kS
        dsimp only at kS
        obtain ⟨ks, hk1, hk2⟩ := join_back (allG_le hf hall) hj
        have hsz : (⟨(joinL ts).toArray⟩ : ByteArray).size = (joinL ts).length := by simp [ByteArray.size]
        have kA' := Lib.hid (fun W (h : Below w.heap.size w W) => kA.out ⟨(joinL ts).toArray⟩ (by rw [hsz]; exact hj) W h)
        have hks : ks.length = ts.length := by have := congrArg List.length hk2; simpa using this
        simp only [hk1] at kA'
        clear kA
        generalize joinL ts = L at *
        replace hk2 := Lib.hid hk2
        replace hks := Lib.hid hks
        clear hk1 hr hsz
        go_enter Tryd.func5, Tryd.ntmps5
        go_wp2_with fail
        refine kS.out.mono ?_
        rintro e w1 ⟨rfl, hb1⟩
        go_wp2_with fail
        refine (kA'.out _ hb1).mono ?_
        rintro e w2 ⟨v2, rfl, hK2, hb2⟩
        have hb3 := below_next hb1 hb2
        obtain ⟨a2, cap2, rfl, _, _⟩ := hK2.shape
        go_wp2_with fail
        refine (bare_any hK2.tkIn.tgIn (by rw [List.length_map, hks.out]; omega)).mono ?_
        rintro e w4 ⟨v4, rfl, hK4, hb4⟩
        rw [List.map_map, hk2.out] at hK4
        have hb5 := below_next hb3 hb4
        obtain ⟨a4, cap4, rfl, _, _, _⟩ := id hK4
        rw [List.length_map] at hK4
        replace hK4 := Lib.hid hK4
        go_wp2_with fail
        refine (bare_any (hT0.out.below hb5) (by omega)).mono ?_
        rintro e w6 ⟨v6, rfl, hK6, hb6⟩
        have hb7 := below_next hb5 hb6
        have hK8 := hK4.out.below hb6
        obtain ⟨a6, cap6, rfl, _, _, _⟩ := id hK6
        rw [List.length_map] at hK6
        replace hK6 := Lib.hid hK6
        replace hK8 := Lib.hid hK8
        go_wp2_with fail
        refine (alike_tg hK8.out hK6.out).mono ?_
        rintro e w8 ⟨rfl, hb8⟩
        have hb9 := below_next hb7 hb8
        go_wp2_with fail
        refine (hWk.out _ hb9).mono ?_
        rintro e wx ⟨rfl, hbx⟩
        go_wp2
        go_ret
        exact ⟨rfl, below_next hb9 hbx⟩
    · have hr : spellR ts = ([], 3) := by unfold spellR; rw [if_neg hall]
      rw [hr] at kS
      unfold spellV at kS
      dsimp only at kS
      go_enter Tryd.func5, Tryd.ntmps5
      go_wp2_with fail
      refine kS.out.mono ?_
      rintro e w1 ⟨rfl, hb1⟩
      go_wp2_with fail
      refine (hWk.out _ hb1).mono ?_
      rintro e w2 ⟨rfl, hb2⟩
      go_wp2
      go_ret
      exact ⟨rfl, below_next hb1 hb2⟩
end Go.Proofs.YtmgbebpkkidooaaDoor
