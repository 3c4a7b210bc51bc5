/- The law ParseGoesOn: a source whose first fault lies at its end goes on; cut off ahead of its fault it goes wrong no earlier than in the token that was cut. -/
import Derived.Test.YtkmhdhnoghbkgaaGreatDoorPGoesP
set_option linter.unusedVariables false
namespace Go.Proofs.YtkmhdhnoghbkgaaGreatDoor
open Go.RowKit Go.Shelf Tok

theorem take_list (s : ByteArray) (d : Nat) : (s.extract 0 d).data.toList = s.data.toList.take d := list_take s d
set_option maxRecDepth 20000 in
set_option maxHeartbeats 2000000 in
/-- A source of at most 20000 bytes, cut within it. -/
theorem goes_cut (s : ByteArray) (d : Nat) (w : World) (hs : s.size ≤ 20000) (hd : d < s.size) (hE : ErrR w) (hS : SignsOK w) (hM : MakesOK w) :
    Calls Tryz.prog 6 #[.string s, .int .i64 (d : Int)] w fun e w' => e = .returned (.bool true) ∧ Below w.heap.size w w' := by
  have hml := hM.lt
  have hWk := Lib.hid (fun W (h : Below w.heap.size w W) => wakes9_any W (hE.below h) (hS.below h) (hM.below hml h))
  have hz : s.size ≤ 140737488351232 := by omega
  have k1 := Flow_any s w hz hE hS hM
  have k2 := fun (W : World) (h : Below w.heap.size w W) => Flow_any (s.extract 0 d) W (by simp; omega) (hE.below h) (hS.below h) (hM.below hml h)
  have kA := fun W (h : Below w.heap.size w W) => All_every s W hz (hE.below h) (hS.below h)
  obtain ⟨p1, p2, p3⟩ := readR_place s.data.toList .flow
  rw [size_list s] at p2 p3
  obtain ⟨q1, q2, q3⟩ := readR_place (s.data.toList.take d) .flow
  have hl : (s.data.toList.take d).length = d := by rw [List.length_take, size_list]; omega
  rw [hl] at q2
  have hgo : ∀ ks : List Tk, allT s.data.toList = ⟨ks, 0, 0⟩ → (readR s.data.toList .flow).2.2 = 9 → (d : Int) ≤ (readR s.data.toList .flow).2.1 → (readR (s.data.toList.take d) .flow).2.2 = 9 → (d : Int) - 24 ≤ (readR (s.data.toList.take d) .flow).2.1 :=
    fun ks hT h1 h2 h3 => readR_goes hT h1 h2 h3
  rw [take_list] at k2
  unfold AllPost at kA
  obtain ⟨⟨ks, ta, tc⟩, hT⟩ : ∃ T, allT s.data.toList = T := ⟨_, rfl⟩
  have hta : tc = 0 → ta = 0 := fun h => by subst h; exact (Cut.allT_few hT).2
  rw [hT] at kA hgo
  clear hT q3 hE hS hM hl
  generalize readR s.data.toList .flow = R1 at *
  generalize readR (s.data.toList.take d) .flow = R2 at *
  obtain ⟨t1, a1, c1⟩ := R1
  obtain ⟨t2, a2, c2⟩ := R2
  dsimp only at *
  have hfin : (tc = 0 ∧ c1 = 9 ∧ (d : Int) ≤ a1 ∧ c2 = 9 ∧ (d : Int) - 24 ≤ a2) ∨ tc ≠ 0 ∨ (tc = 0 ∧ c1 ≠ 9) ∨ (tc = 0 ∧ c1 = 9 ∧ ¬ (d : Int) ≤ a1) ∨ (tc = 0 ∧ c1 = 9 ∧ (d : Int) ≤ a1 ∧ c2 ≠ 9) := by
    by_cases x1 : tc = 0
    · by_cases x2 : c1 = 9
      · by_cases x3 : (d : Int) ≤ a1
        · by_cases x4 : c2 = 9
          · exact .inl ⟨x1, x2, x3, x4, hgo ks (by rw [x1, hta x1]) x2 x3 x4⟩
          · exact .inr (.inr (.inr (.inr ⟨x1, x2, x3, x4⟩)))
        · exact .inr (.inr (.inr (.inl ⟨x1, x2, x3⟩)))
      · exact .inr (.inr (.inl ⟨x1, x2⟩))
    · exact .inr (.inl x1)
  replace k1 := Lib.hid k1
  replace k2 := Lib.hid k2
  replace kA := Lib.hid kA
  have hi : ¬ (20000 : Int) < (s.size : Int) := by omega
  have g1 : ¬ a1 < 0 := by omega
  have g2 : ¬ (s.size : Int) < a1 := by omega
  have g3 : c1 = 4 ∨ (c1 == 4) = false := by
    by_cases h : c1 = 4
    · exact .inl h
    · exact .inr (beq_eq_false_iff_ne.2 h)
  have g4 : c1 = 4 → (a1 != (s.size : Int)) = false := fun h => by rw [p3 h]; simp
  have g5 : ¬ (d : Int) < 0 := by omega
  have g6 : ¬ (s.size : Int) ≤ (d : Int) := by omega
  clear hgo hta p3
  replace g4 := Lib.hid g4
  rcases g3 with rfl | g3
  · have g8 := g4.out rfl
    clear g4
    go_enter Tryz.func6, Tryz.ntmps6
    go_wp2_with fail
    refine k1.out.mono ?_
    rintro e' w1 ⟨v1, rfl, hv1, hb1⟩
    obtain ⟨x1, y1, rfl, _, _⟩ := hv1.shape
    go_wp2_with fail
    refine (k2.out _ hb1).mono ?_
    rintro e' w2 ⟨v2, rfl, hv2, hb2⟩
    obtain ⟨x2, y2, rfl, _, _⟩ := hv2.shape
    have hb3 := below_next hb1 hb2
    go_wp2_with fail
    refine (kA.out _ hb3).mono ?_
    rintro e' w4 ⟨v4, rfl, hv4, hb4⟩
    obtain ⟨x4, y4, rfl, _, _⟩ := hv4.shape
    have hb5 := below_next hb3 hb4
    clear hv1 hv2 hv4 k1 k2 kA hb1 hb2 hb3 hb4
    rcases hfin with ⟨_, h, _⟩ | h | ⟨h, _⟩ | ⟨_, h, _⟩ | ⟨_, h, _⟩
    · omega
    · have h1 : ((tc : Int) == 0) = false := beq_eq_false_iff_ne.2 (by omega)
      go_wp2_with fail
      refine (hWk.out _ hb5).mono ?_
      rintro e' w6 ⟨rfl, hb6⟩
      go_wp2_with fail
      go_ret
      exact ⟨rfl, below_next hb5 hb6⟩
    · subst h
      go_wp2_with fail
      refine (hWk.out _ hb5).mono ?_
      rintro e' w6 ⟨rfl, hb6⟩
      go_wp2_with fail
      go_ret
      exact ⟨rfl, below_next hb5 hb6⟩
    · omega
    · omega
  · clear g4
    go_enter Tryz.func6, Tryz.ntmps6
    go_wp2_with fail
    refine k1.out.mono ?_
    rintro e' w1 ⟨v1, rfl, hv1, hb1⟩
    obtain ⟨x1, y1, rfl, _, _⟩ := hv1.shape
    go_wp2_with fail
    refine (k2.out _ hb1).mono ?_
    rintro e' w2 ⟨v2, rfl, hv2, hb2⟩
    obtain ⟨x2, y2, rfl, _, _⟩ := hv2.shape
    have hb3 := below_next hb1 hb2
    go_wp2_with fail
    refine (kA.out _ hb3).mono ?_
    rintro e' w4 ⟨v4, rfl, hv4, hb4⟩
    obtain ⟨x4, y4, rfl, _, _⟩ := hv4.shape
    have hb5 := below_next hb3 hb4
    clear hv1 hv2 hv4 k1 k2 kA hb1 hb2 hb3 hb4
    rcases hfin with ⟨rfl, rfl, h3, rfl, h5⟩ | h | ⟨rfl, h⟩ | ⟨rfl, rfl, h⟩ | ⟨rfl, rfl, h3, h⟩
    · go_wp2_with fail
      refine (hWk.out _ hb5).mono ?_
      rintro e' w6 ⟨rfl, hb6⟩
      go_wp2_with fail
      go_ret
      exact ⟨rfl, below_next hb5 hb6⟩
    · have h1 : ((tc : Int) == 0) = false := beq_eq_false_iff_ne.2 (by omega)
      go_wp2_with fail
      refine (hWk.out _ hb5).mono ?_
      rintro e' w6 ⟨rfl, hb6⟩
      go_wp2_with fail
      go_ret
      exact ⟨rfl, below_next hb5 hb6⟩
    · have h1 : (c1 == 9) = false := beq_eq_false_iff_ne.2 h
      go_wp2_with fail
      refine (hWk.out _ hb5).mono ?_
      rintro e' w6 ⟨rfl, hb6⟩
      go_wp2_with fail
      go_ret
      exact ⟨rfl, below_next hb5 hb6⟩
    · go_wp2_with fail
      refine (hWk.out _ hb5).mono ?_
      rintro e' w6 ⟨rfl, hb6⟩
      go_wp2_with fail
      go_ret
      exact ⟨rfl, below_next hb5 hb6⟩
    · have h1 : (c2 == 9) = false := beq_eq_false_iff_ne.2 h
      go_wp2_with fail
      refine (hWk.out _ hb5).mono ?_
      rintro e' w6 ⟨rfl, hb6⟩
      go_wp2_with fail
      go_ret
      exact ⟨rfl, below_next hb5 hb6⟩
set_option maxRecDepth 20000 in
set_option maxHeartbeats 1000000 in
/-- A source of at most 20000 bytes, cut nowhere within it. -/
theorem goes_out (s : ByteArray) (cut : Int) (w : World) (hs : s.size ≤ 20000) (hc : cut < 0 ∨ (¬ cut < 0 ∧ (s.size : Int) ≤ cut)) (hE : ErrR w) (hS : SignsOK w) (hM : MakesOK w) :
    Calls Tryz.prog 6 #[.string s, .int .i64 cut] w fun e w' => e = .returned (.bool true) ∧ Below w.heap.size w w' := by
  have hml := hM.lt
  have hWk := Lib.hid (fun W (h : Below w.heap.size w W) => wakes9_any W (hE.below h) (hS.below h) (hM.below hml h))
  have hz : s.size ≤ 140737488351232 := by omega
  have k1 := Flow_any s w hz hE hS hM
  obtain ⟨p1, p2, p3⟩ := readR_place s.data.toList .flow
  rw [size_list s] at p2 p3
  clear hE hS hM
  generalize readR s.data.toList .flow = R1 at *
  obtain ⟨t1, a1, c1⟩ := R1
  dsimp only at *
  replace k1 := Lib.hid k1
  have hi : ¬ (20000 : Int) < (s.size : Int) := by omega
  have g1 : ¬ a1 < 0 := by omega
  have g2 : ¬ (s.size : Int) < a1 := by omega
  have g3 : c1 = 4 ∨ (c1 == 4) = false := by
    by_cases h : c1 = 4
    · exact .inl h
    · exact .inr (beq_eq_false_iff_ne.2 h)
  have g4 : c1 = 4 → (a1 != (s.size : Int)) = false := fun h => by rw [p3 h]; simp
  clear p3
  replace g4 := Lib.hid g4
  rcases g3 with rfl | g3 <;> rcases hc with hc | ⟨hc, hc2⟩
  all_goals
    first
      | have g8 := g4.out rfl
      | skip
    clear g4
    go_enter Tryz.func6, Tryz.ntmps6
    go_wp2_with fail
    refine k1.out.mono ?_
    rintro e' w1 ⟨v1, rfl, hv1, hb5⟩
    obtain ⟨x1, y1, rfl, _, _⟩ := hv1.shape
    clear hv1 k1
    go_wp2_with fail
    refine (hWk.out _ hb5).mono ?_
    rintro e' w6 ⟨rfl, hb6⟩
    go_wp2_with fail
    go_ret
    exact ⟨rfl, below_next hb5 hb6⟩
theorem readR_big {l : List UInt8} (h : 16384 < l.length) (q : NT) : readR l q = ([], 0, 2) := by
  unfold readR
  have hT : allT l = ⟨[], 0, 2⟩ := if_pos h
  rw [hT]
  rfl
set_option maxRecDepth 20000 in
set_option maxHeartbeats 1000000 in
/-- A longer source. -/
theorem goes_big (s : ByteArray) (cut : Int) (w : World) (hs : s.size ≤ 140737488351232) (hlen : 20000 < s.size) (hc : cut < 0 ∨ (¬ cut < 0 ∧ (20000 : Int) ≤ cut) ∨ (¬ cut < 0 ∧ ¬ (20000 : Int) ≤ cut)) (hE : ErrR w) (hS : SignsOK w) (hM : MakesOK w) :
    Calls Tryz.prog 6 #[.string s, .int .i64 cut] w fun e w' => e = .returned (.bool true) ∧ Below w.heap.size w w' := by
  have hml := hM.lt
  have hWk := Lib.hid (fun W (h : Below w.heap.size w W) => wakes9_any W (hE.below h) (hS.below h) (hM.below hml h))
  obtain ⟨u, hu⟩ : ∃ u, s.extract 0 20000 = u := ⟨_, rfl⟩
  have hz : u.size = 20000 := by rw [← hu]; simp; omega
  have hul : u.data.toList.length = 20000 := by rw [size_list, hz]
  have k1 := Flow_any u w (by omega) hE hS hM
  rw [readR_big (by omega)] at k1
  have hi : (20000 : Int) < (s.size : Int) := by omega
  have k2 := fun (d : Nat) (W : World) (h : Below w.heap.size w W) => Flow_any (u.extract 0 d) W (by simp; omega) (hE.below h) (hS.below h) (hM.below hml h)
  have kA := fun W (h : Below w.heap.size w W) => All_every u W (by omega) (hE.below h) (hS.below h)
  unfold AllPost at kA
  rw [show allT u.data.toList = ⟨[], 0, 2⟩ from if_pos (by omega)] at kA
  have hpl := fun d : Nat => readR_place (u.data.toList.take d) .flow
  replace hpl := Lib.hid hpl
  replace k1 := Lib.hid k1
  replace k2 := Lib.hid k2
  replace kA := Lib.hid kA
  clear hE hS hM
  have hu0 : ¬ (u.size : Int) < 0 := by omega
  have hc' : cut < 0 ∨ (¬ cut < 0 ∧ (u.size : Int) ≤ cut) ∨ (¬ cut < 0 ∧ ¬ (u.size : Int) ≤ cut ∧ cut.toNat < u.size) := by rw [hz]; omega
  clear hc hlen
  replace hz := Lib.hid hz
  rcases hc' with hc | ⟨hc, hc2⟩ | ⟨hc, hc2, hc3⟩
  · go_enter Tryz.func6, Tryz.ntmps6
    go_wp2_with fail
    refine k1.out.mono ?_
    rintro e' w1 ⟨v1, rfl, hv1, hb5⟩
    obtain ⟨x1, y1, rfl, _, _⟩ := hv1.shape
    clear hv1 k1 k2 kA
    go_wp2_with fail
    refine (hWk.out _ hb5).mono ?_
    rintro e' w6 ⟨rfl, hb6⟩
    go_wp2_with fail
    go_ret
    exact ⟨rfl, below_next hb5 hb6⟩
  · go_enter Tryz.func6, Tryz.ntmps6
    go_wp2_with fail
    refine k1.out.mono ?_
    rintro e' w1 ⟨v1, rfl, hv1, hb5⟩
    obtain ⟨x1, y1, rfl, _, _⟩ := hv1.shape
    clear hv1 k1 k2 kA
    go_wp2_with fail
    refine (hWk.out _ hb5).mono ?_
    rintro e' w6 ⟨rfl, hb6⟩
    go_wp2_with fail
    go_ret
    exact ⟨rfl, below_next hb5 hb6⟩
  · obtain ⟨d, rfl⟩ : ∃ d : Nat, cut = (d : Int) := ⟨cut.toNat, by omega⟩
    obtain ⟨q1, q2, q3⟩ := hpl.out d
    rw [Int.toNat_natCast] at hc3
    have hl : (u.data.toList.take d).length = d := by rw [List.length_take, size_list]; omega
    rw [hl] at q2
    have k3 := k2.out d
    rw [take_list] at k3
    clear q3 k2 hl
    generalize readR (u.data.toList.take d) .flow = R2 at *
    obtain ⟨t2, a2, c2⟩ := R2
    dsimp only at q1 q2
    replace k3 := Lib.hid k3
    clear hul
    go_enter Tryz.func6, Tryz.ntmps6
    go_wp2_with fail
    refine k1.out.mono ?_
    rintro e' w1 ⟨v1, rfl, hv1, hb1⟩
    obtain ⟨x1, y1, rfl, _, _⟩ := hv1.shape
    go_wp2_with fail
    refine (k3.out _ hb1).mono ?_
    rintro e' w2 ⟨v2, rfl, hv2, hb2⟩
    obtain ⟨x2, y2, rfl, _, _⟩ := hv2.shape
    have hb3 := below_next hb1 hb2
    go_wp2_with fail
    refine (kA.out _ hb3).mono ?_
    rintro e' w4 ⟨v4, rfl, hv4, hb4⟩
    obtain ⟨x4, y4, rfl, _, _⟩ := hv4.shape
    have hb5 := below_next hb3 hb4
    clear hv1 hv2 hv4 k1 k3 kA hb1 hb2 hb3 hb4
    go_wp2_with fail
    refine (hWk.out _ hb5).mono ?_
    rintro e' w6 ⟨rfl, hb6⟩
    go_wp2_with fail
    go_ret
    exact ⟨rfl, below_next hb5 hb6⟩
theorem parseGoesOn_walk (s : ByteArray) (cut : Int) (w : World) (hs : s.size ≤ 140737488351232) (hc : I64 cut) (hE : ErrR w) (hS : SignsOK w) (hM : MakesOK w) :
    Calls Tryz.prog 6 #[.string s, .int .i64 cut] w fun e w' => e = .returned (.bool true) ∧ Below w.heap.size w w' := by
  unfold I64 at hc
  rcases Nat.lt_or_ge 20000 s.size with hlen | hlen
  · exact goes_big s cut w hs hlen (by omega) hE hS hM
  · by_cases h : cut < 0 ∨ (¬ cut < 0 ∧ (s.size : Int) ≤ cut)
    · exact goes_out s cut w hlen h hE hS hM
    · obtain ⟨d, rfl⟩ : ∃ d : Nat, cut = (d : Int) := ⟨cut.toNat, by omega⟩
      exact goes_cut s d w hlen (by omega) hE hS hM
end Go.Proofs.YtkmhdhnoghbkgaaGreatDoor
