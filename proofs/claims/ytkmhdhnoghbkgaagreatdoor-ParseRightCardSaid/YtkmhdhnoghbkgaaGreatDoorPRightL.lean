/- The law ParseRight: what is read is a right tree, and it hangs on the tokens alone. -/
import Derived.Test.YtkmhdhnoghbkgaaGreatDoorPRightP
set_option linter.unusedVariables false
namespace Go.Proofs.YtkmhdhnoghbkgaaGreatDoor
open Go.RowKit Go.Shelf Tok

set_option maxRecDepth 20000 in
set_option maxHeartbeats 2000000 in
/-- Neither a flow nor an expression (of the source, as far as it is looked at). -/
theorem right_none (s : ByteArray) (w : World) (hs : s.size ≤ 140737488351232) (hE : ErrR w) (hS : SignsOK w) (hM : MakesOK w) (s' : ByteArray) (hs' : (20000 < s.size ∧ s' = s.extract 0 20000) ∨ (s.size ≤ 20000 ∧ s' = s))
    (h1 : (readR s'.data.toList .flow).2.2 ≠ 0) (h2 : (readR s'.data.toList .expr).2.2 ≠ 0) :
    Calls Tryz.prog 5 #[.string s] w fun e w' => e = .returned (.bool true) ∧ Below w.heap.size w w' := by
  have hml := hM.lt
  have hWk := Lib.hid (fun W (h : Below w.heap.size w W) => wakes9_any W (hE.below h) (hS.below h) (hM.below hml h))
  have hz : s'.size ≤ 140737488351232 := by
    rcases hs' with ⟨a, rfl⟩ | ⟨a, rfl⟩
    · simp; omega
    · exact hs
  have k1 := Flow_any s' w hz hE hS hM
  have k2 := fun W (h : Below w.heap.size w W) => Expr_any s' W hz (hE.below h) (hS.below h) (hM.below hml h)
  have e1 := readR_bad h1
  have e2 := readR_bad h2
  generalize readR s'.data.toList .flow = R1 at *
  generalize readR s'.data.toList .expr = R2 at *
  obtain ⟨t1, a1, c1⟩ := R1
  obtain ⟨t2, a2, c2⟩ := R2
  dsimp only at h1 h2 e1 e2
  subst e1 e2
  have n1 : (c1 == 0) = false := beq_eq_false_iff_ne.2 h1
  have n2 : (c2 == 0) = false := beq_eq_false_iff_ne.2 h2
  replace k1 := Lib.hid k1
  replace k2 := Lib.hid k2
  clear hE hS hM h1 h2
  rcases hs' with ⟨hlen, rfl⟩ | ⟨hlen, rfl⟩
  · have hi : (20000 : Int) < (s.size : Int) := by omega
    go_enter Tryz.func5, Tryz.ntmps5
    go_wp2_with fail
    refine k1.out.mono ?_
    rintro e' w1 ⟨v1, rfl, hv1, hb1⟩
    obtain ⟨x1, y1, rfl, _, _⟩ := hv1.shape
    go_wp2_with fail
    refine (k2.out _ hb1).mono ?_
    rintro e' w2 ⟨v2, rfl, hv2, hb2⟩
    obtain ⟨x2, y2, rfl, _, _⟩ := hv2.shape
    have hb3 := below_next hb1 hb2
    go_wp2_with fail
    refine (hWk.out _ hb3).mono ?_
    rintro e' w4 ⟨rfl, hb4⟩
    go_wp2_with fail
    go_ret
    exact ⟨rfl, below_next hb3 hb4⟩
  · have hi : ¬ (20000 : Int) < (s'.size : Int) := by omega
    go_enter Tryz.func5, Tryz.ntmps5
    go_wp2_with fail
    refine k1.out.mono ?_
    rintro e' w1 ⟨v1, rfl, hv1, hb1⟩
    obtain ⟨x1, y1, rfl, _, _⟩ := hv1.shape
    go_wp2_with fail
    refine (k2.out _ hb1).mono ?_
    rintro e' w2 ⟨v2, rfl, hv2, hb2⟩
    obtain ⟨x2, y2, rfl, _, _⟩ := hv2.shape
    have hb3 := below_next hb1 hb2
    go_wp2_with fail
    refine (hWk.out _ hb3).mono ?_
    rintro e' w4 ⟨rfl, hb4⟩
    go_wp2_with fail
    go_ret
    exact ⟨rfl, below_next hb3 hb4⟩
set_option maxRecDepth 20000 in
set_option maxHeartbeats 1000000 in
/-- No flow, but an expression. -/
theorem right_expr (s : ByteArray) (w : World) (hs : s.size ≤ 140737488351232) (hE : ErrR w) (hS : SignsOK w) (hM : MakesOK w) (hlen : s.size ≤ 20000)
    (h1 : (readR s.data.toList .flow).2.2 ≠ 0) (h2 : (readR s.data.toList .expr).2.2 = 0) :
    Calls Tryz.prog 5 #[.string s] w fun e w' => e = .returned (.bool true) ∧ Below w.heap.size w w' := by
  have hml := hM.lt
  have hWk := Lib.hid (fun W (h : Below w.heap.size w W) => wakes9_any W (hE.below h) (hS.below h) (hM.below hml h))
  have k1 := Flow_any s w hs hE hS hM
  have k2 := fun W (h : Below w.heap.size w W) => Expr_any s W hs (hE.below h) (hS.below h) (hM.below hml h)
  have e1 := readR_bad h1
  obtain ⟨ks, c, hT, hg, hf, hr⟩ := readR_ok (q := .expr) trivial h2
  obtain ⟨x, r, hx, hxo⟩ := expr_first (fun t ht => ((allT_good hT t ht).1.2.2)) hg
  have kC := Lib.hid (fun (v : Value) (W : World) (hI : TwIn W v c.ts) => Check_any W hI (fit_of (q := .expr) hT ⟨trivial, trivial⟩ hg))
  have kX := Lib.hid (Expression_any x.op)
  rw [hxo] at kX
  clear hxo
  rw [hr] at k2
  rw [hf] at kC
  generalize readR s.data.toList .flow = R1 at *
  obtain ⟨t1, a1, c1⟩ := R1
  dsimp only at h1 e1
  subst e1
  have n1 : (c1 == 0) = false := beq_eq_false_iff_ne.2 h1
  replace k1 := Lib.hid k1
  replace k2 := Lib.hid k2
  clear hE hS hM h1 h2 hr hT hg hf
  generalize (lookF c.ts).1 = la at *
  have hl0 : 0 < c.ts.length := by rw [hx]; simp
  replace hx := Lib.hid hx
  have hl1 : (0 : Int) < (c.ts.length : Int) := by omega
  have hi : ¬ (20000 : Int) < (s.size : Int) := by omega
  go_enter Tryz.func5, Tryz.ntmps5
  go_wp2_with fail
  refine k1.out.mono ?_
  rintro e' w1 ⟨v1, rfl, hv1, hb1⟩
  obtain ⟨x1, y1, rfl, _, _⟩ := hv1.shape
  go_wp2_with fail
  refine (k2.out _ hb1).mono ?_
  rintro e' w2 ⟨v2, rfl, hv2, hb2⟩
  have hI := hv2.twIn
  obtain ⟨g, cap, rfl, hc, hcm, _, hgl, hcell⟩ := tws_cells hv2 hl0
  have y0 : w2.cell? ⟨g, 0, none⟩ = some (.int .u8 (x.op : Int)) := by
    have := hcell 0 hl0 0 (by decide)
    simp only [hx.out, List.getElem_cons_zero] at this
    exact this
  have hb3 := below_next hb1 hb2
  clear hv1 hv2 hcell
  go_wp2_with fail
  refine (kC.out _ _ hI).mono ?_
  rintro e' w3 ⟨rfl, hb4⟩
  have y3 := (hb4.cell (p := ⟨g, 0, none⟩) hgl).trans y0
  have hb5 := below_next hb3 hb4
  clear hI y0 hb4 hb3 hb2 hb1
  go_wp2_with fail
  refine (kX.out _).mono ?_
  rintro e' w4 ⟨rfl, rfl⟩
  go_wp2_with fail
  refine (hWk.out _ hb5).mono ?_
  rintro e' w4 ⟨rfl, hb6⟩
  go_wp2_with fail
  go_ret
  exact ⟨rfl, below_next hb5 hb6⟩
set_option maxRecDepth 20000 in
set_option maxHeartbeats 1000000 in
/-- A flow, whose tokens' spelling is too long. -/
theorem right_long (s : ByteArray) (w : World) (hs : s.size ≤ 140737488351232) (hE : ErrR w) (hS : SignsOK w) (hM : MakesOK w) (hP : PowOK w.heap.size w) (hlen : s.size ≤ 20000)
    {ks : List Tk} {c : Ch} (hT : allT s.data.toList = ⟨ks, 0, 0⟩) (hg : gP ks (fuelP ks .flow) .flow 0 = .ok c ks.length) (hf : (lookF c.ts).2.2 = 0) (hr : readR s.data.toList .flow = (c.ts, 0, 0)) (hj : 16384 < (joinL (ks.map toG)).length) :
    Calls Tryz.prog 5 #[.string s] w fun e w' => e = .returned (.bool true) ∧ Below w.heap.size w w' := by
  have hml := hM.lt
  have hWk := Lib.hid (fun W (h : Below w.heap.size w W) => wakes9_any W (hE.below h) (hS.below h) (hM.below hml h))
  have k1 := Flow_any s w hs hE hS hM
  obtain ⟨x, r, hx, hxo⟩ := flow_first hg
  replace hxo := Lib.hid hxo
  have kC := Lib.hid (fun (v : Value) (W : World) (hI : TwIn W v c.ts) => Check_any W hI (fit_of (q := .flow) hT ⟨trivial, trivial⟩ hg))
  have kA := fun W (h : Below w.heap.size w W) => All_every s W hs (hE.below h) (hS.below h)
  have kS := fun (v : Value) (W : World) (h : Below w.heap.size w W) (hI : TgIn W v (ks.map toG)) => Spell_any hI (fit_all hT) (hS.below h) (fun w' h' => hP w' (below_next h h'))
  have hsp : spellR (ks.map toG) = ([], 2) := by unfold spellR; rw [if_pos (told_all hT), if_pos hj]
  rw [hsp] at kS
  unfold spellV at kS
  unfold AllPost at kA
  rw [hT] at kA
  rw [hr] at k1
  rw [hf] at kC
  dsimp only at kA kS
  replace k1 := Lib.hid k1
  replace kA := Lib.hid kA
  replace kS := Lib.hid kS
  clear hE hS hM hr hT hg hf hP hj hsp
  generalize (lookF c.ts).1 = la at *
  have hl0 : 0 < c.ts.length := by rw [hx]; simp
  replace hx := Lib.hid hx
  have hl1 : (0 : Int) < (c.ts.length : Int) := by omega
  have hl2 : ((c.ts.length : Int) == 0) = false := beq_eq_false_iff_ne.2 (by omega)
  have hi : ¬ (20000 : Int) < (s.size : Int) := by omega
  go_enter Tryz.func5, Tryz.ntmps5
  go_wp2_with fail
  refine k1.out.mono ?_
  rintro e' w1 ⟨v1, rfl, hv1, hb1⟩
  have hI := hv1.twIn
  obtain ⟨g, cap, rfl, hc, hcm, _, hgl, hcell⟩ := tws_cells hv1 hl0
  have y0 : w1.cell? ⟨g, 0, none⟩ = some (.int .u8 1) := by
    have := hcell 0 hl0 0 (by decide)
    simp only [hx.out, List.getElem_cons_zero] at this
    rw [this]
    show some (Value.int .u8 (x.op : Int)) = _
    rw [hxo.out]
    rfl
  clear hv1 hcell
  go_wp2_with fail
  refine (kC.out _ _ hI).mono ?_
  rintro e' w3 ⟨rfl, hb4⟩
  have y3 := (hb4.cell (p := ⟨g, 0, none⟩) hgl).trans y0
  have hb5 := below_next hb1 hb4
  clear hI y0 hb4 hb1
  go_wp2_with fail
  refine (kA.out _ hb5).mono ?_
  rintro e' w6 ⟨v6, rfl, hv6, hb6⟩
  obtain ⟨z1, z2, rfl, _, _⟩ := id hv6.shape
  have hb7 := below_next hb5 hb6
  go_wp2_with fail
  refine (kS.out _ _ hb7 (tgIn_of hv6.tkIn)).mono ?_
  rintro e' w8 ⟨rfl, hb8⟩
  have hb9 := below_next hb7 hb8
  clear hv6 hb5 hb6 hb7 hb8 y3
  go_wp2_with fail
  refine (hWk.out _ hb9).mono ?_
  rintro e' w4 ⟨rfl, hb10⟩
  go_wp2_with fail
  go_ret
  exact ⟨rfl, below_next hb9 hb10⟩
set_option maxRecDepth 20000 in
set_option maxHeartbeats 1000000 in
/-- A flow, which is read again of its tokens' spelling. -/
theorem right_again (s : ByteArray) (w : World) (hs : s.size ≤ 140737488351232) (hE : ErrR w) (hS : SignsOK w) (hM : MakesOK w) (hP : PowOK w.heap.size w) (hlen : s.size ≤ 20000)
    {ks : List Tk} {c : Ch} (hT : allT s.data.toList = ⟨ks, 0, 0⟩) (hg : gP ks (fuelP ks .flow) .flow 0 = .ok c ks.length) (hf : (lookF c.ts).2.2 = 0) (hr : readR s.data.toList .flow = (c.ts, 0, 0)) (hj : (joinL (ks.map toG)).length ≤ 16384) :
    Calls Tryz.prog 5 #[.string s] w fun e w' => e = .returned (.bool true) ∧ Below w.heap.size w w' := by
  have hml := hM.lt
  have hWk := Lib.hid (fun W (h : Below w.heap.size w W) => wakes9_any W (hE.below h) (hS.below h) (hM.below hml h))
  have k1 := Flow_any s w hs hE hS hM
  obtain ⟨x, r, hx, hxo⟩ := flow_first hg
  replace hxo := Lib.hid hxo
  have kC := Lib.hid (fun (v : Value) (W : World) (hI : TwIn W v c.ts) => Check_any W hI (fit_of (q := .flow) hT ⟨trivial, trivial⟩ hg))
  have kA := fun W (h : Below w.heap.size w W) => All_every s W hs (hE.below h) (hS.below h)
  have kS := fun (v : Value) (W : World) (h : Below w.heap.size w W) (hI : TgIn W v (ks.map toG)) => Spell_any hI (fit_all hT) (hS.below h) (fun w' h' => hP w' (below_next h h'))
  have hsp : spellR (ks.map toG) = (joinL (ks.map toG), 0) := by unfold spellR; rw [if_pos (told_all hT), if_neg (by omega)]
  have kF := fun W (h : Below w.heap.size w W) => Flow_any ⟨(joinL (ks.map toG)).toArray⟩ W (by simp [ByteArray.size]; omega) (hE.below h) (hS.below h) (hM.below hml h)
  have hag := readR_again hT hg hf hj
  have hjl : (⟨(joinL (ks.map toG)).toArray⟩ : ByteArray).data.toList = joinL (ks.map toG) := by simp
  rw [hjl, hag] at kF
  rw [hsp] at kS
  unfold spellV at kS
  unfold AllPost at kA
  rw [hT] at kA
  rw [hr] at k1
  rw [hf] at kC
  dsimp only at kA kS
  replace k1 := Lib.hid k1
  replace kA := Lib.hid kA
  replace kS := Lib.hid kS
  replace kF := Lib.hid kF
  clear hE hS hM hr hT hg hf hP hsp hag hjl
  generalize (lookF c.ts).1 = la at *
  have hl0 : 0 < c.ts.length := by rw [hx]; simp
  replace hx := Lib.hid hx
  have hl1 : (0 : Int) < (c.ts.length : Int) := by omega
  have hl2 : ((c.ts.length : Int) == 0) = false := beq_eq_false_iff_ne.2 (by omega)
  have hi : ¬ (20000 : Int) < (s.size : Int) := by omega
  go_enter Tryz.func5, Tryz.ntmps5
  go_wp2_with fail
  refine k1.out.mono ?_
  rintro e' w1 ⟨v1, rfl, hv1, hb1⟩
  have hI := hv1.twIn
  obtain ⟨g, cap, rfl, hc, hcm, _, hgl, hcell⟩ := tws_cells hv1 hl0
  have y0 : w1.cell? ⟨g, 0, none⟩ = some (.int .u8 1) := by
    have := hcell 0 hl0 0 (by decide)
    simp only [hx.out, List.getElem_cons_zero] at this
    rw [this]
    show some (Value.int .u8 (x.op : Int)) = _
    rw [hxo.out]
    rfl
  clear hv1 hcell
  go_wp2_with fail
  refine (kC.out _ _ hI).mono ?_
  rintro e' w3 ⟨rfl, hb4⟩
  have y3 := (hb4.cell (p := ⟨g, 0, none⟩) hgl).trans y0
  have hI3 := hI.below hb4
  have hb5 := below_next hb1 hb4
  clear hI y0 hb4 hb1
  go_wp2_with fail
  refine (kA.out _ hb5).mono ?_
  rintro e' w6 ⟨v6, rfl, hv6, hb6⟩
  obtain ⟨z1, z2, rfl, _, _⟩ := id hv6.shape
  have hb7 := below_next hb5 hb6
  have hI6 := hI3.below hb6
  go_wp2_with fail
  refine (kS.out _ _ hb7 (tgIn_of hv6.tkIn)).mono ?_
  rintro e' w8 ⟨rfl, hb8⟩
  have hb9 := below_next hb7 hb8
  have hI8 := hI6.below hb8
  clear hv6 hb5 hb6 hb7 hb8 y3 hI3 hI6
  go_wp2_with fail
  refine (kF.out _ hb9).mono ?_
  rintro e' w10 ⟨v10, rfl, hv10, hb10⟩
  have hb11 := below_next hb9 hb10
  have hI10 := hI8.below hb10
  obtain ⟨u1, u2, rfl, _, _⟩ := id hv10.shape
  go_wp2_with fail
  refine (alike_tw hI10 hv10.twIn).mono ?_
  rintro e' w12 ⟨rfl, hb12⟩
  have hb13 := below_next hb11 hb12
  go_wp2_with fail
  refine (hWk.out _ hb13).mono ?_
  rintro e' w14 ⟨rfl, hb14⟩
  go_wp2_with fail
  go_ret
  exact ⟨rfl, below_next hb13 hb14⟩
theorem parseRight_walk (s : ByteArray) (w : World) (hs : s.size ≤ 140737488351232) (hE : ErrR w) (hS : SignsOK w) (hM : MakesOK w) (hP : PowOK w.heap.size w) :
    Calls Tryz.prog 5 #[.string s] w fun e w' => e = .returned (.bool true) ∧ Below w.heap.size w w' := by
  rcases Nat.lt_or_ge 20000 s.size with hlen | hlen
  · have hl : (s.extract 0 20000).data.toList.length = 20000 := by
      rw [size_list]; simp; omega
    exact right_none s w hs hE hS hM _ (.inl ⟨hlen, rfl⟩) (readR_long (by omega) _) (readR_long (by omega) _)
  · by_cases h1 : (readR s.data.toList .flow).2.2 = 0
    · obtain ⟨ks, c, hT, hg, hf, hr⟩ := readR_ok (q := .flow) trivial h1
      rcases Nat.lt_or_ge 16384 (joinL (ks.map toG)).length with hj | hj
      · exact right_long s w hs hE hS hM hP hlen hT hg hf hr hj
      · exact right_again s w hs hE hS hM hP hlen hT hg hf hr hj
    · by_cases h2 : (readR s.data.toList .expr).2.2 = 0
      · exact right_expr s w hs hE hS hM hlen h1 h2
      · exact right_none s w hs hE hS hM _ (.inr ⟨hlen, rfl⟩) h1 h2
end Go.Proofs.YtkmhdhnoghbkgaaGreatDoor
