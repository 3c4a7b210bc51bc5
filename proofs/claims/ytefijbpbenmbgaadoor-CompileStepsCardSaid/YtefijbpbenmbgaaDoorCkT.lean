/- check's scope (layer 11): slot, walked. No condition. -/
import Derived.Test.YtefijbpbenmbgaaDoorCkH
namespace Go.Proofs.YtefijbpbenmbgaaDoor
open Go.RowKit Go.Shelf

theorem ScV.made' {w : World} {base gs b : Nat} {v : Value} {L : List (List UInt8 × Nat)} {made : Nat} (h : ScV w base gs b v L made) (m : Nat) : ScV (w.setCell ⟨gs, 2, none⟩ (.int .i64 m)) base gs b v L m ∧ Only (Fsc base w) w (w.setCell ⟨gs, 2, none⟩ (.int .i64 m)) := by
  have hsT := scOnly w gs 2 (.int .i64 m)
  refine ⟨⟨?_, h.m.kept hsT (h.m.ne_cells h.s), ownsRow_only h.n hsT (fun g hg e => by subst e; exact name_apart h.n h.s hg), h.bb, h.gb⟩, hsT.mono (fun k _ e => ?_)⟩
  · have := heap_setCell_same w gs 2 _ _ (.int .i64 m) h.s
    simpa using this
  · subst e
    refine ⟨h.gb, fun c t fr hc => ?_⟩
    rw [h.s] at hc
    injection hc with hc
    injection hc with _ hc _
    exact .inl hc.symm
theorem Fsc.drew {base : Nat} {w : World} {k : Nat} (h : Fsc base w k) : Fsc base w.drew k := h
set_option maxRecDepth 20000 in
set_option maxHeartbeats 2000000 in
/-- The slot of a twig. -/
theorem slot_any {w : World} {base gs : Nat} {st : CSt} (h : Sc w base gs st.seen st.made) (x : Tw) (hl : x.text.length ≤ 9223372036854775807) (hm : st.made ≤ 100) :
    Calls Tryd.prog 34 #[.pointer (some ⟨gs, 0, none⟩), twV x] w fun e w' => e = .returned (.tuple #[.int .i64 (slotC st x).1, .int .i64 (slotC st x).2.2]) ∧ Sc w' base gs st.seen (slotC st x).2.1 ∧ Only (Fsc base w) w w' := by
  obtain ⟨op, kids, num, text⟩ := x
  obtain ⟨l, L, made⟩ := st
  obtain ⟨Z, hZ⟩ := exHid (slotC ⟨l, L, made⟩ ⟨op, kids, num, text⟩)
  rw [hZ.out]
  have hz := hZ.out
  unfold slotC at hz
  dsimp only at hz h hl hm ⊢
  clear hZ
  unfold twV
  dsimp only
  have hal := ((Below.refl w.heap.size w).alloc (Nat.le_refl _) (.cells #[.int .u8 op, .int .i64 kids, .int .i64 num, .string ⟨text.toArray⟩] 34)).drew
  have hA := h.below hal
  have hoA : Only (Fsc base w) w (w.alloc (.cells #[.int .u8 op, .int .i64 kids, .int .i64 num, .string ⟨text.toArray⟩] 34)).drew := Only.of_below hal
  have y0 : (w.alloc (.cells #[.int .u8 op, .int .i64 kids, .int .i64 num, .string ⟨text.toArray⟩] 34)).cell? ⟨w.heap.size, 0, none⟩ = _ := one_cell w #[.int .u8 op, .int .i64 kids, .int .i64 num, .string ⟨text.toArray⟩] 34 0
  have y3 : (w.alloc (.cells #[.int .u8 op, .int .i64 kids, .int .i64 num, .string ⟨text.toArray⟩] 34)).cell? ⟨w.heap.size, 3, none⟩ = _ := one_cell w #[.int .u8 op, .int .i64 kids, .int .i64 num, .string ⟨text.toArray⟩] 34 3
  simp only [List.getElem?_toArray, List.getElem?_cons_succ, List.getElem?_cons_zero] at y0 y3
  obtain ⟨b, nv, hV⟩ := hA
  have hs := hV.s
  have hlook := hV.m.look Tryd.underlying9 Tryd.underlying3 Tryd.underlying72 (zeroI _) hl
  have hset := hV.made' (made + 1)
  have hVV := Lib.hid hV
  have x0 : (w.alloc (.cells #[.int .u8 op, .int .i64 kids, .int .i64 num, .string ⟨text.toArray⟩] 34)).cell? ⟨gs, 0, none⟩ = some (.map (some b)) := by exact (show (w.alloc (.cells #[.int .u8 op, .int .i64 kids, .int .i64 num, .string ⟨text.toArray⟩] 34)).drew.cell? _ = _ by simp only [World.cell?, hs]; rfl)
  have x2 : (w.alloc (.cells #[.int .u8 op, .int .i64 kids, .int .i64 num, .string ⟨text.toArray⟩] 34)).cell? ⟨gs, 2, none⟩ = some (.int .i64 made) := by exact (show (w.alloc (.cells #[.int .u8 op, .int .i64 kids, .int .i64 num, .string ⟨text.toArray⟩] 34)).drew.cell? _ = _ by simp only [World.cell?, hs]; rfl)
  have f2 : (w.alloc (.cells #[.int .u8 op, .int .i64 kids, .int .i64 num, .string ⟨text.toArray⟩] 34)).frozen? ⟨gs, 2, none⟩ = false := by exact (show (w.alloc (.cells #[.int .u8 op, .int .i64 kids, .int .i64 num, .string ⟨text.toArray⟩] 34)).drew.frozen? _ = _ by simp only [World.frozen?, hs]; rfl)
  have z2 : ((w.alloc (.cells #[.int .u8 op, .int .i64 kids, .int .i64 num, .string ⟨text.toArray⟩] 34)).drew.setCell ⟨gs, 2, none⟩ (.int .i64 ((made : Int) + 1))).cell? ⟨gs, 2, none⟩ = some (.int .i64 ((made : Int) + 1)) := by
    have := hset.1.s
    have e : (((made + 1 : Nat)) : Int) = (made : Int) + 1 := by omega
    rw [e] at this
    simp only [World.cell?, this]
    rfl
  have hoS : Only (Fsc base w) w ((w.alloc (.cells #[.int .u8 op, .int .i64 kids, .int .i64 num, .string ⟨text.toArray⟩] 34)).drew.setCell ⟨gs, 2, none⟩ (.int .i64 ((made : Int) + 1))) := (hoA.setCell (p := ⟨gs, 2, none⟩) (by
    rcases Nat.lt_or_ge gs w.heap.size with hg | hg
    · refine .inl ⟨hV.gb, fun c t fr hc => ?_⟩
      obtain ⟨b', v', hV'⟩ := h
      rw [hV'.s] at hc
      injection hc with hc
      injection hc with _ hc _
      exact .inl hc.symm
    · exact .inr hg) _)
  have hm1 : ((made : Int) == 100) = decide (made = 100) := by
    by_cases h : made = 100
    · subst h; rfl
    · rw [decide_eq_false h]; exact beq_eq_false_iff_ne.2 (by omega)
  have hset1 : Sc ((w.alloc (.cells #[.int .u8 op, .int .i64 kids, .int .i64 num, .string ⟨text.toArray⟩] 34)).drew.setCell ⟨gs, 2, none⟩ (.int .i64 ((made : Int) + 1))) base gs L (made + 1) := ⟨b, nv, hset.1⟩
  replace hset1 := Lib.hid hset1
  replace hoS := Lib.hid hoS
  replace hoA := Lib.hid hoA
  clear hs h hV hal hset
  by_cases c2 : op = 2
  · rw [if_pos (.inl c2)] at hz
    have q2 : ((op : Int) == 2) = true := by rw [c2]; rfl
    replace c2 := Lib.hid c2
    cases hF : findL L text with
    | some v =>
      rw [hF] at hz hlook
      simp only [Option.isSome_some, ↓reduceIte] at hz hlook
      subst hz
      clear hm1 z2
      go_enter Tryd.func34, Tryd.ntmps34
      go_wp2_with fail
      go_region
      go_wp2_with fail
      go_ret2
      exact ⟨rfl, ⟨b, nv, hVV.out⟩, hoA.out⟩
    | none =>
      rw [hF] at hz hlook
      simp only [Option.isSome_none, Bool.false_eq_true, ↓reduceIte] at hz hlook
      by_cases h100 : made = 100
      · subst h100
        rw [if_pos rfl] at hz
        subst hz
        clear hm1 z2
        go_enter Tryd.func34, Tryd.ntmps34
        go_wp2_with fail
        go_region
        go_wp2_with fail
        go_ret2
        exact ⟨rfl, ⟨b, nv, hVV.out⟩, hoA.out⟩
      · rw [if_neg h100] at hz
        subst hz
        rw [decide_eq_false h100] at hm1
        have hsub : ((made : Int) + 1 - 1) = made := by omega
        go_enter Tryd.func34, Tryd.ntmps34
        go_wp2_with fail
        go_region
        go_wp2_with fail
        go_ret2
        exact ⟨rfl, hset1.out, hoS.out⟩
  by_cases c4 : op = 4
  · rw [if_pos (.inr c4)] at hz
    have q4 : ((op : Int) == 4) = true := by rw [c4]; rfl
    have q2 : ((op : Int) == 2) = false := beq_eq_false_iff_ne.2 (by omega)
    replace c4 := Lib.hid c4
    cases hF : findL L text with
    | some v =>
      rw [hF] at hz hlook
      simp only [Option.isSome_some, ↓reduceIte] at hz hlook
      subst hz
      clear hm1 z2
      go_enter Tryd.func34, Tryd.ntmps34
      go_wp2_with fail
      go_region
      go_wp2_with fail
      go_ret2
      exact ⟨rfl, ⟨b, nv, hVV.out⟩, hoA.out⟩
    | none =>
      rw [hF] at hz hlook
      simp only [Option.isSome_none, Bool.false_eq_true, ↓reduceIte] at hz hlook
      by_cases h100 : made = 100
      · subst h100
        rw [if_pos rfl] at hz
        subst hz
        clear hm1 z2
        go_enter Tryd.func34, Tryd.ntmps34
        go_wp2_with fail
        go_region
        go_wp2_with fail
        go_ret2
        exact ⟨rfl, ⟨b, nv, hVV.out⟩, hoA.out⟩
      · rw [if_neg h100] at hz
        subst hz
        rw [decide_eq_false h100] at hm1
        have hsub : ((made : Int) + 1 - 1) = made := by omega
        go_enter Tryd.func34, Tryd.ntmps34
        go_wp2_with fail
        go_region
        go_wp2_with fail
        go_ret2
        exact ⟨rfl, hset1.out, hoS.out⟩
  by_cases c5 : op = 5
  · rw [if_neg (by omega), if_pos (.inl c5)] at hz
    have q5 : ((op : Int) == 5) = true := by rw [c5]; rfl
    have q2 : ((op : Int) == 2) = false := beq_eq_false_iff_ne.2 (by omega)
    have q4 : ((op : Int) == 4) = false := beq_eq_false_iff_ne.2 (by omega)
    replace c5 := Lib.hid c5
    clear hm1 z2
    cases hF : findL L text with
    | some v =>
      rw [hF] at hz hlook
      simp only [Option.isSome_some] at hz hlook
      subst hz
      go_enter Tryd.func34, Tryd.ntmps34
      go_wp2_with fail
      go_region
      go_wp2_with fail
      go_ret2
      exact ⟨rfl, ⟨b, nv, hVV.out⟩, hoA.out⟩
    | none =>
      rw [hF] at hz hlook
      simp only [Option.isSome_none] at hz hlook
      subst hz
      go_enter Tryd.func34, Tryd.ntmps34
      go_wp2_with fail
      go_region
      go_wp2_with fail
      go_ret2
      exact ⟨rfl, ⟨b, nv, hVV.out⟩, hoA.out⟩
  by_cases c26 : op = 26
  · rw [if_neg (by omega), if_pos (.inr c26)] at hz
    have q26 : ((op : Int) == 26) = true := by rw [c26]; rfl
    have q2 : ((op : Int) == 2) = false := beq_eq_false_iff_ne.2 (by omega)
    have q4 : ((op : Int) == 4) = false := beq_eq_false_iff_ne.2 (by omega)
    have q5 : ((op : Int) == 5) = false := beq_eq_false_iff_ne.2 (by omega)
    replace c26 := Lib.hid c26
    clear hm1 z2
    cases hF : findL L text with
    | some v =>
      rw [hF] at hz hlook
      simp only [Option.isSome_some] at hz hlook
      subst hz
      go_enter Tryd.func34, Tryd.ntmps34
      go_wp2_with fail
      go_region
      go_wp2_with fail
      go_ret2
      exact ⟨rfl, ⟨b, nv, hVV.out⟩, hoA.out⟩
    | none =>
      rw [hF] at hz hlook
      simp only [Option.isSome_none] at hz hlook
      subst hz
      go_enter Tryd.func34, Tryd.ntmps34
      go_wp2_with fail
      go_region
      go_wp2_with fail
      go_ret2
      exact ⟨rfl, ⟨b, nv, hVV.out⟩, hoA.out⟩
  have q2 : ((op : Int) == 2) = false := beq_eq_false_iff_ne.2 (by omega)
  have q4 : ((op : Int) == 4) = false := beq_eq_false_iff_ne.2 (by omega)
  have q5 : ((op : Int) == 5) = false := beq_eq_false_iff_ne.2 (by omega)
  have q26 : ((op : Int) == 26) = false := beq_eq_false_iff_ne.2 (by omega)
  rw [if_neg (by omega), if_neg (by omega)] at hz
  subst hz
  clear hm1 z2
  cases hF : findL L text with
  | some v =>
    rw [hF] at hlook
    simp only [Option.isSome_some] at hlook
    go_enter Tryd.func34, Tryd.ntmps34
    go_wp2_with fail
    go_region
    go_wp2_with fail
    go_ret2
    exact ⟨rfl, ⟨b, nv, hVV.out⟩, hoA.out⟩
  | none =>
    rw [hF] at hlook
    simp only [Option.isSome_none] at hlook
    go_enter Tryd.func34, Tryd.ntmps34
    go_wp2_with fail
    go_region
    go_wp2_with fail
    go_ret2
    exact ⟨rfl, ⟨b, nv, hVV.out⟩, hoA.out⟩
end Go.Proofs.YtefijbpbenmbgaaDoor
