/- The law CompileSteps (layer 15): each twig but blocks, the flow and its parameters has just one instruction that costs a step. Condition: the listed variable compile.ops reads as laid. -/
import Derived.Test.YtefijbpbenmbgaaDoorGWak
import Derived.Test.YtefijbpbenmbgaaDoorROpen
import Derived.Test.YtefijbpbenmbgaaDoorGLaid
namespace Go.Proofs.YtefijbpbenmbgaaDoor
open Go.RowKit Go.Shelf

set_option maxRecDepth 20000 in
theorem counted_any (op : Nat) (w : World) : Calls Tryd.prog 9 #[.int .u8 op] w fun e w' => e = .returned (.bool (op != 1 && (op != 2 && op != 3))) ∧ w' = w := by
  by_cases h1 : op = 1
  · have q1 : ((op : Int) != 1) = false := by rw [h1]; rfl
    have : (op != 1 && (op != 2 && op != 3)) = false := by rw [h1]; rfl
    rw [this]
    replace h1 := Lib.hid h1
    go_enter Tryd.func9, Tryd.ntmps9
    go_wp2_with fail
    go_ret
    exact ⟨rfl, rfl⟩
  · have q1 : ((op : Int) != 1) = true := bne_iff_ne.2 (by omega)
    by_cases h2 : op = 2
    · have q2 : ((op : Int) != 2) = false := by rw [h2]; rfl
      have : (op != 1 && (op != 2 && op != 3)) = false := by rw [h2]; rfl
      rw [this]
      replace h1 := Lib.hid h1
      replace h2 := Lib.hid h2
      go_enter Tryd.func9, Tryd.ntmps9
      go_wp2_with fail
      go_ret
      exact ⟨rfl, rfl⟩
    · have q2 : ((op : Int) != 2) = true := bne_iff_ne.2 (by omega)
      by_cases h3 : op = 3
      · have q3 : ((op : Int) != 3) = false := by rw [h3]; rfl
        have : (op != 1 && (op != 2 && op != 3)) = false := by rw [h3]; rfl
        rw [this]
        replace h1 := Lib.hid h1
        replace h2 := Lib.hid h2
        replace h3 := Lib.hid h3
        go_enter Tryd.func9, Tryd.ntmps9
        go_wp2_with fail
        go_ret
        exact ⟨rfl, rfl⟩
      · have q3 : ((op : Int) != 3) = true := bne_iff_ne.2 (by omega)
        have : (op != 1 && (op != 2 && op != 3)) = true := by simp [h1, h2, h3]
        rw [this]
        replace h1 := Lib.hid h1
        replace h2 := Lib.hid h2
        replace h3 := Lib.hid h3
        go_enter Tryd.func9, Tryd.ntmps9
        go_wp2_with fail
        go_ret
        exact ⟨rfl, rfl⟩
theorem count_take {α : Type} (p : α → Bool) (l : List α) (i : Nat) (h : i < l.length) : (l.take (i + 1)).countP p = (l.take i).countP p + (if p l[i] then 1 else 0) := by
  rw [List.take_add_one, List.getElem?_eq_getElem h, List.countP_append]
  simp [List.countP_cons]
set_option maxRecDepth 20000 in
set_option maxHeartbeats 4000000 in
theorem compileSteps_walk (v : Value) (w : World) (h : TwsIn w v) (hO : OpsOK w) :
    Calls Tryd.prog 4 #[v] w fun e w' => e = .returned (.bool true) ∧ Below w.heap.size w w' := by
  obtain ⟨ts, hT, hf, _⟩ := h
  have hWk := Lib.hid (fun (W : World) (hb : Below w.heap.size w W) => wakes15_any W (hO.below hb))
  obtain ⟨r, hr⟩ := slots_is ts
  have kC := Lib.hid (Compile_any w hO hT hf hr)
  unfold CompP at kC
  have hTT := Lib.hid hT
  obtain ⟨a, cap, rfl, hlc, hcm, h3⟩ := hT
  replace hf := Lib.hid hf
  replace hr := Lib.hid hr
  replace hO := Lib.hid hO
  replace h3 := Lib.hid h3
  by_cases h5 : 5000 < ts.length
  · have h5i : (5000 : Int) < (ts.length : Int) := by omega
    have kW := Lib.hid (hWk.out w (Below.refl _ _))
    clear kC hWk
    go_enter Tryd.func4, Tryd.ntmps4
    go_wp2_with fail
    refine kW.out.mono ?_
    rintro e w2 ⟨rfl, hb⟩
    replace hb := Lib.hid hb
    go_wp2_with fail
    go_ret
    exact ⟨rfl, hb.out⟩
  · have h5i : ¬ (5000 : Int) < (ts.length : Int) := by omega
    go_enter Tryd.func4, Tryd.ntmps4
    go_wp2_with fail
    refine kC.out.mono ?_
    rintro e w1 ⟨hb1, ⟨he, rfl⟩ | ⟨_, cv, code, x, K, _, hx, _, hg, rfl, hI⟩⟩
    · have hq : (r.2.2 != 0) = true := bne_iff_ne.2 he
      have kW := Lib.hid (hWk.out w1 hb1)
      replace he := Lib.hid he
      replace hb1 := Lib.hid hb1
      clear kC hWk
      go_wp2_with fail
      refine kW.out.mono ?_
      rintro e w2 ⟨rfl, hb⟩
      have hb3 := Lib.hid (hb1.out.trans (hb.mono hb1.out.size))
      clear hb hb1 kW
      go_wp2_with fail
      go_ret
      exact ⟨rfl, hb3.out⟩
    · have hst := Lib.hid (gens_steps hg)
      rw [flat_one, ← hx] at hst
      obtain ⟨ca, cc, rfl, hc1, hc2⟩ := id hI.shape
      have kW := Lib.hid (hWk.out w1 hb1)
      have hT1 := hTT.out.below hb1
      have hIn := hI.insIn
      replace hb1 := Lib.hid hb1
      have hcl := gens_len hg
      rw [flat_one, ← hx] at hcl
      replace hcl := Lib.hid hcl
      clear kC hWk hg hI hTT hf hr hO hc1 hc2 hx
      obtain ⟨a1, cap1, ea, _, _, hcell⟩ := hT1
      injection ea with e1 _ e3
      subst e1
      subst e3
      obtain ⟨a2, cap2, eb, _, _, hcell2⟩ := hIn
      injection eb with e1 _ e3
      subst e1
      subst e3
      replace hcell := Lib.hid hcell
      replace hcell2 := Lib.hid hcell2
      go_wp2_with fail
      go_loopw [6, 7] (fun t6 t7 wr => ∃ i n : Nat, t7 = .int .i64 i ∧ t6 = .int .i64 n ∧ Hid (i ≤ ts.length) ∧ Hid (n = (ts.take i).countP countsB) ∧ Hid (wr = w1)) (fun _ t7 _ => ts.length - (intOf t7).toNat)
      case atStart => exact ⟨0, 0, rfl, rfl, Lib.hid (by omega), Lib.hid (by simp), Lib.hid rfl⟩
      case round =>
        obtain ⟨i, n, rfl, rfl, hi, hn, hw⟩ := hrel
        have hw' := hw.out.symm
        subst hw'
        clear hw
        have hnl : n ≤ i := by have := hn.out; have h2 := List.countP_le_length (p := countsB) (l := ts.take i); rw [List.length_take] at h2; omega
        rcases Nat.lt_or_ge i ts.length with hlt | hge
        · obtain ⟨g, off, rfl, hgl, hc⟩ := hcell.out (by omega)
          have y0 := hc i hlt 0 (by omega)
          have hct := count_take countsB ts i hlt
          rw [← hn.out] at hct
          have hlti : (i : Int) < (ts.length : Int) := by omega
          generalize ts[i] = y at *
          obtain ⟨op, ya, yn, yt⟩ := y
          simp only [twC, List.getElem?_cons_zero, Nat.add_zero] at y0
          have kO := counted_any op w1
          unfold countsB at hct
          dsimp only at hct
          clear hc
          cases hb : (op != 1 && (op != 2 && op != 3)) with
          | true =>
            rw [hb] at kO hct
            simp only [↓reduceIte] at hct
            replace kO := Lib.hid kO
            replace hct := Lib.hid hct
            replace hb := Lib.hid hb
            clear hcell hgl
            go_wp2_with fail
            refine kO.out.mono ?_
            rintro e w2 ⟨rfl, rfl⟩
            go_wp2_with fail
            go_roundw
            case rel => exact ⟨i + 1, n + 1, by go_num, by go_num, Lib.hid (by omega), Lib.hid hct.out.symm, Lib.hid (by first | rfl | trivial)⟩
            case measure => simp [intOf]; omega
          | false =>
            rw [hb] at kO hct
            simp only [Bool.false_eq_true, ↓reduceIte, Nat.add_zero] at hct
            replace kO := Lib.hid kO
            replace hct := Lib.hid hct
            replace hb := Lib.hid hb
            clear hcell hgl
            go_wp2_with fail
            refine kO.out.mono ?_
            rintro e w2 ⟨rfl, rfl⟩
            go_wp2_with fail
            go_roundw
            case rel => exact ⟨i + 1, n, by go_num, rfl, Lib.hid (by omega), Lib.hid hct.out.symm, Lib.hid (by first | rfl | trivial)⟩
            case measure => simp [intOf]; omega
        · have hie : i = ts.length := by have := hi.out; omega
          subst hie
          have hlti : ¬ (ts.length : Int) < (ts.length : Int) := by omega
          have hN := hn.out
          rw [List.take_length] at hN
          replace hN := Lib.hid hN.symm
          clear hn hi hcell hge
          obtain ⟨N, hNe⟩ : ∃ N, N = n := ⟨_, rfl⟩
          subst hNe
          go_wp2_with fail
          go_loopw [8, 9] (fun t8 t9 wr => ∃ i n : Nat, t9 = .int .i64 i ∧ t8 = .int .i64 n ∧ Hid (i ≤ code.length) ∧ Hid (n = (code.take i).countP costsB) ∧ Hid (wr = w1)) (fun _ t9 _ => code.length - (intOf t9).toNat)
          case atStart => exact ⟨0, 0, rfl, rfl, Lib.hid (by omega), Lib.hid (by simp), Lib.hid rfl⟩
          case round =>
            obtain ⟨i, n, rfl, rfl, hi, hn, hw⟩ := hrel
            have hw' := hw.out.symm
            subst hw'
            clear hw
            have hnl : n ≤ i := by have := hn.out; have h2 := List.countP_le_length (p := costsB) (l := code.take i); rw [List.length_take] at h2; omega
            rcases Nat.lt_or_ge i code.length with hlt | hge
            · obtain ⟨g, off, rfl, hgl, hc⟩ := hcell2.out (by omega)
              have y0 := hc i hlt 0 (by omega)
              have hct := count_take costsB code i hlt
              rw [← hn.out] at hct
              have hlti : (i : Int) < (code.length : Int) := by omega
              have hnb : (n : Int) ≤ 1000000 := by have := hcl.out; omega
              have hib : (i : Int) ≤ 1000000 := by have := hcl.out; omega
              generalize code[i] = y at *
              obtain ⟨op, ya, yn, yt⟩ := y
              simp only [insC, List.getElem?_cons_zero, Nat.add_zero] at y0
              unfold costsB at hct
              dsimp only at hct
              clear hc
              by_cases h1 : op = 1
              · have q1 : ((op : Int) != 1) = false := by rw [h1]; rfl
                rw [show (op != 1 && (op != 5 && op != 28)) = false by rw [h1]; rfl] at hct
                replace h1 := Lib.hid h1
                simp only [Bool.false_eq_true, ↓reduceIte, Nat.add_zero] at hct
                replace hct := Lib.hid hct
                clear hcell2 hgl
                go_wp2_with fail
                go_roundw
                case rel => exact ⟨i + 1, n, by go_num, rfl, Lib.hid (by omega), Lib.hid hct.out.symm, Lib.hid (by first | rfl | trivial)⟩
                case measure => simp [intOf]; omega
              · have q1 : ((op : Int) != 1) = true := bne_iff_ne.2 (by omega)
                by_cases h5 : op = 5
                · have q5 : ((op : Int) != 5) = false := by rw [h5]; rfl
                  rw [show (op != 1 && (op != 5 && op != 28)) = false by rw [h5]; rfl] at hct
                  replace h1 := Lib.hid h1
                  replace h5 := Lib.hid h5
                  simp only [Bool.false_eq_true, ↓reduceIte, Nat.add_zero] at hct
                  replace hct := Lib.hid hct
                  clear hcell2 hgl
                  go_wp2_with fail
                  go_roundw
                  case rel => exact ⟨i + 1, n, by go_num, rfl, Lib.hid (by omega), Lib.hid hct.out.symm, Lib.hid (by first | rfl | trivial)⟩
                  case measure => simp [intOf]; omega
                · have q5 : ((op : Int) != 5) = true := bne_iff_ne.2 (by omega)
                  by_cases h28 : op = 28
                  · have q28 : ((op : Int) != 28) = false := by rw [h28]; rfl
                    rw [show (op != 1 && (op != 5 && op != 28)) = false by rw [h28]; rfl] at hct
                    replace h1 := Lib.hid h1
                    replace h5 := Lib.hid h5
                    replace h28 := Lib.hid h28
                    simp only [Bool.false_eq_true, ↓reduceIte, Nat.add_zero] at hct
                    replace hct := Lib.hid hct
                    clear hcell2 hgl
                    go_wp2_with fail
                    go_roundw
                    case rel => exact ⟨i + 1, n, by go_num, rfl, Lib.hid (by omega), Lib.hid hct.out.symm, Lib.hid (by first | rfl | trivial)⟩
                    case measure => simp [intOf]; omega
                  · have q28 : ((op : Int) != 28) = true := bne_iff_ne.2 (by omega)
                    rw [show (op != 1 && (op != 5 && op != 28)) = true by simp [h1, h5, h28]] at hct
                    replace h1 := Lib.hid h1
                    replace h5 := Lib.hid h5
                    replace h28 := Lib.hid h28
                    simp only [↓reduceIte] at hct
                    replace hct := Lib.hid hct
                    clear hcell2 hgl
                    go_wp2_with fail
                    go_roundw
                    case rel => exact ⟨i + 1, n + 1, by go_num, by go_num, Lib.hid (by omega), Lib.hid hct.out.symm, Lib.hid (by first | rfl | trivial)⟩
                    case measure => simp [intOf]; omega
            · have hie : i = code.length := by have := hi.out; omega
              subst hie
              have hne : n = N := by have := hn.out; rw [List.take_length] at this; rw [this]; exact hst.out.trans hN.out
              subst hne
              have hlti : ¬ (code.length : Int) < (code.length : Int) := by omega
              clear hn hi hN hst
              go_wp2_with fail
              refine kW.out.mono ?_
              rintro e w2 ⟨rfl, hb⟩
              have hb3 := Lib.hid (hb1.out.trans (hb.mono hb1.out.size))
              clear hb hb1 kW
              go_wp2_with fail
              go_ret
              exact ⟨rfl, hb3.out⟩
end Go.Proofs.YtefijbpbenmbgaaDoor
