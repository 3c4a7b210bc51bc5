/- The law FrameFeeds: what a reader takes of pieces, what is left, and what it says when it breaks, are the document's. -/
import Derived.Test.YtdeloaknoadpiaaFStep
namespace Go.Proofs.Ytdeloaknoadpiaa
open Go.RowKit Crc
section
variable {w W : World} {ls : List (List Nat)}
set_option maxRecDepth 20000 in
set_option maxHeartbeats 1000000 in
theorem ffeeds_few {v0 : Value} (h : Rows2 w v0 ls) (hL : ls.length ≤ 60) :
    Calls Try.prog 6 #[v0] w fun e w' => e = .returned (.bool true) ∧ Below w.heap.size w w' := by
  have hA := awake_any w
  obtain ⟨a, cap, rfl, hlc, hcm, hk⟩ := h
  have hn : ¬ (60 : Int) < (ls.length : Int) := by omega
  replace hk := Lib.hid hk
  go_enter Try.func6, Try.ntmps6
  go_wp2_with fail
  refine hA.mono ?_
  rintro e w1 ⟨rfl, hb1⟩
  go_wp2_with fail
  refine (New_any _).mono ?_
  rintro e w2 ⟨rfl, hR2, hg2⟩
  have hb2 := below_next hb1 hg2
  have hPr := pair_new (B := w.heap.size) hb1.size hR2 hg2
  have hb3 : Below w.heap.size w (w2.alloc (.cells #[.slice none 0 0, .int .i64 0, .int .i64 0] 46)) := hb2.alloc (Nat.le_trans hb1.size hg2.size) _
  replace hPr := Lib.hid hPr
  replace hb3 := Lib.hid hb3
  go_wp2
  go_loopw [3, 6, 7, 8, 9, 10, 11, 12, 13, 14] (fun t3 t6 _ _ _ _ _ _ _ _ wr => ∃ (i room : Nat) (rest : List Nat) (taken fault : Nat), i ≤ ls.length ∧ t6 = .int .i64 i ∧ t3 = .int .i64 room ∧ Hid (Below w.heap.size w wr) ∧ Hid (Pair wr w.heap.size w1.heap.size w2.heap.size rest taken fault) ∧ room + rest.length + taken ≤ 3000) (fun _ t6 _ _ _ _ _ _ _ _ _ => ls.length - (intOf t6).toNat)
  case atStart => exact ⟨0, 3000, [], 0, 0, by omega, rfl, rfl, hb3, hPr, by simp⟩
  case round =>
    obtain ⟨i, room, rest, taken, fault, hi, rfl, rfl, hb, hPw, hsum⟩ := hrel
    rcases Nat.lt_or_ge i ls.length with hlt | hge
    · obtain ⟨b, off, rfl, hbl, hc⟩ := hk.out (by omega)
      obtain ⟨u, x, y⟩ := hc i hlt
      have x' : wr.cell? ⟨b, off + i, none⟩ = some u := (hb.out.cell (p := ⟨b, off + i, none⟩) hbl).trans x
      have y' := y.below hb.out
      have hx0 := Lib.hid (fun (W : World) (h : Below w.heap.size w W) => (h.cell (p := ⟨b, off + i, none⟩) hbl).trans x)
      have hy0 := Lib.hid (fun (W : World) (h : Below w.heap.size w W) => y.below h)
      obtain ⟨ua, uc, rfl, _, _, _, _⟩ := y
      generalize ls.getD i [] = m at *
      have hlti : (i : Int) < (ls.length : Int) := by omega
      have z := y'.string
      clear hc x
      replace y' := Lib.hid y'
      by_cases hroom : room < m.length
      · have hr : (room : Int) < (m.length : Int) := by omega
        go_wp2
        go_ret
        exact ⟨rfl, hb.out⟩
      · have hr : ¬ (room : Int) < (m.length : Int) := by omega
        have hmr : m.length ≤ room := by omega
        have hby := y'.out.byte
        have hPb := hPw.out
        rename World => W0
        obtain ⟨cap1, W1, hcv, hB1, hF1, hb1', hz1⟩ := copy_new W0 hby (by omega)
        replace hB1 := Lib.hid hB1
        replace hF1 := Lib.hid hF1
        replace hb1' := Lib.hid hb1'
        replace hby := Lib.hid hby
        go_wp2_with fail
        refine (feed_pair hPb hb1'.out hz1 hB1.out (by omega) (by omega) (by omega)).mono ?_
        rintro e W2 ⟨al, capl, p, q, rfl, hM, hO2⟩
        have hF2 := Lib.hid (hF1.out.only hO2 (fun h => h.2 rfl))
        replace hM := Lib.hid hM
        replace hO2 := Lib.hid hO2
        generalize hnb : (stepB rest fault m).length = nb at *
        generalize hnf : stepF rest fault m = nf at *
        replace hnb := Lib.hid hnb
        replace hnf := Lib.hid hnf
        have hbB1 : Below w.heap.size w W1 := hb.out.trans (hb1'.out.mono hb.out.size)
        have hbB2 : Below w.heap.size w W2 := below_only hbB1 hO2.out hbB1.size (fun k hk h => by omega)
        go_wp2_with fail
        go_loopw [10] (fun t10 wr => ∃ j : Nat, j ≤ m.length ∧ t10 = .int .i64 j ∧ Hid (Free wr W0.heap.size m.length) ∧ Hid (Only (fun k => k = W0.heap.size) W2 wr)) (fun t10 _ => m.length - (intOf t10).toNat)
        case atStart => exact ⟨0, by omega, rfl, hF2, Only.refl _ _⟩
        case round =>
          obtain ⟨j, hj, rfl, hFw, hOw⟩ := hrel
          rcases Nat.lt_or_ge j m.length with hjl | hjg
          · obtain ⟨uj, xj⟩ := hFw.out.cell hjl
            have fj := hFw.out.frozen hjl
            have hjli : (j : Int) < (m.length : Int) := by omega
            go_wp2
            go_roundw
            case rel => exact ⟨j + 1, by omega, by go_num, hFw.out.set j _, hOw.out.setCell (p := ⟨W0.heap.size, j, none⟩) (.inl rfl) _⟩
            case measure => simp [intOf]; omega
          · obtain rfl : j = m.length := by omega
            have hjli : ¬ ((m.length : Int) < (m.length : Int)) := by omega
            have hM3 := Lib.hid (hM.out.only hOw.out)
            have hbB3 : Below w.heap.size w wr := below_only hbB2 hOw.out hbB2.size (fun k hk h => by have h' : k = W0.heap.size := h; have := hb.out.size; omega)
            have x3 := hx0.out wr hbB3
            have y3 := Lib.hid (hy0.out wr hbB3)
            go_wp2_with fail
            refine (refFeed_pair hM3.out y3.out (by omega) (by omega) (by omega)).mono ?_
            rintro e W4 ⟨am, capm, rfl, hRm, hRl, hQ4, hX4, hO4⟩
            have hbB4 : Below w.heap.size w W4 := below_only hbB3 hO4 hbB3.size (fun k hk h => by have h' : k = w2.heap.size := h; have := hg2.size; have := hb1.size; omega)
            have hsum' : room - m.length + (stepR rest fault m).length + stepT rest taken fault m ≤ 3000 := by have := step_sum rest taken fault m; omega
            have hWr := hQ4.wr
            have hSm := fun n => same_quiet (hRl.drewN n) (hRm.drewN n)
            clear hQ4 hRl hRm hO4 hM3 hM hB1 hF1 hF2 hO2 hx0 hFw hOw
            have hlen : ((stepB rest fault m).map List.length).length = nb := by rw [List.length_map]; exact hnb.out
            rw [hnb.out, hnf.out]
            rw [hnb.out] at hSm
            rw [hnf.out] at hX4
            generalize (stepB rest fault m).map List.length = lens at *
            generalize stepR rest fault m = R' at *
            generalize stepT rest taken fault m = T' at *
            subst hlen
            obtain ⟨a4, cap4, hc4⟩ := hX4.cells
            have hc0 := fun n => (hc4 n).2.2.1
            have hc1 := fun n => (hc4 n).2.2.2
            have hLf := fun n => (Left_any (hc4 n).1).mono (fun _ _ h => (⟨h.1, h.2.symm⟩ : _ ∧ _))
            have hTk := fun n => (Taken_any (hc4 n).2.1).mono (fun _ _ h => (⟨h.1, h.2.symm⟩ : _ ∧ _))
            have e1 : ((nf : Int) != (nf : Int)) = false := by simp
            have e2 : ((R'.length : Int) != (R'.length : Int)) = false := by simp
            have e3 : ((T' : Int) != (T' : Int)) = false := by simp
            clear hc4
            replace hSm := Lib.hid hSm
            replace hLf := Lib.hid hLf
            replace hTk := Lib.hid hTk
            replace hWr := Lib.hid hWr
            replace hX4 := Lib.hid hX4
            replace hbB4 := Lib.hid hbB4
            go_wp2_with fail
            go_quiet (first
              | (go_at_call 22; exact Calls.quiet_of (hSm.out _))
              | (go_at_call 12; exact Calls.quiet_of_same (hLf.out _))
              | (go_at_call 13; exact Calls.quiet_of_same (hTk.out _)))
            have hlb : lens.length ≤ 9223372036854775807 := by obtain ⟨_, _, h2, _⟩ := hWr.out; obtain ⟨_, _, _, h3, h4⟩ := ownsRow_shape h2; omega
            have hWr5 := Lib.hid (hWr.out.drewN nq)
            have hX5 := Lib.hid (hX4.out.drewN nq)
            have hbB5 := Lib.hid (below_drewN hbB4.out nq)
            clear hSm hLf hTk hc0 hc1 hWr hX4 hbB4
            generalize W4.drewN nq = W5 at *
            go_wp2
            go_loopw [13, 14] (fun t13 _ wr => ∃ k : Nat, k ≤ lens.length ∧ t13 = .int .i64 k ∧ Hid (Wr wr p q (.slice al lens.length capl) lens) ∧ Hid (Only (fun k => p ≤ k ∧ k < q) W5 wr)) (fun t13 _ _ => lens.length - (intOf t13).toNat)
            case atStart => exact ⟨0, by omega, rfl, hWr5, Only.refl _ _⟩
            case round =>
              obtain ⟨k, hk, rfl, hWw, hOw⟩ := hrel
              rcases Nat.lt_or_ge k lens.length with hkl | hkg
              · have hkli : (k : Int) < (lens.length : Int) := by omega
                rename World => W6
                go_wp2
                go_loopw [14] (fun t14 wr => ∃ j : Nat, j ≤ lens.getD k 0 ∧ t14 = .int .i64 j ∧ Hid (Wr wr p q (.slice al lens.length capl) lens) ∧ Hid (Only (fun k => p ≤ k ∧ k < q) W5 wr)) (fun t14 _ => lens.getD k 0 - (intOf t14).toNat)
                case atStart => exact ⟨0, by omega, rfl, hWw, hOw⟩
                case round =>
                  obtain ⟨j, hj, rfl, hWv, hOv⟩ := hrel
                  obtain ⟨b2, cap2, a2, c2, hv, hc2, hbd2, hw2⟩ := hWv.out.head hkl
                  simp only [Value.slice.injEq, true_and] at hv
                  obtain ⟨rfl, rfl⟩ := hv
                  have hset := Lib.hid (fun (g c c' : Nat) (x : Value) hv => hWv.out.set (i := k) (j := j) (g := g) (c := c) (c2 := c') (x := x) (u := x) hkl rfl hv)
                  rcases Nat.lt_or_ge j (lens.getD k 0) with hjl | hjg
                  · obtain ⟨g2, rfl, hp2, hq2, hw⟩ := hw2 (by omega)
                    obtain ⟨⟨u2, hu2⟩, hf2⟩ := hw j hjl
                    have hset2 := Lib.hid (fun x => hset.out g2 _ _ x hc2 (by omega))
                    clear hw hset hw2
                    generalize lens.getD k 0 = n at *
                    have hjli : (j : Int) < (n : Int) := by omega
                    go_wp2
                    go_roundw
                    case rel => exact ⟨j + 1, by omega, by go_num, hset2.out _, hOv.out.setCell (p := ⟨g2, j, none⟩) (.inl ⟨hp2, hq2⟩) _⟩
                    case measure => simp [intOf]; omega
                  · obtain rfl : j = lens.getD k 0 := by omega
                    clear hw2 hset
                    generalize lens.getD k 0 = n at *
                    have hjli : ¬ ((n : Int) < (n : Int)) := by omega
                    go_wp2
                    go_roundw
                    case rel => exact ⟨k + 1, by omega, by go_num, hWv, hOv⟩
                    case measure => simp [intOf]; omega
              · obtain rfl : k = lens.length := by omega
                have hkli : ¬ ((lens.length : Int) < (lens.length : Int)) := by omega
                have hX6 := hX5.out.only hOw.out (fun k _ h => h)
                have hbB6 := Lib.hid (below_only hbB5.out hOw.out hbB5.out.size (fun k hk h => by obtain ⟨h7, h8, h9, h10, _⟩ := hX5.out; have := hg2.size; have := hb1.size; omega))
                obtain ⟨a6, cap6, hc6⟩ := hX6.cells
                have hc0 := fun n => (hc6 n).2.2.1
                have hLf := fun n => (Left_any (hc6 n).1).mono (fun _ _ h => (⟨h.1, h.2.symm⟩ : _ ∧ _))
                clear hc6
                replace hLf := Lib.hid hLf
                replace hX6 := Lib.hid hX6
                cases hq : ((nf : Int) != 0)
                all_goals
                  go_wp2_with fail
                  go_quiet (first
                    | (go_at_call 12; exact Calls.quiet_of_same (hLf.out _)))
                  go_wp2
                  go_roundw
                  case rel => exact ⟨i + 1, room - m.length, R', T', nf, by omega, by go_num, by congr 1; omega, below_drewN hbB6.out _, (hX6.out.drewN _).pair, hsum'⟩
                  case measure => simp [intOf]; omega
    · obtain rfl : i = ls.length := by omega
      have hlti : ¬ ((ls.length : Int) < (ls.length : Int)) := by omega
      go_wp2
      go_ret
      exact ⟨rfl, hb.out⟩

theorem frameFeeds_walk (v0 : Value) (w : World) (h0 : RowsIn w v0) :
    Calls Try.prog 6 #[v0] w fun e w' => e = .returned (.bool true) ∧ Below w.heap.size w w' := by
  obtain ⟨ls, hR⟩ := h0
  rcases Nat.lt_or_ge 60 ls.length with h | h
  · obtain ⟨a, cap, rfl, _⟩ := hR
    exact ffeeds_many h
  · exact ffeeds_few hR h
end
end Go.Proofs.Ytdeloaknoadpiaa
