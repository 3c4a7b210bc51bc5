/- The document's number (layer 7), walked: one way. (Made by tools/mkdoc9.py.) -/
import Derived.Test.YtmgbebpkkidooaaDoorTDocL
namespace Go.Proofs.YtmgbebpkkidooaaDoor
open Go.RowKit Tok

set_option maxRecDepth 20000 in
set_option maxHeartbeats 16000000 in
theorem num_short_bad (s : ByteArray) (i : Nat) (w : World) (hs : s.size ≤ 1000000) (hi : i < s.size) (hd : digC s[i] = true) (h1 : i + span digC (s.data.toList.drop i) < s.size) (h2 : ¬ NumOk s i hi) :
    Calls Tryd.prog 36 #[.string s, .int .i64 i] w fun e w' => e = .returned (resT i (numT (s.data.toList.drop i))) ∧ Below w.heap.size w w' := by
  have hyes := Lib.hid (fun j => span_yes_at (p := digC) (s := s) (i := i) (j := j))
  have hno := Lib.hid (fun j => span_no_at (p := digC) (s := s) (i := i) (j := j))
  have hle := span_le (p := digC) (s.data.toList.drop i)
  rw [List.length_drop, size_list] at hle
  have hL := at_drop hi
  have hpos : 0 < span digC (s.data.toList.drop i) := by rw [hL]; exact span_pos _ hd
  obtain ⟨hDa, hDl⟩ := span_take (p := digC) (s.data.toList.drop i)
  have hrest : s[i].toNat ≠ 48 ∨ ¬ 1 < span digC (s.data.toList.drop i) → numT (s.data.toList.drop i) = numW ((s.data.toList.drop i).take (span digC (s.data.toList.drop i))) ((s.data.toList.drop i).drop (span digC (s.data.toList.drop i))) (span digC (s.data.toList.drop i)) := by
    intro h
    have h1 := numT_rest (r := s.data.toList.drop (i + 1)) hd (by rw [← hL]; exact h)
    rw [← hL] at h1
    exact h1
  have hzero : s[i].toNat = 48 → 1 < span digC (s.data.toList.drop i) → numT (s.data.toList.drop i) = .bad 1 9 := by
    intro h1 h2
    rw [hL] at h2 ⊢
    exact numT_zero h1 h2
  obtain ⟨V, hV⟩ := exHid (resT i (numT (s.data.toList.drop i)))
  rw [hV.out]
  replace hrest := Lib.hid hrest
  replace hzero := Lib.hid hzero
  have hx := Lib.hid (extract_piece s i (span digC (s.data.toList.drop i)))
  obtain ⟨D, hD⟩ := exHid ((s.data.toList.drop i).take (span digC (s.data.toList.drop i)))
  rw [hD.out] at hDa hDl hx hrest
  unfold NumOk at h2
  rw [hD.out] at h2
  obtain ⟨n, hn⟩ := exHid (span digC (s.data.toList.drop i))
  rw [hn.out] at hyes hno hle hpos hDl hx hrest hzero
  rw [hn.out] at h1 h2
  replace h2 := Lib.hid h2
  have hDd : Hid (∀ j (hj : j < n) (hz : i + j < s.size), D.take (j + 1) = D.take j ++ [s[i + j]]) := by
    intro j hj hz
    have hjl : j < D.length := by omega
    rw [List.take_succ_eq_append_getElem hjl]
    congr 2
    have hd2 := hD.out
    rw [hn.out] at hd2
    subst hd2
    rw [List.getElem_take, List.getElem_drop]
    rfl
  have hb0 := Lib.hid ((Below.refl w.heap.size w).alloc (Nat.le_refl _) (.cells #[.int .u8 0, .string ⟨#[]⟩, .int .i64 0, .int .i64 0, .int .i64 0, .int .i64 0, .int .i64 0] 47))
  have hk0 : Hid (Told0 (w.alloc (.cells #[.int .u8 0, .string ⟨#[]⟩, .int .i64 0, .int .i64 0, .int .i64 0, .int .i64 0, .int .i64 0] 47)) w.heap.size) := heap_alloc_new w _
  go_enter Tryd.func36, Tryd.ntmps36
  go_wp2
  generalize hW1 : w.alloc (.cells #[.int .u8 0, .string ⟨#[]⟩, .int .i64 0, .int .i64 0, .int .i64 0, .int .i64 0, .int .i64 0] 47) = W1 at *
  have hsz := hb0.out.size
  have hlt0 : w.heap.size < W1.heap.size := (Array.getElem?_eq_some_iff.1 hk0.out).1
  replace hW1 := Lib.hid hW1
  go_loop [5] (fun t5 => ∃ j : Nat, j ≤ n ∧ t5 = .int .i64 ((i + j : Nat) : Int)) (fun t5 => i + n - (intOf t5).toNat)
  case atStart => exact ⟨0, by omega, rfl⟩
  case round =>
    obtain ⟨j, hj, rfl⟩ := hrel
    rcases Nat.lt_or_ge j n with hlt | hge
    · obtain ⟨hi2, hp⟩ := hyes.out j hlt
      have hi3 : ((i + j : Nat) : Int) < (s.size : Int) := by omega
      generalize hq : i + j = q at *
      have k1 := Lib.hid (fun W => calls_at (refDig_any s[q] W) hp)
      clear hp
      go_wp2_with fail
      refine (k1.out _).mono ?_
      rintro e w' ⟨rfl, rfl⟩
      go_wp2
      go_round
      case rel => exact ⟨j + 1, by omega, by rw [show i + (j + 1) = q + 1 by omega]; go_num⟩
      case measure => simp [intOf]; omega
    · obtain rfl : j = n := by omega
      have hA : (((s[i].toNat : Int) == 48) = true ∧ (i : Int) + 1 < ((i + j : Nat) : Int) ∧ V = toldV 0 [] 0 0 0 (i + 1) 9) ∨ ((((s[i].toNat : Int) == 48) = false ∨ (((s[i].toNat : Int) == 48) = true ∧ ¬ (i : Int) + 1 < ((i + j : Nat) : Int))) ∧ (s[i].toNat ≠ 48 ∨ ¬ 1 < j)) := by
        by_cases h48 : s[i].toNat = 48
        · by_cases h1 : 1 < j
          · left
            refine ⟨by rw [h48]; rfl, by omega, ?_⟩
            rw [← hV.out, hzero.out h48 h1]; rfl
          · right
            exact ⟨.inr ⟨by rw [h48]; rfl, by omega⟩, .inr h1⟩
        · right
          exact ⟨.inl (beq_eq_false_iff_ne.2 (by omega)), .inl h48⟩
      have hO := over_w hDl
      have hji : ((i + j : Nat) : Int) - (i : Int) = (j : Int) := by omega
      have hiq : (i : Int) ≤ ((i + j : Nat) : Int) := by omega
      have hqs : ((i + j : Nat) : Int) ≤ (s.size : Int) := by omega
      have hz2 : i + j < s.size := h1
      have hp2 := hno.out j rfl hz2
      have hz3 : ((i + j : Nat) : Int) < (s.size : Int) := by omega
      have k1 := Lib.hid (fun W => calls_at (refDig_any s[i + j] W) hp2)
      rcases hA with ⟨a1, a2, hv⟩ | ⟨a1, a2⟩
      · replace hv := Lib.hid hv
        clear hO hrest hzero hji
        go_wp2_with (first | (go_at_call 35; refine (k1.out _).mono ?_; rintro e w' ⟨rfl, rfl⟩) | (go_at_call 50; refine (refWrong_any (i + 1) 9 _).mono ?_; rintro e' w' ⟨rfl, hw⟩; have hk2 : Told0 w' w.heap.size := (by rw [hw]; exact hk0.out.alloc _); have hb2 : Below w.heap.size w w' := (by rw [hw]; exact hb0.out.alloc hsz _); replace hw := Lib.hid hw; obtain ⟨x0, x1, x2, x3, x4, x5, x6⟩ := told0_cells hk2; obtain ⟨y0, y1, y2, y3, y4, y5, y6⟩ := told0_frozen hk2))
        refine bodyPost_ret (results_cell_row rfl _ _ w.heap.size _ _ (0, 0) _ rfl (told_set7 hk2 _ _ _ _ _ _ _) Tryd.underlying47 rfl (by kernel_rfl)) rfl ⟨?_, below_set7 hb2 (Nat.le_refl _) _ _ _ _ _ _ _⟩
        rw [hv.out]
        simp [resT, toldV]
        try omega
      · have hR := hrest.out a2
        unfold numW at hR
        clear hrest hzero
        rcases hO with ⟨o1, o2⟩ | ⟨o1, o2, o3, o4⟩ | ⟨o1, o2⟩ | ⟨o1, o2, o3⟩ | ⟨o1, o2, o3, o4⟩
        case inl =>
          clear a2
          rw [o1, if_pos rfl] at hR
          have hv : V = toldV 0 [] 0 0 0 i 2 := by rw [← hV.out, hR]; rfl
          replace hv := Lib.hid hv
          clear hR
          have o2i : (19 : Int) < (i : Int) + (j : Int) - (i : Int) := by omega
          rcases a1 with a1 | ⟨a1, a2⟩
          case inr => exfalso; omega
          replace o2 := Lib.hid o2
          go_wp2_with (first | (go_at_call 35; refine (k1.out _).mono ?_; rintro e w' ⟨rfl, rfl⟩) | (go_at_call 50; refine (refWrong_any i 2 _).mono ?_; rintro e' w' ⟨rfl, hw⟩; have hk2 : Told0 w' w.heap.size := (by rw [hw]; exact hk0.out.alloc _); have hb2 : Below w.heap.size w w' := (by rw [hw]; exact hb0.out.alloc hsz _); replace hw := Lib.hid hw; obtain ⟨x0, x1, x2, x3, x4, x5, x6⟩ := told0_cells hk2; obtain ⟨y0, y1, y2, y3, y4, y5, y6⟩ := told0_frozen hk2))
          refine bodyPost_ret (results_cell_row rfl _ _ w.heap.size _ _ (0, 0) _ rfl (told_set7 hk2 _ _ _ _ _ _ _) Tryd.underlying47 rfl (by kernel_rfl)) rfl ⟨?_, below_set7 hb2 (Nat.le_refl _) _ _ _ _ _ _ _⟩
          rw [hv.out]
          simp [resT, toldV]
          try omega
        case inr.inl =>
          clear a2
          rw [o1, if_pos rfl] at hR
          have hv : V = toldV 0 [] 0 0 0 i 2 := by rw [← hV.out, hR]; rfl
          replace hv := Lib.hid hv
          clear hR
          have o2i : ¬ (19 : Int) < (i : Int) + (j : Int) - (i : Int) := by omega
          have o2j : ((i : Int) + (j : Int) - (i : Int) == 19) = true := beq_iff_eq.2 (by omega)
          have hxx := hx.out
          unfold maxL at o3 o4
          rcases a1 with a1 | ⟨a1, a2⟩
          case inr => exfalso; omega
          replace o2 := Lib.hid o2
          go_wp2_with (first | (go_at_call 35; refine (k1.out _).mono ?_; rintro e w' ⟨rfl, rfl⟩) | (go_at_call 50; refine (refWrong_any i 2 _).mono ?_; rintro e' w' ⟨rfl, hw⟩; have hk2 : Told0 w' w.heap.size := (by rw [hw]; exact hk0.out.alloc _); have hb2 : Below w.heap.size w w' := (by rw [hw]; exact hb0.out.alloc hsz _); replace hw := Lib.hid hw; obtain ⟨x0, x1, x2, x3, x4, x5, x6⟩ := told0_cells hk2; obtain ⟨y0, y1, y2, y3, y4, y5, y6⟩ := told0_frozen hk2))
          refine bodyPost_ret (results_cell_row rfl _ _ w.heap.size _ _ (0, 0) _ rfl (told_set7 hk2 _ _ _ _ _ _ _) Tryd.underlying47 rfl (by kernel_rfl)) rfl ⟨?_, below_set7 hb2 (Nat.le_refl _) _ _ _ _ _ _ _⟩
          rw [hv.out]
          simp [resT, toldV]
          try omega
        all_goals exact absurd ⟨a2, o1⟩ h2.out
end Go.Proofs.YtmgbebpkkidooaaDoor
