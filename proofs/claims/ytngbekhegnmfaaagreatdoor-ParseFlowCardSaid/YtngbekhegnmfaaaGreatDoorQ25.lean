/- A part of the proof: TNe, TDocN, TDocU, TDocV. No condition. -/
import Derived.Test.YtngbekhegnmfaaaGreatDoorQ21
import Derived.Test.YtngbekhegnmfaaaGreatDoorQ23
import Derived.Test.YtngbekhegnmfaaaGreatDoorQ24
set_option linter.unusedVariables false
set_option linter.unusedSimpArgs false
namespace Go.Proofs.YtngbekhegnmfaaaGreatDoor
open Go.RowKit Tok
set_option maxRecDepth 20000 in
set_option maxHeartbeats 16000000 in
theorem num_full_ok (s : ByteArray) (i : Nat) (w : World) (hs : s.size ≤ 1000000) (hi : i < s.size) (hd : digC s[i] = true) (h1 : ¬ i + span digC (s.data.toList.drop i) < s.size) (h2 : NumOk s i hi) :
   Calls Tryz.prog 114 #[.string s, .int .i64 i] w fun e w' => e = .returned (resT i (numT (s.data.toList.drop i))) ∧ Below w.heap.size w w' := by
 have hyes := Lib.hid (fun j => span_yes_at (p := digC) (s := s) (i := i) (j := j));have hno := Lib.hid (fun j => span_no_at (p := digC) (s := s) (i := i) (j := j));have hle := span_le (p := digC) (s.data.toList.drop i);rw [List.length_drop, size_list] at hle;have hL := at_drop hi;have hpos : 0 < span digC (s.data.toList.drop i) := by rw [hL]; exact span_pos _ hd
 obtain ⟨hDa, hDl⟩ := span_take9 (p := digC) (s.data.toList.drop i);have hrest : s[i].toNat ≠ 48 ∨ ¬ 1 < span digC (s.data.toList.drop i) → numT (s.data.toList.drop i) = numW ((s.data.toList.drop i).take (span digC (s.data.toList.drop i))) ((s.data.toList.drop i).drop (span digC (s.data.toList.drop i))) (span digC (s.data.toList.drop i)) := by
   intro h;have h1 := numT_rest (r := s.data.toList.drop (i + 1)) hd (by rw [← hL]; exact h);rw [← hL] at h1;exact h1
 have hzero : s[i].toNat = 48 → 1 < span digC (s.data.toList.drop i) → numT (s.data.toList.drop i) = .bad 1 9 := by
   intro h1 h2;rw [hL] at h2 ⊢;exact numT_zero h1 h2
 obtain ⟨V, hV⟩ := exHid (resT i (numT (s.data.toList.drop i)));rw [hV.out];replace hrest := Lib.hid hrest;replace hzero := Lib.hid hzero;have hx := Lib.hid (extract_piece s i (span digC (s.data.toList.drop i)));obtain ⟨D, hD⟩ := exHid ((s.data.toList.drop i).take (span digC (s.data.toList.drop i)));rw [hD.out] at hDa hDl hx hrest;unfold NumOk at h2;rw [hD.out] at h2;obtain ⟨n, hn⟩ := exHid (span digC (s.data.toList.drop i));rw [hn.out] at hyes hno hle hpos hDl hx hrest hzero;rw [hn.out] at h1 h2;replace h2 := Lib.hid h2;have hDd : Hid (∀ j (hj : j < n) (hz : i + j < s.size), D.take (j + 1) = D.take j ++ [s[i + j]]) := by
   intro j hj hz;have hjl : j < D.length := by omega
   rw [List.take_succ_eq_append_getElem hjl]
   congr 2
   have hd2 := hD.out;rw [hn.out] at hd2;subst hd2;rw [List.getElem_take, List.getElem_drop];rfl
 have hb0 := Lib.hid ((Below.refl w.heap.size w).alloc (Nat.le_refl _) (.cells #[.int .u8 0, .string ⟨#[]⟩, .int .i64 0, .int .i64 0, .int .i64 0, .int .i64 0, .int .i64 0] 107));have hk0 : Hid (Told0 (w.alloc (.cells #[.int .u8 0, .string ⟨#[]⟩, .int .i64 0, .int .i64 0, .int .i64 0, .int .i64 0, .int .i64 0] 107)) w.heap.size) := heap_alloc_new w _;go_enter Tryz.func114, Tryz.ntmps114
 go_wp2
 generalize hW1 : w.alloc (.cells #[.int .u8 0, .string ⟨#[]⟩, .int .i64 0, .int .i64 0, .int .i64 0, .int .i64 0, .int .i64 0] 107) = W1 at *;have hsz := hb0.out.size;have hlt0 : w.heap.size < W1.heap.size := (Array.getElem?_eq_some_iff.1 hk0.out).1;replace hW1 := Lib.hid hW1;go_loop [5] (fun t5 => ∃ j : Nat, j ≤ n ∧ t5 = .int .i64 ((i + j : Nat) : Int)) (fun t5 => i + n - (intOf t5).toNat)
 case atStart => exact ⟨0, by omega, rfl⟩
 case round =>
   obtain ⟨j, hj, rfl⟩ := hrel;rcases Nat.lt_or_ge j n with hlt | hge
   · obtain ⟨hi2, hp⟩ := hyes.out j hlt
     have hi3 : ((i + j : Nat) : Int) < (s.size : Int) := by omega
     generalize hq : i + j = q at *;have k1 := Lib.hid (fun W => calls_at (refDig_any s[q] W) hp);clear hp;go_wp2_with fail
     refine (k1.out _).mono ?_;rintro e w' ⟨rfl, rfl⟩;go_wp2
     go_round
     case rel => exact ⟨j + 1, by omega, by rw [show i + (j + 1) = q + 1 by omega]; go_num⟩
     case measure => simp [intOf]; omega
   · obtain rfl : j = n := by omega
     have hA : (((s[i].toNat : Int) == 48) = true ∧ (i : Int) + 1 < ((i + j : Nat) : Int) ∧ V = toldV 0 [] 0 0 0 (i + 1) 9) ∨ ((((s[i].toNat : Int) == 48) = false ∨ (((s[i].toNat : Int) == 48) = true ∧ ¬ (i : Int) + 1 < ((i + j : Nat) : Int))) ∧ (s[i].toNat ≠ 48 ∨ ¬ 1 < j)) := by
       by_cases h48 : s[i].toNat = 48
       · by_cases h1 : 1 < j
         · left
           refine ⟨by rw [h48]; rfl, by omega, ?_⟩;rw [← hV.out, hzero.out h48 h1]; rfl
         · right
           exact ⟨.inr ⟨by rw [h48]; rfl, by omega⟩, .inr h1⟩
       · right
         exact ⟨.inl (beq_eq_false_iff_ne.2 (by omega)), .inl h48⟩
     have hO := over_w hDl;have hji : ((i + j : Nat) : Int) - (i : Int) = (j : Int) := by omega
     have hiq : (i : Int) ≤ ((i + j : Nat) : Int) := by omega
     have hqs : ((i + j : Nat) : Int) ≤ (s.size : Int) := by omega
     have hz2 : s.size ≤ i + j := by omega
     have hz3 : ¬ ((i + j : Nat) : Int) < (s.size : Int) := by omega
     rcases hA with ⟨a1, a2, hv⟩ | ⟨a1, a2⟩
     · exfalso
       have q1 := h2.out.1;have q2 := beq_iff_eq.1 a1;omega
     · have hR := hrest.out a2
       unfold numW at hR;clear hrest hzero;rcases hO with ⟨o1, o2⟩ | ⟨o1, o2, o3, o4⟩ | ⟨o1, o2⟩ | ⟨o1, o2, o3⟩ | ⟨o1, o2, o3, o4⟩
       case inl => exfalso; have q := h2.out.2; rw [o1] at q; cases q
       case inr.inl => exfalso; have q := h2.out.2; rw [o1] at q; cases q
       all_goals
         clear a2;rw [o1, if_neg (by simp)] at hR;have hmax := Lib.hid (over_max hDa o1);have o2i : ¬ (19 : Int) < (i : Int) + (j : Int) - (i : Int) := by omega
         first
         | (have o2j : ((i : Int) + (j : Int) - (i : Int) == 19) = false := beq_eq_false_iff_ne.2 (by omega))
         | (have o2j : ((i : Int) + (j : Int) - (i : Int) == 19) = true := beq_iff_eq.2 (by omega); have hxx := hx.out; unfold maxL at o3; try unfold maxL at o4)
         replace o2 := Lib.hid o2;rw [List.drop_drop, no_drop hz2] at hR;simp only at hR;have hv : V = toldV 2 [] (numV D) i (i + j) 0 0 := by rw [← hV.out, hR]; rfl
         replace hv := Lib.hid hv;clear hR;rcases a1 with a1 | ⟨a1, a2⟩
         all_goals try (exfalso; have := o2.out; omega)
         all_goals
           go_wp2
           go_loop [6, 7] (fun t6 t7 => ∃ m : Nat, m ≤ j ∧ t6 = .int .i64 ((numV (D.take m) : Nat) : Int) ∧ t7 = .int .i64 ((i + m : Nat) : Int)) (fun _ t7 => i + j - (intOf t7).toNat)
           case atStart => exact ⟨0, by omega, by simp [numV], rfl⟩
           case round =>
             obtain ⟨m, hm, rfl, rfl⟩ := hrel;rcases Nat.lt_or_ge m j with hmj | hmj
             · obtain ⟨hz, hpm⟩ := hyes.out m hmj
               have hmi : ((i + m : Nat) : Int) < ((i + j : Nat) : Int) := by omega
               have hmz : ((i + m : Nat) : Int) < (s.size : Int) := by omega
               have hnext : numV (D.take (m + 1)) = 10 * numV (D.take m) + (s[i + m].toNat - 48) := by rw [hDd.out m hmj hz, numV_snoc]
               have hmost : numV (D.take (m + 1)) ≤ 9223372036854775807 := Nat.le_trans numV_take_le hmax.out;have hdg := of_decide_eq_true hpm;have hc8 : IntKind.u8.wrap ((s[i + m].toNat : Int) - 48) = (s[i + m].toNat : Int) - 48 := by rw [IntKind.wrap_u8']; omega
               rw [hnext] at hmost;clear hpm;replace hnext := Lib.hid hnext;generalize numV (D.take m) = x at *;go_wp2
               go_round
               case rel => exact ⟨m + 1, by omega, by rw [hnext.out]; go_num <;> omega, by rw [show i + (m + 1) = i + m + 1 by omega]; go_num⟩
               case measure => simp [intOf]; omega
             · obtain rfl : m = j := by omega
               have hmi : ¬ ((i + m : Nat) : Int) < ((i + m : Nat) : Int) := by omega
               have hfull : D.take m = D := List.take_of_length_le (by omega);rw [hfull];generalize numV D = x at *;obtain ⟨x0, x1, x2, x3, x4, x5, x6⟩ := told0_cells hk0.out;obtain ⟨y0, y1, y2, y3, y4, y5, y6⟩ := told0_frozen hk0.out;go_wp2
               refine bodyPost_ret (results_cell_row rfl _ _ w.heap.size _ _ (0, 0) _ rfl (told_set7 hk0.out _ _ _ _ _ _ _) Tryz.underlying107 rfl (by kernel_rfl)) rfl ⟨?_, below_set7 hb0.out (Nat.le_refl _) _ _ _ _ _ _ _⟩;rw [hv.out];simp [resT, toldV]
               try omega
end Go.Proofs.YtngbekhegnmfaaaGreatDoor
namespace Go.Proofs.YtngbekhegnmfaaaGreatDoor
open Go.RowKit Tok
theorem refNumber_any (s : ByteArray) (i : Nat) (w : World) (hs : s.size ≤ 1000000) (hi : i < s.size) (hd : digC s[i] = true) :
   Calls Tryz.prog 114 #[.string s, .int .i64 i] w fun e w' => e = .returned (resT i (numT (s.data.toList.drop i))) ∧ Below w.heap.size w w' := by
 by_cases h1 : i + span digC (s.data.toList.drop i) < s.size
 · by_cases h2 : NumOk s i hi
   · rcases h3 : wordC s[i + span digC (s.data.toList.drop i)] with _ | _
     · exact num_short_ok s i w hs hi hd h1 h2 h3
     · exact num_short_word s i w hs hi hd h1 h2 h3
   · exact num_short_bad s i w hs hi hd h1 h2
 · by_cases h2 : NumOk s i hi
   · exact num_full_ok s i w hs hi hd h1 h2
   · exact num_full_bad s i w hs hi hd h1 h2
end Go.Proofs.YtngbekhegnmfaaaGreatDoor
namespace Go.Proofs.YtngbekhegnmfaaaGreatDoor
open Go.RowKit Tok
theorem resT_cells (i : Nat) (R : Res) : ∃ kd tx x at_ en a e, resT i R = toldV kd tx x at_ en a e := by
 cases R with
 | ok kd tx x n => exact ⟨_, _, _, _, _, _, _, rfl⟩
 | bad n e => exact ⟨_, _, _, _, _, _, _, rfl⟩
set_option maxRecDepth 20000 in
set_option maxHeartbeats 4000000 in
theorem refOne_any (s : ByteArray) (i : Nat) (w : World) (hs : s.size ≤ 1000000) (hi : i < s.size) :
   Calls Tryz.prog 83 #[.string s, .int .i64 i] w fun e w' => e = .returned (resT i (tokT (s.data.toList.drop i))) ∧ Below w.heap.size w w' := by
 have hd := at_drop hi;have hb0 := Lib.hid ((Below.refl w.heap.size w).alloc (Nat.le_refl _) (.cells #[.int .u8 0, .string ⟨#[]⟩, .int .i64 0, .int .i64 0, .int .i64 0, .int .i64 0, .int .i64 0] 107));have hk0 : Hid (Told0 (w.alloc (.cells #[.int .u8 0, .string ⟨#[]⟩, .int .i64 0, .int .i64 0, .int .i64 0, .int .i64 0, .int .i64 0] 107)) w.heap.size) := heap_alloc_new w _;have hlt : w.heap.size < (w.alloc (.cells #[.int .u8 0, .string ⟨#[]⟩, .int .i64 0, .int .i64 0, .int .i64 0, .int .i64 0, .int .i64 0] 107)).heap.size := by simp
 obtain ⟨R, hR⟩ := exHid (tokT (s.data.toList.drop i));rw [hR.out];have hR2 := hR.out;rw [hd, tokT_cons, ← hd] at hR2;clear hR;rcases c1 : lowC s[i] with _ | _
 · have k1 := Lib.hid (fun W => calls_at (refLow_any s[i] W) c1)
   rw [c1, if_neg (by simp)] at hR2;rcases c2 : digC s[i] with _ | _
   · have k2 := Lib.hid (fun W => calls_at (refDig_any s[i] W) c2)
     rw [c2, if_neg (by simp)] at hR2;by_cases c34 : s[i].toNat = 34
     · rw [if_pos c34] at hR2
       have q34 : ((s[i].toNat : Int) == 34) = true := by rw [c34]; rfl
       have k3 := Lib.hid (fun W => refText_any s i W hs hi);rw [hR2] at k3;obtain ⟨kd, tx, x, at_, en, a, e, hv⟩ := resT_cells i R;rw [hv] at k3 ⊢;unfold toldV at k3 ⊢;replace c34 := Lib.hid c34;clear c1 c2 hR2 hd;replace hv := Lib.hid hv;go_enter Tryz.func83, Tryz.ntmps83
       go_wp2_with fail
       refine (k1.out _).mono ?_;rintro e' w' ⟨rfl, rfl⟩;go_wp2_with fail
       refine (k2.out _).mono ?_;rintro e' w' ⟨rfl, rfl⟩;go_wp2_with fail
       refine (k3.out _).mono ?_;rintro e' w3 ⟨rfl, hb3⟩;have hk2 := hk0.out.below hb3 hlt;have hb2 : Below w.heap.size w w3 := hb0.out.trans (hb3.mono (Nat.le_of_lt hlt));obtain ⟨x0, x1, x2, x3, x4, x5, x6⟩ := told0_cells hk2;obtain ⟨y0, y1, y2, y3, y4, y5, y6⟩ := told0_frozen hk2;go_wp2
       refine bodyPost_ret (results_cell_row rfl _ _ w.heap.size _ _ (0, 0) _ rfl (told_set7 hk2 _ _ _ _ _ _ _) Tryz.underlying107 rfl (by kernel_rfl)) rfl ⟨rfl, below_set7 hb2 (Nat.le_refl _) _ _ _ _ _ _ _⟩
     · rw [if_neg c34] at hR2
       have q34 : ((s[i].toNat : Int) == 34) = false := beq_eq_false_iff_ne.2 (by omega);have k3 := Lib.hid (fun W => refSign_any s i W hs hi);rw [hR2] at k3;obtain ⟨kd, tx, x, at_, en, a, e, hv⟩ := resT_cells i R;rw [hv] at k3 ⊢;unfold toldV at k3 ⊢;clear c1 c2 hR2 hd;replace hv := Lib.hid hv;go_enter Tryz.func83, Tryz.ntmps83
       go_wp2_with fail
       refine (k1.out _).mono ?_;rintro e' w' ⟨rfl, rfl⟩;go_wp2_with fail
       refine (k2.out _).mono ?_;rintro e' w' ⟨rfl, rfl⟩;go_wp2_with fail
       refine (k3.out _).mono ?_;rintro e' w3 ⟨rfl, hb3⟩;have hk2 := hk0.out.below hb3 hlt;have hb2 : Below w.heap.size w w3 := hb0.out.trans (hb3.mono (Nat.le_of_lt hlt));obtain ⟨x0, x1, x2, x3, x4, x5, x6⟩ := told0_cells hk2;obtain ⟨y0, y1, y2, y3, y4, y5, y6⟩ := told0_frozen hk2;go_wp2
       refine bodyPost_ret (results_cell_row rfl _ _ w.heap.size _ _ (0, 0) _ rfl (told_set7 hk2 _ _ _ _ _ _ _) Tryz.underlying107 rfl (by kernel_rfl)) rfl ⟨rfl, below_set7 hb2 (Nat.le_refl _) _ _ _ _ _ _ _⟩
   · have k2 := Lib.hid (fun W => calls_at (refDig_any s[i] W) c2)
     rw [c2, if_pos rfl] at hR2;have k3 := Lib.hid (fun W => refNumber_any s i W hs hi c2);rw [hR2] at k3;obtain ⟨kd, tx, x, at_, en, a, e, hv⟩ := resT_cells i R;rw [hv] at k3 ⊢;unfold toldV at k3 ⊢;clear c1 c2 hR2 hd;replace hv := Lib.hid hv;go_enter Tryz.func83, Tryz.ntmps83
     go_wp2_with fail
     refine (k1.out _).mono ?_;rintro e' w' ⟨rfl, rfl⟩;go_wp2_with fail
     refine (k2.out _).mono ?_;rintro e' w' ⟨rfl, rfl⟩;go_wp2_with fail
     refine (k3.out _).mono ?_;rintro e' w3 ⟨rfl, hb3⟩;have hk2 := hk0.out.below hb3 hlt;have hb2 : Below w.heap.size w w3 := hb0.out.trans (hb3.mono (Nat.le_of_lt hlt));obtain ⟨x0, x1, x2, x3, x4, x5, x6⟩ := told0_cells hk2;obtain ⟨y0, y1, y2, y3, y4, y5, y6⟩ := told0_frozen hk2;go_wp2
     refine bodyPost_ret (results_cell_row rfl _ _ w.heap.size _ _ (0, 0) _ rfl (told_set7 hk2 _ _ _ _ _ _ _) Tryz.underlying107 rfl (by kernel_rfl)) rfl ⟨rfl, below_set7 hb2 (Nat.le_refl _) _ _ _ _ _ _ _⟩
 · have k1 := Lib.hid (fun W => calls_at (refLow_any s[i] W) c1)
   rw [c1, if_pos rfl] at hR2;have k3 := Lib.hid (fun W => refWord_any s i W hs (Nat.le_of_lt hi));rw [hR2] at k3;obtain ⟨kd, tx, x, at_, en, a, e, hv⟩ := resT_cells i R;rw [hv] at k3 ⊢;unfold toldV at k3 ⊢;clear c1 hR2 hd;replace hv := Lib.hid hv;go_enter Tryz.func83, Tryz.ntmps83
   go_wp2_with fail
   refine (k1.out _).mono ?_;rintro e' w' ⟨rfl, rfl⟩;go_wp2_with fail
   refine (k3.out _).mono ?_;rintro e' w3 ⟨rfl, hb3⟩;have hk2 := hk0.out.below hb3 hlt;have hb2 : Below w.heap.size w w3 := hb0.out.trans (hb3.mono (Nat.le_of_lt hlt));obtain ⟨x0, x1, x2, x3, x4, x5, x6⟩ := told0_cells hk2;obtain ⟨y0, y1, y2, y3, y4, y5, y6⟩ := told0_frozen hk2;go_wp2
   refine bodyPost_ret (results_cell_row rfl _ _ w.heap.size _ _ (0, 0) _ rfl (told_set7 hk2 _ _ _ _ _ _ _) Tryz.underlying107 rfl (by kernel_rfl)) rfl ⟨rfl, below_set7 hb2 (Nat.le_refl _) _ _ _ _ _ _ _⟩
end Go.Proofs.YtngbekhegnmfaaaGreatDoor
namespace Go.Proofs.YtngbekhegnmfaaaGreatDoor
open Go.RowKit Tok
theorem tone_cell (w : World) (cs : Array Value) (t : TypeId) (j : Nat) : (w.alloc (.cells cs t)).cell? ⟨w.heap.size, j, none⟩ = cs[j]? := by
 have h := heap_alloc_new w (Obj.cells cs t);simp only [World.cell?, h];rfl
theorem tok_bad {c : UInt8} {r : List UInt8} {k e : Nat} (h : tokT (c :: r) = .bad k e) : e ≠ 0 := by
 rw [tokT_cons] at h;by_cases h1 : lowC c = true
 · rw [if_pos h1] at h
   unfold wordT at h;split at h
   · cases h; omega
   · cases h
 · rw [if_neg h1] at h
   by_cases h2 : digC c = true
   · rw [if_pos h2] at h
     rcases num_res (c :: r) with ⟨k', e', h3, h4, _⟩ | ⟨x, k', h3, _⟩
     · rw [h3] at h; cases h; exact h4
     · rw [h3] at h; cases h
   · rw [if_neg h2] at h
     by_cases h3 : c.toNat = 34
     · rw [if_pos h3] at h
       rcases text_res (c :: r) with ⟨k', e', h4, h5⟩ | ⟨tx, k', h4⟩
       · rw [h4] at h; cases h; exact h5
       · rw [h4] at h; cases h
     · rw [if_neg h3] at h
       have : ∀ ss : List (List UInt8), signGo ss (c :: r) = .bad k e → e ≠ 0 := by
         intro ss
         induction ss with
         | nil =>
           intro h;obtain ⟨k', e', h4, h5, _⟩ := none_res (c :: r);have h6 : noneT (c :: r) = .bad k e := h;rw [h4] at h6; cases h6; exact h5
         | cons t ts ih =>
           intro h;unfold signGo at h;split at h
           · cases h
           · exact ih h
       exact this signs h
theorem wpList_append_tk2 {w : World} {base : Nat} {v : Value} {ts : List Tk} {ops : Array Oper} {rest : List Oper} {o : Oper} {a : Act} {Q : Exit → Act → World → Prop} (hgd : o.guard = none) (s x : Operand)
   (ho : o.op = .call { callee := .builtin .append, args := #[s, x], argTypes := #[40, 40] })
   (hs : a.eval s = v) (hown : TksAt w base v ts) (t : Tk) {w2 : World} (hw : w = w2.alloc (.cells (tkC t).toArray 60)) {q : Nat} (hx : a.eval x = .slice (some ⟨q, 0, none⟩) 1 1) (hq : q = w2.heap.size)
   (hk : ts.length ≤ 1000000000) (hbase : base ≤ w.heap.size)
   (h : ∀ a' cap w', TksAt w' base (.slice a' (ts.length + 1) cap) (ts ++ [t]) → Below base w w' → (∀ p : Addr, p.block < w.heap.size → some p.block ≠ v.ownBlock → w'.cell? p = w.cell? p) → wpList Tryz.prog ops Q rest (a.put o.dst (.slice a' (ts.length + 1) cap)) w') : wpList Tryz.prog ops Q (o :: rest) a w := by
 obtain ⟨i0, hi, hz0, hz1, hz2⟩ := tk_parts;subst hw;subst hq;refine wpList_append_own_at _ hgd s x 40 ho base 60 i0 (.agg #[.int .u8 0, .string ⟨#[]⟩, .int .i64 0, .int .i64 0]) 4 40 Tryz.underlying40 hi hz0 hz1 hz2 rfl (by decide) v ts.length (rowOf tkC ts) hs hown ⟨w2.heap.size, 0, none⟩ 1 1 (tkC t) hx rfl (fun j u hj => cells_new w2 (tkC t) _ j u hj) (tkC_one t) (by unfold maxLen; omega) (by omega) hbase ?_;intro v' w' h2 h3 _ _;obtain ⟨a', cap, rfl, _⟩ := ownsRow_shape h2;refine h a' cap w' ?_ ((Below.refl base _).grown h3 hbase (fun k hk => (World.ownsRow.lt hown k hk).1)) (fun p hp hne => h3.cell_far p hp hne);unfold TksAt;rw [rowOf_snoc, List.length_append];exact h2
theorem skip_at {s : ByteArray} {i n : Nat} (hs : s.size ≤ 1000000) (h : i + n ≤ s.size) (w : World) :
   Calls Tryz.prog 82 #[.string s, .int .i64 ((i : Int) + (n : Int))] w fun e w' => ∃ j : Nat, e = .returned (.int .i64 j) ∧ i + n ≤ j ∧ j ≤ s.size ∧ (∀ ts, allR (s.data.toList.drop (i + n)) (i + n) ts = allR (s.data.toList.drop j) j ts) ∧ (∀ h : j < s.size, s[j].toNat ≠ 32 ∧ s[j].toNat ≠ 10 ∧ s[j].toNat ≠ 35) ∧ w' = w := by
 have := refSkip_any s (i + n) w hs h
 rwa [show ((i + n : Nat) : Int) = (i : Int) + (n : Int) by omega] at this
set_option maxRecDepth 20000 in
set_option maxHeartbeats 4000000 in
theorem refAll_any (s : ByteArray) (w : World) (hs : s.size ≤ 16384) :
   Calls Tryz.prog 43 #[.string s] w fun e w' => ∃ v', e = .returned (.tuple #[v', .int .i64 (allT s.data.toList).at_, .int .i64 (allT s.data.toList).code]) ∧ TksAt w' w.heap.size v' (allT s.data.toList).toks ∧ Below w.heap.size w w' := by
 have hT0 : allT s.data.toList = allR s.data.toList 0 [] := if_neg (by rw [size_list]; omega);rw [hT0];obtain ⟨R, hR⟩ := exHid (allR s.data.toList 0 []);rw [hR.out];clear hT0;have hlen : ¬ (16384 : Int) < (s.size : Int) := by omega
 go_enter Tryz.func43, Tryz.ntmps43
 go_wp2_with fail
 refine (refSkip_any s 0 _ (by omega) (by omega)).mono ?_;rintro e w1 ⟨j0, rfl, _, hj0, hsk, hst, rfl⟩;have hR0 : Hid (allR (s.data.toList.drop j0) j0 [] = R) := by
   have := hsk [];rw [List.drop_zero] at this;exact this.symm.trans hR.out
 replace hsk := Lib.hid hsk;replace hst := Lib.hid hst;go_wp2
 go_loopw [5, 6, 7] (fun t5 t6 _ wr => ∃ (i : Nat) (ks : List Tk), i ≤ s.size ∧ t6 = .int .i64 i ∧ ks.length ≤ i ∧ Hid (∀ h : i < s.size, s[i].toNat ≠ 32 ∧ s[i].toNat ≠ 10 ∧ s[i].toNat ≠ 35) ∧ Hid (TksAt wr w1.heap.size t5 ks) ∧ Hid (Below w1.heap.size w1 wr) ∧ Hid (allR (s.data.toList.drop i) i ks = R)) (fun _ t6 _ _ => s.size - (intOf t6).toNat)
 case atStart => exact ⟨j0, [], hj0, rfl, by simp, hst, TksAt.nil _ _, Below.refl _ _, hR0⟩
 case round =>
   obtain ⟨i, ks, hi, rfl, hki, hnb, hB, hb, hT⟩ := hrel;obtain ⟨a5, cap5, rfl, _, _⟩ := hB.out.shape;have hsz := hb.out.size;rcases Nat.lt_or_ge i s.size with hlt | hge
   · have hlti : (i : Int) < (s.size : Int) := by omega
     obtain ⟨n1, n2, n3⟩ := hnb.out hlt;have k := Lib.hid (fun W => refOne_any s i W (by omega) hlt);have hT' := hT.out;have hle := tokT_le (s.data.toList.drop i);rw [at_drop hlt] at hT' hle;rw [at_drop hlt] at k;rcases ht : tokT (s[i] :: s.data.toList.drop (i + 1)) with ⟨kd, tx, x, n⟩ | ⟨n, e⟩
     · rw [allR_tok i ks (by omega) n3 ht, ← at_drop hlt, List.drop_drop] at hT'
       rw [ht] at k hle;have hnp := tokT_pos ht;simp only [List.length_cons, List.length_drop, size_list] at hle;unfold resT toldV at k;dsimp only at k;have hin : i + n ≤ s.size := by omega
       have kS := Lib.hid (fun W => skip_at (s := s) (i := i) (n := n) (by omega) hin W);have hown : some wr.heap.size ≠ (Value.slice a5 ks.length cap5).ownBlock ∧ ∀ W : Nat, wr.heap.size ≤ W → some W ≠ (Value.slice a5 ks.length cap5).ownBlock := by
         have hlt := fun W (hW : wr.heap.size ≤ W) (he : some W = (Value.slice a5 ks.length cap5).ownBlock) => (by have := (World.ownsRow.lt hB.out W he.symm).2; omega : False)
         exact ⟨fun he => hlt _ (Nat.le_refl _) he, fun W hW he => hlt W hW he⟩
       replace hT' := Lib.hid hT';clear ht hT;go_wp2_with fail
       refine (k.out _).mono ?_;rintro e' w3 ⟨rfl, hb3⟩;have hne := hown.2 w3.heap.size hb3.size;have hb4 := Lib.hid (((below_next hb.out hb3).alloc (below_next hb.out hb3).size (.cells #[.int .u8 kd, .string ⟨tx.toArray⟩, .int .i64 x, .int .i64 i, .int .i64 ((i : Int) + n), .int .i64 0, .int .i64 0] 107)).alloc (by have := (below_next hb.out hb3).size; simp; omega) (.cells (tkC ⟨kd, tx, x, i⟩).toArray 60));have hB4 := Lib.hid ((hB.out.below hb3).below (((Below.refl _ w3).alloc (Nat.le_refl _) (.cells #[.int .u8 kd, .string ⟨tx.toArray⟩, .int .i64 x, .int .i64 i, .int .i64 ((i : Int) + n), .int .i64 0, .int .i64 0] 107)).alloc (by simp) (.cells (tkC ⟨kd, tx, x, i⟩).toArray 60)));have e0 := ttwo_cells w3 #[.int .u8 kd, .string ⟨tx.toArray⟩, .int .i64 x, .int .i64 i, .int .i64 ((i : Int) + n), .int .i64 0, .int .i64 0] 107 (.cells (tkC ⟨kd, tx, x, i⟩).toArray 60);have hlt2 : w3.heap.size < ((w3.alloc (.cells #[.int .u8 kd, .string ⟨tx.toArray⟩, .int .i64 x, .int .i64 i, .int .i64 ((i : Int) + n), .int .i64 0, .int .i64 0] 107)).alloc (.cells (tkC ⟨kd, tx, x, i⟩).toArray 60)).heap.size := by simp; omega
       go_wp2_with (at_builtin; (refine wpList_append_tk2 rfl _ _ rfl rfl hB4.out ⟨kd, tx, x, i⟩ rfl rfl (by simp) (by omega) hb4.out.size ?_; intro a' cap' w5 hB5 hO5 hkp; have d4 := (hkp ⟨w3.heap.size, 4, none⟩ hlt2 hne).trans (e0 4); simp only [List.getElem?_toArray, List.getElem?_cons_succ, List.getElem?_cons_zero] at d4; clear hkp))
       refine (kS.out _).mono ?_;rintro e' w6 ⟨j, rfl, hj1, hj2, hsk2, hst2, rfl⟩;replace hB5 := Lib.hid hB5;replace hsk2 := Lib.hid hsk2;replace hst2 := Lib.hid hst2;go_wp2
       go_roundw
       case rel => exact ⟨j, ks ++ [⟨kd, tx, x, i⟩], hj2, rfl, by simp; omega, hst2, by simpa using hB5, hb4.out.trans hO5, (hsk2.out _).symm.trans hT'.out⟩
       case measure => simp [intOf]; omega
     · rw [allR_bad i ks (by omega) n3 ht] at hT'
       rw [ht] at k;have he := tok_bad ht;unfold resT toldV at k;dsimp only at k;have q : ((e : Int) != 0) = true := by simp; omega
       replace hT' := Lib.hid hT';clear ht hT hle;go_wp2_with fail
       refine (k.out _).mono ?_;rintro e' w3 ⟨rfl, hb3⟩;have hq : ∀ (m j : Nat) (u : Value), (#[.int .u8 0, .string ⟨#[]⟩, .int .i64 0, .int .i64 0, .int .i64 0, .int .i64 ((i : Int) + n), .int .i64 e] : Array Value)[j]? = some u → ((w3.alloc (.cells #[.int .u8 0, .string ⟨#[]⟩, .int .i64 0, .int .i64 0, .int .i64 0, .int .i64 ((i : Int) + n), .int .i64 e] 107)).drewN m).cell? ⟨w3.heap.size, j, none⟩ = some u := fun m j u hu => (tone_cell w3 _ _ j).trans hu;have q5 := fun m => hq m 5 _ rfl
       have q6 := fun m => hq m 6 _ rfl
       clear hq;go_wp2
       go_quiet (fail)
       go_wp2
       go_ret3
       rw [← hT'.out];exact ⟨_, by simp, TksAt.nil _ _, below_drewN ((below_next hb.out hb3).alloc (below_next hb.out hb3).size _) _⟩
   · obtain rfl : i = s.size := by omega
     have hlti : ¬ ((s.size : Int) < (s.size : Int)) := by omega
     have hT' := hT.out;rw [no_drop (Nat.le_refl _), allR_nil] at hT';replace hT' := Lib.hid hT';clear hT;go_wp2
     go_ret3
     rw [← hT'.out];exact ⟨_, rfl, hB.out, hb.out⟩
end Go.Proofs.YtngbekhegnmfaaaGreatDoor
