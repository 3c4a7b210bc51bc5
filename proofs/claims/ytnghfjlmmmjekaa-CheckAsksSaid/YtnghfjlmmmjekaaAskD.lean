/- The document's named (layer 11), walked. No condition. -/
import Derived.Test.YtnghfjlmmmjekaaAskN
import Derived.Sort.Walk0
namespace Go.Proofs.Ytnghfjlmmmjekaa
open Go.RowKit Go.Shelf

theorem drewN_b {b : Nat} {w w' : World} (hb : Below b w w') (n : Nat) : Below b w (w'.drewN n) := ⟨hb.os, hb.tape, hb.output, hb.size, hb.block⟩
theorem NamesAt.low {w : World} {base b : Nat} {v : Value} {L : List (List UInt8)} (h : NamesAt w base v L) (hb : b ≤ base) : NamesAt w b v L := by
  refine ⟨h.1, ?_⟩
  rcases h.2 with h | ⟨g', cap, cur, hv, hbb, hr⟩
  · exact .inl h
  · exact .inr ⟨g', cap, cur, hv, Nat.le_trans hb hbb, hr⟩
theorem SrcN.below {w W : World} {u : Value} {ms : List (List UInt8)} (h : SrcN w u ms) (hb : Below w.heap.size w W) : SrcN W u ms := by
  rcases h with h | ⟨ad, c, e, hc⟩
  · exact .inl h
  · exact .inr ⟨ad, c, e, fun j x hj => Below.keeps hb (hc j x hj)⟩
theorem srcOne (w1 : World) (text : List UInt8) : SrcN (w1.alloc (.cells #[.string ⟨text.toArray⟩] 9)) (.slice (some ⟨w1.heap.size, 0, none⟩) 1 1) [text] :=
  .inr ⟨⟨w1.heap.size, 0, none⟩, 1, rfl, fun j x hj => by
    match j, hj with
    | 0, hj =>
      simp at hj
      subst hj
      have h := heap_alloc_new w1 (.cells #[.string ⟨text.toArray⟩] 9)
      simp only [Addr.add, ↓reduceIte, World.cell?, h]
      rfl⟩
set_option maxRecDepth 20000 in
set_option maxHeartbeats 4000000 in
theorem named11_any {v : Value} {ts : List Tw} (w : World) (hT : TwIn w v ts) (hl : ts.length ≤ 2048) (op : Nat) :
    Calls Try.prog 28 #[v, .int .u8 (op : Int)] w fun e w' => ∃ v', e = .returned v' ∧ NamesAt w' w.heap.size v' (insAll (namesOp op ts) []) ∧ Below w.heap.size w w' := by
  obtain ⟨a, cap, rfl, hlc, hcm, h3⟩ := hT
  replace h3 := Lib.hid h3
  go_enter Try.func28, Try.ntmps28
  go_wp2_with fail
  go_loopw [5, 6, 7, 8] (fun t5 t6 _ _ wr => ∃ i : Nat, i ≤ ts.length ∧ t6 = .int .i64 i ∧ Hid (NamesAt wr w.heap.size t5 (insAll (namesOp op (ts.take i)) [])) ∧ Hid (Below w.heap.size w wr)) (fun _ t6 _ _ _ => ts.length - (intOf t6).toNat)
  case atStart => exact ⟨0, Nat.zero_le _, rfl, Lib.hid (World.ownsRow_nil _ _ _ _), Lib.hid (Below.refl _ _)⟩
  case round =>
    obtain ⟨i, hi, rfl, hN, hb⟩ := hrel
    rcases Nat.lt_or_ge i ts.length with hlt | hge
    · have hlti : (i : Int) < (ts.length : Int) := by omega
      obtain ⟨g, off, rfl, hg, hc⟩ := h3.out (by omega)
      have hY : ∀ c, c < 4 → wr.cell? ⟨g, off + i * 4 + c, none⟩ = (twC ts[i])[c]? := fun c hc4 => (hb.out.cell (p := ⟨g, off + i * 4 + c, none⟩) hg).trans (hc i hlt c hc4)
      have y0 := hY 0 (by omega); have y3 := hY 3 (by omega)
      have hT := namesOp_take (op := op) hlt
      have hbz := hb.out.size
      have hol : (insAll (namesOp op (ts.take i)) []).length ≤ 5000 := by
        have h1 := all_len (namesOp op (ts.take i)) []
        have h2 := namesOp_len op (ts.take i)
        have h4 : (ts.take i).length ≤ ts.length := List.length_take_le' ..
        simp only [List.length_nil] at h1
        omega
      generalize ts[i] = x at *
      obtain ⟨xop, kids, num, text⟩ := x
      simp only [twC, List.getElem?_cons_zero, List.getElem?_cons_succ, Nat.add_zero] at y0 y3
      dsimp only at hT
      clear hY hc
      by_cases hop : xop = op
      · subst hop
        rw [if_pos rfl] at hT
        have hq : ((xop : Int) != (xop : Int)) = false := by simp
        have hsn := all_snoc text (namesOp xop (ts.take i))
        rw [← hT] at hsn
        generalize hout : insAll (namesOp xop (ts.take i)) [] = out at *
        replace hout := Lib.hid hout
        replace hsn := Lib.hid hsn
        obtain ⟨oa, oc, rfl, ho1, ho2⟩ := id hN.out.shape
        clear hT
        obtain ⟨wo, rfl⟩ : ∃ wo, wo = wr := ⟨_, rfl⟩
        go_wp2_with fail
        go_loopw [7] (fun t7 wq => ∃ k : Nat, k ≤ out.length ∧ t7 = .int .i64 k ∧ Hid (Below wo.heap.size wo wq) ∧ Hid (∀ x ∈ out.take k, x < text)) (fun t7 _ => out.length - (intOf t7).toNat)
        case atStart => exact ⟨0, Nat.zero_le _, rfl, Lib.hid (Below.refl _ _), Lib.hid (fun x hx => by simp at hx)⟩
        case round =>
          obtain ⟨k, hk, rfl, hbq, hF⟩ := hrel
          have y3q := Below.keeps hbq.out y3
          have hNq := Lib.hid (hN.out.below hbq.out)
          have hzq := hbq.out.size
          rcases Nat.lt_or_ge k out.length with hkl | hkg
          · have hki : (k : Int) < (out.length : Int) := by omega
            obtain ⟨go, co, e, hco⟩ := hNq.out.cellAt hkl
            injection e with e1 e2 e3
            subst e1 e3
            have hat : ¬ out[k] < text → (out[k] = text → insU text out = out) ∧ (out[k] ≠ text → insU text out = out.take k ++ [text] ++ out.drop k) := fun h => ⟨fun e => (ins_at hk hF.out (fun _ => h)).1 hkl e, fun e => (ins_at hk hF.out (fun _ => h)).2 (fun _ => e)⟩
            have htk : out.take (k + 1) = out.take k ++ [out[k]] := by rw [List.take_add_one, List.getElem?_eq_getElem hkl]; rfl
            generalize hok : out[k] = s0 at *
            unfold strV at hco
            by_cases hls : s0 < text
            · have hq1 : Op.bytesLess s0 text = true := by rw [bytesLess_eq]; exact decide_eq_true hls
              have hF2 : Hid (∀ x ∈ out.take (k + 1), x < text) := Lib.hid (by
                rw [htk]
                intro x hx
                rcases List.mem_append.1 hx with hx | hx
                · exact hF.out x hx
                · rw [List.mem_singleton.1 hx]; exact hls)
              clear hat htk hok hls
              go_wp2_with fail
              go_quiet (fail)
              have hbn := Lib.hid (drewN_b hbq.out nq)
              go_wp2_with fail
              go_roundw
              case rel => exact ⟨k + 1, by omega, by go_num, hbn, hF2⟩
              case measure => simp [intOf]; omega
            · have hq1 : Op.bytesLess s0 text = false := by rw [bytesLess_eq]; exact decide_eq_false hls
              obtain ⟨hi1, hi2⟩ := hat hls
              by_cases hes : s0 = text
              · subst hes
                have hq2 : (s0 == s0) = true := by simp
                have hN2 := fun (W : World) (hW : NamesAt W w.heap.size (.slice (some ⟨go, 0, none⟩) out.length oc) out) => (show Hid (NamesAt W w.heap.size (.slice (some ⟨go, 0, none⟩) out.length oc) (insAll (namesOp xop (ts.take (i + 1))) [])) from Lib.hid (by rw [hsn.out, hi1 rfl]; exact hW))
                replace hN2 := Lib.hid hN2
                clear hat htk hok hi1 hi2 hls
                go_wp2_with fail
                go_quiet (fail)
                obtain ⟨nq1, rfl⟩ : ∃ x, x = nq := ⟨_, rfl⟩
                go_wp2_with fail
                go_quiet (fail)
                have hNn := Lib.hid (hN2.out _ (hNq.out.below (drewN_b (Below.refl _ _) (nq1 + nq))))
                have hbn := Lib.hid (hb.out.trans ((drewN_b hbq.out (nq1 + nq)).mono hbz))
                go_wp2_with fail
                go_roundw
                case rel => exact ⟨i + 1, by omega, by go_num, hNn, hbn⟩
                case measure => simp [intOf]; omega
              · have hq2 : (s0 == text) = false := by simpa using hes
                have hi3 := Lib.hid (hi2 hes)
                clear hat htk hok hi1 hi2 hls
                go_wp2_with fail
                go_quiet (fail)
                obtain ⟨nq1, rfl⟩ : ∃ x, x = nq := ⟨_, rfl⟩
                go_wp2_with fail
                go_quiet (fail)
                have hNn := hNq.out.below (drewN_b (Below.refl _ _) (nq1 + nq))
                have hbn := hb.out.trans ((drewN_b hbq.out (nq1 + nq)).mono hbz)
                have y3n := Below.keeps (drewN_b (Below.refl _ _) (nq1 + nq)) y3q
                obtain ⟨u1, hu1, hs1⟩ := hNn.srcHead hk
                obtain ⟨u2, hu2, hs2⟩ := hNn.srcTail hk
                have hzn := hbn.size
                have htl : (out.take k).length = k := by rw [List.length_take, Nat.min_eq_left hk]
                have hdl : (out.drop k).length = out.length - k := List.length_drop
                replace hs1 := Lib.hid hs1
                replace hs2 := Lib.hid hs2
                replace hbn := Lib.hid hbn
                have hn0 : NamesAt (wr.drewN (nq1 + nq)) (wr.drewN (nq1 + nq)).heap.size (.slice none 0 0) [] := World.ownsRow_nil _ _ _ _
                replace hn0 := Lib.hid hn0
                clear hNn hNq hbq y3q hN
                have hfin : Hid (∀ (W : World) (v3 : Value), NamesAt W (wr.drewN (nq1 + nq)).heap.size v3 (out.take k ++ [text] ++ out.drop k) → Hid (NamesAt W w.heap.size v3 (insAll (namesOp xop (ts.take (i + 1))) []))) := Lib.hid (fun W v3 h => Lib.hid (by rw [hsn.out, hi3.out]; exact h.low hzn))
                go_wp2_with (at_builtin; first
                  | (refine wpList_append_names (base := (wr.drewN (nq1 + nq)).heap.size) (ns := []) (ms := out.take k) rfl _ _ rfl rfl hn0.out rfl hs1.out (by simp) (by omega) (Nat.le_refl _) ?_; intro a1 c1 w1 hA1 oA1 _
                     have hA1' : NamesAt w1 (wr.drewN (nq1 + nq)).heap.size (.slice a1 k c1) (out.take k) := by rw [htl] at hA1; simpa using hA1
                     have hB1 := oA1.below (Nat.le_refl _) (fun k hk e => by cases e)
                     have y31 := Below.keeps hB1 y3n
                     have hal := (Below.refl w1.heap.size w1).alloc (Nat.le_refl _) (.cells #[.string ⟨text.toArray⟩] 9)
                     have hA2 := Lib.hid (hA1'.below hal)
                     have hz1 := hB1.size
                     have hB2 := hB1.trans (hal.mono hz1)
                     have hs3 : Hid (SrcN (w1.alloc (.cells #[.string ⟨text.toArray⟩] 9)) (.slice (some ⟨w1.heap.size, 0, none⟩) 1 1) [text]) := Lib.hid (srcOne w1 text)
                     have hz2 := hB2.size
                     replace hB2 := Lib.hid hB2
                     clear hA1 hA1' oA1 hB1 hal hs1)
                  | (refine wpList_append_names (base := (wr.drewN (nq1 + nq)).heap.size) (ns := out.take k) (ms := [text]) rfl _ _ rfl rfl hA2.out rfl hs3.out (by omega) (by simp) hz2 ?_; intro a4 c4 w4 hA4 oA4 _
                     have hA4' : Hid (NamesAt w4 (wr.drewN (nq1 + nq)).heap.size (.slice a4 (k + 1) c4) (out.take k ++ [text])) := Lib.hid (by rw [htl] at hA4; exact hA4)
                     have hB4 := Lib.hid (hB2.out.trans (oA4.below hz2 (fun j hj e => by have := (hA2.out.block e).1; omega)))
                     have hs4 := Lib.hid (hs2.out.below hB4.out)
                     have hz4 := hB4.out.size
                     clear hA4 oA4 hA2 hB2 hs3 hs2)
                  | (refine wpList_append_names (base := (wr.drewN (nq1 + nq)).heap.size) (ns := out.take k ++ [text]) (ms := out.drop k) rfl _ _ rfl rfl hA4'.out rfl hs4.out (by simp; omega) (by omega) hz4 ?_; intro a5 c5 w5 hA5 oA5 _
                     have hA6 := hfin.out _ _ hA5
                     have hB5 := Lib.hid (hbn.out.trans ((hB4.out.trans (oA5.below hz4 (fun j hj e => by have := (hA4'.out.block e).1; omega))).mono hzn))
                     clear hA5 oA5 hA4' hB4 hs4))
                go_roundw
                case rel => exact ⟨i + 1, by omega, by go_num, Lib.hid (by simpa [Nat.min_eq_left hk] using hA6.out), hB5⟩
                case measure => simp [intOf]; omega
          · obtain rfl : k = out.length := by omega
            have hki : ¬ ((out.length : Int) < (out.length : Int)) := by omega
            have hkd : decide ((out.length : Int) < (out.length : Int)) = false := by simp
            have hi3 := Lib.hid ((ins_at (s := text) (l := out) (k := out.length) hk hF.out (fun h => absurd h (by omega))).2 (fun h => absurd h (by omega)))
            go_wp2_with fail
            go_quiet (fail)
            obtain ⟨nq1, rfl⟩ : ∃ x, x = nq := ⟨_, rfl⟩
            go_wp2_with fail
            go_quiet (fail)
            have hNn := hNq.out.below (drewN_b (Below.refl _ _) (nq1 + nq))
            have hbn := hb.out.trans ((drewN_b hbq.out (nq1 + nq)).mono hbz)
            have y3n := Below.keeps (drewN_b (Below.refl _ _) (nq1 + nq)) y3q
            obtain ⟨u1, hu1, hs1⟩ := hNn.srcHead (n := out.length) hk
            obtain ⟨u2, hu2, hs2⟩ := hNn.srcTail (n := out.length) hk
            have hzn := hbn.size
            have htl : (out.take out.length).length = out.length := by rw [List.length_take, Nat.min_eq_left hk]
            have hdl : (out.drop out.length).length = out.length - out.length := List.length_drop
            replace hs1 := Lib.hid hs1
            replace hs2 := Lib.hid hs2
            replace hbn := Lib.hid hbn
            have hn0 : NamesAt (wr.drewN (nq1 + nq)) (wr.drewN (nq1 + nq)).heap.size (.slice none 0 0) [] := World.ownsRow_nil _ _ _ _
            replace hn0 := Lib.hid hn0
            clear hNn hNq hbq y3q hN
            have hfin : Hid (∀ (W : World) (v3 : Value), NamesAt W (wr.drewN (nq1 + nq)).heap.size v3 (out.take out.length ++ [text] ++ out.drop out.length) → Hid (NamesAt W w.heap.size v3 (insAll (namesOp xop (ts.take (i + 1))) []))) := Lib.hid (fun W v3 h => Lib.hid (by rw [hsn.out, hi3.out]; exact h.low hzn))
            go_wp2_with (at_builtin; first
              | (refine wpList_append_names (base := (wr.drewN (nq1 + nq)).heap.size) (ns := []) (ms := out.take out.length) rfl _ _ rfl rfl hn0.out rfl hs1.out (by simp) (by omega) (Nat.le_refl _) ?_; intro a1 c1 w1 hA1 oA1 _
                 have hA1' : NamesAt w1 (wr.drewN (nq1 + nq)).heap.size (.slice a1 out.length c1) (out.take out.length) := by rw [htl] at hA1; simpa using hA1
                 have hB1 := oA1.below (Nat.le_refl _) (fun k hk e => by cases e)
                 have y31 := Below.keeps hB1 y3n
                 have hal := (Below.refl w1.heap.size w1).alloc (Nat.le_refl _) (.cells #[.string ⟨text.toArray⟩] 9)
                 have hA2 := Lib.hid (hA1'.below hal)
                 have hz1 := hB1.size
                 have hB2 := hB1.trans (hal.mono hz1)
                 have hs3 : Hid (SrcN (w1.alloc (.cells #[.string ⟨text.toArray⟩] 9)) (.slice (some ⟨w1.heap.size, 0, none⟩) 1 1) [text]) := Lib.hid (srcOne w1 text)
                 have hz2 := hB2.size
                 replace hB2 := Lib.hid hB2
                 clear hA1 hA1' oA1 hB1 hal hs1)
              | (refine wpList_append_names (base := (wr.drewN (nq1 + nq)).heap.size) (ns := out.take out.length) (ms := [text]) rfl _ _ rfl rfl hA2.out rfl hs3.out (by omega) (by simp) hz2 ?_; intro a4 c4 w4 hA4 oA4 _
                 have hA4' : Hid (NamesAt w4 (wr.drewN (nq1 + nq)).heap.size (.slice a4 (out.length + 1) c4) (out.take out.length ++ [text])) := Lib.hid (by rw [htl] at hA4; exact hA4)
                 have hB4 := Lib.hid (hB2.out.trans (oA4.below hz2 (fun j hj e => by have := (hA2.out.block e).1; omega)))
                 have hs4 := Lib.hid (hs2.out.below hB4.out)
                 have hz4 := hB4.out.size
                 clear hA4 oA4 hA2 hB2 hs3 hs2)
              | (refine wpList_append_names (base := (wr.drewN (nq1 + nq)).heap.size) (ns := out.take out.length ++ [text]) (ms := out.drop out.length) rfl _ _ rfl rfl hA4'.out rfl hs4.out (by simp; omega) (by omega) hz4 ?_; intro a5 c5 w5 hA5 oA5 _
                 have hA6 := hfin.out _ _ hA5
                 have hB5 := Lib.hid (hbn.out.trans ((hB4.out.trans (oA5.below hz4 (fun j hj e => by have := (hA4'.out.block e).1; omega))).mono hzn))
                 clear hA5 oA5 hA4' hB4 hs4))
            go_roundw
            case rel => exact ⟨i + 1, by omega, by go_num, Lib.hid (by simpa using hA6.out), hB5⟩
            case measure => simp [intOf]; omega
      · rw [if_neg hop, List.append_nil] at hT
        have hq : ((xop : Int) != (op : Int)) = true := bne_iff_ne.2 (by omega)
        rw [← hT] at hN
        clear hT
        go_wp2_with fail
        go_roundw
        case rel => exact ⟨i + 1, by omega, by go_num, hN, hb⟩
        case measure => simp [intOf]; omega
    · obtain rfl : i = ts.length := by omega
      have hlti : ¬ ((ts.length : Int) < (ts.length : Int)) := by omega
      rw [List.take_length] at hN
      obtain ⟨oa, oc, rfl, _, _⟩ := id hN.out.shape
      go_wp2_with fail
      go_ret
      exact ⟨_, rfl, hN.out, hb.out⟩
end Go.Proofs.Ytnghfjlmmmjekaa
