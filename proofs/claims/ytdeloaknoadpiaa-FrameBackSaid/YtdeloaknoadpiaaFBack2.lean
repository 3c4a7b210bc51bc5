/- The law FrameBack: frames, one behind the other, are told as their bodies, however they are cut into pieces: the walk. -/
import Derived.Test.YtdeloaknoadpiaaFBack
import Derived.Test.YtdeloaknoadpiaaFSameQ
namespace Go.Proofs.Ytdeloaknoadpiaa
open Go.RowKit Crc
section
variable {w : World} {ls : List (List Nat)}
theorem take_len_all (ls : List (List Nat)) (i : Nat) (h : i < ls.length) (hd : ∀ b ∈ ls.take i, b.length ≤ 3000) (hm : (ls.getD i []).length ≤ 3000) : ∀ b ∈ ls.take (i + 1), b.length ≤ 3000 := by
  intro b hb
  rw [List.take_succ_eq_append_getElem h, List.mem_append] at hb
  rcases hb with hb | hb
  · exact hd b hb
  · simp at hb
    subst hb
    simpa [List.getD_eq_getElem?_getD, List.getElem?_eq_getElem h] using hm

set_option maxRecDepth 20000 in
set_option maxHeartbeats 400000 in
theorem fback_many {a0 : Option Addr} {n0 c0 : Nat} {a1 : Option Addr} {n1 c1 : Nat} (h : 30 < n0 ∨ 60 < n1) :
    Calls Try.prog 7 #[.slice a0 n0 c0, .slice a1 n1 c1] w fun e w' => e = .returned (.bool true) ∧ Below w.heap.size w w' := by
  have hA := awake_any w
  rcases Nat.lt_or_ge 30 n0 with h0 | h0
  · have h1 : (30 : Int) < (n0 : Int) := by omega
    go_enter Try.func7, Try.ntmps7
    go_wp2_with fail
    refine hA.mono ?_
    rintro e w1 ⟨rfl, hb1⟩
    go_wp2
    go_ret
    exact ⟨rfl, hb1⟩
  · have h1 : ¬ (30 : Int) < (n0 : Int) := by omega
    have h2 : (60 : Int) < (n1 : Int) := by omega
    go_enter Try.func7, Try.ntmps7
    go_wp2_with fail
    refine hA.mono ?_
    rintro e w1 ⟨rfl, hb1⟩
    go_wp2
    go_ret
    exact ⟨rfl, hb1⟩

theorem rows2_byte {v : Value} (h : Rows2 w v ls) : ∀ b ∈ ls, ∀ x ∈ b, x < 256 := by
  obtain ⟨a, cap, rfl, _, _, h3⟩ := h
  intro b hb x hx
  obtain ⟨i, hi, rfl⟩ := List.getElem_of_mem hb
  obtain ⟨_, _, _, _, hc⟩ := h3 (by omega)
  obtain ⟨u, _, hB⟩ := hc i hi
  have e : ls.getD i [] = ls[i] := by rw [List.getD_eq_getElem?_getD, List.getElem?_eq_getElem hi]; rfl
  rw [e] at hB
  exact hB.byte x hx

set_option maxRecDepth 20000 in
set_option maxHeartbeats 8000000 in
theorem fback_few {v0 v1 : Value} (h : Rows2 w v0 ls) (hL : ls.length ≤ 30) {a1 : Option Addr} {n1 c1 : Nat} {zs : List Int} (hz : n1 ≤ 60) (hv1 : v1 = .slice a1 n1 c1)
    (hzw : ∀ z ∈ zs, (Lit.int .i64 z).wf = true) (hzl : n1 = zs.length) (hzc : 0 < n1 → ∃ b off, a1 = some ⟨b, off, none⟩ ∧ b < w.heap.size ∧ ∀ j, j < n1 → w.cell? ⟨b, off + j, none⟩ = some (.int .i64 (zs.getD j 0))) :
    Calls Try.prog 7 #[v0, v1] w fun e w' => e = .returned (.bool true) ∧ Below w.heap.size w w' := by
  subst hv1
  have hA := awake_any w
  have hrows := Lib.hid h
  obtain ⟨a, cap, rfl, hlc, hcm, hk⟩ := h
  have hn : ¬ (30 : Int) < (ls.length : Int) := by omega
  have hn2 : ¬ (60 : Int) < (n1 : Int) := by omega
  replace hk := Lib.hid hk
  replace hzw := Lib.hid hzw
  replace hzc := Lib.hid hzc
  replace hzl := Lib.hid hzl
  go_enter Try.func7, Try.ntmps7
  go_wp2_with fail
  refine hA.mono ?_
  rintro e w1 ⟨rfl, hb1⟩
  replace hb1 := Lib.hid hb1
  go_wp2
  go_loopw [5, 6, 7, 8, 9] (fun t5 t6 t7 _ _ wr => ∃ i room : Nat, i ≤ ls.length ∧ t7 = .int .i64 i ∧ t5 = .int .i64 room ∧ Hid (Buf8 wr w.heap.size t6 (framesL (ls.take i))) ∧ Hid (Below w.heap.size w wr) ∧ (framesL (ls.take i)).length + room ≤ 3000 + 12 * i ∧ room ≤ 3000 ∧ Hid (∀ b ∈ ls.take i, b.length ≤ 3000)) (fun _ _ t7 _ _ _ => ls.length - (intOf t7).toNat)
  case atStart => exact ⟨0, 3000, by omega, rfl, rfl, Buf8.nil _ _, hb1, by simp [framesL], by omega, fun b hb => by simp at hb⟩
  case round =>
    obtain ⟨i, room, hi, rfl, rfl, hAll, hb, hsum, hrm, hle⟩ := hrel
    rcases Nat.lt_or_ge i ls.length with hlt | hge
    · obtain ⟨b, off, rfl, hbl, hc⟩ := hk.out (by omega)
      obtain ⟨u, x, y⟩ := hc i hlt
      have x' : wr.cell? ⟨b, off + i, none⟩ = some u := (hb.out.cell (p := ⟨b, off + i, none⟩) hbl).trans x
      have y' := y.below hb.out
      obtain ⟨ua, uc, rfl, _, _, _, _⟩ := y
      have hlti : (i : Int) < (ls.length : Int) := by omega
      have hft := framesL_take hlt
      have htl := take_len_all ls i hlt hle.out
      generalize ls.getD i [] = m at *
      clear hc x
      replace y' := Lib.hid y'
      replace htl := Lib.hid htl
      by_cases hroom : room < m.length
      · have hr : (room : Int) < (m.length : Int) := by omega
        go_wp2
        go_ret
        exact ⟨rfl, hb.out⟩
      · have hr : ¬ (room : Int) < (m.length : Int) := by omega
        have hsz := hb.out.size
        go_wp2_with fail
        refine (Frame_any y'.out (by omega)).mono ?_
        rintro e w2 ⟨vf, rfl, hB2, hg2⟩
        obtain ⟨af, capf, rfl, _, _⟩ := ownsRow_shape hB2
        have hby := frameL_byte y'.out.byte
        have hAll2 := hAll.out.below hg2
        have hb2 := hb.out.trans (hg2.mono hsz)
        have hz2 := hg2.size
        have hlen := frameL_length m
        have hB2' := hB2.bs hby
        rw [hlen] at hB2'
        replace hB2 := Lib.hid hB2
        replace hAll2 := Lib.hid hAll2
        replace hB2' := Lib.hid hB2'
        replace hb2 := Lib.hid hb2
        replace hft := Lib.hid hft
        replace hby := Lib.hid hby
        go_wp2_with (at_builtin; first
          | (refine wpList_append_bs rfl _ _ rfl rfl hAll2.out rfl hB2'.out (by omega) (by omega) ?_; intro v3 w3 hB3 hO3 hN3 hI3; replace hB3 := Lib.hid hB3))
        have hz3 := hO3.size
        have hb3 : Below w.heap.size w w3 := below_only hb2.out hO3 (by omega) (fun k hk e => by have := (hAll2.out.base_ k e).1; omega)
        go_wp2
        go_roundw
        case rel => exact ⟨i + 1, room - m.length, by omega, by go_num, by congr 1; omega, by rw [hft.out]; exact hB3.out, hb3, by rw [hft.out, List.length_append, hlen]; omega, by omega, htl.out (by omega)⟩
        case measure => simp [intOf]; omega
    · obtain rfl : i = ls.length := by omega
      have hlti : ¬ ((ls.length : Int) < (ls.length : Int)) := by omega
      have hle' := hle.out
      rw [List.take_length] at hAll hsum hle'
      have hbyl : ∀ b ∈ ls, ∀ x ∈ b, x < 256 := rows2_byte hrows.out
      have hby := framesL_byte hbyl
      have hS := split_frames (l := ls) (fun b hb => ⟨hbyl b hb, by have := hle' b hb; omega⟩)
      generalize framesL ls = A at *
      have hBs := hAll.out.bs hby
      obtain ⟨aa, capa, rfl, hca, hcb⟩ := ownsRow_shape hAll.out
      have hsz := hb.out.size
      have hAl : A.length ≤ 3360 := by omega
      have hSp := Split_any hBs (by omega) hBs.row_lt
      rw [hS] at hSp
      replace hSp := Lib.hid hSp
      replace hBs := Lib.hid hBs
      replace hS := Lib.hid hS
      replace hby := Lib.hid hby
      replace hbyl := Lib.hid hbyl
      clear hle' hle
      go_wp2_with fail
      refine hSp.out.mono ?_
      rintro e w2 ⟨vk, rfl, hBk, hg2⟩
      obtain ⟨ak, capk, rfl, _, _⟩ := ownsRow_shape hBk.choose_spec.2.1
      have hb2 := hb.out.trans (hg2.mono hsz)
      have hSm := same_true (hBk.rows hbyl.out) (hrows.out.below hb2)
      go_wp2_with fail
      refine hSm.mono ?_
      rintro e w3 ⟨rfl, hg3⟩
      have hb3 := hb2.trans (hg3.mono hb2.size)
      go_wp2_with fail
      refine (New_any _).mono ?_
      rintro e w4 ⟨rfl, hR4, hg4⟩
      have hb4 := hb3.trans (hg4.mono hb3.size)
      have hAv4 := ((hAll.out.below hg2).below hg3).below hg4
      have hz2 := hg2.size
      have hz3 := hg3.size
      have hz4 := hg4.size
      have hSt0 : Hid (St w4 w.heap.size w3.heap.size (.slice aa A.length capa) (.slice none 0 0) A 0) :=
        ⟨hb3.size, hR4.lt, hAv4, fun k hk => by have := (hAll.out.base_ k hk).2; omega, .slice none 0 0, hR4, fun k hk => by simp [RowOf, Value.ownBlock] at hk, GotX.nil _ _ _⟩
      have hcode : Hid ((splitL A).code = 0) := by rw [hS.out]; rfl
      have hbod : Hid ((splitL A).bodies = ls ∧ (splitL A).at_ = A.length) := by rw [hS.out]; exact ⟨rfl, rfl⟩
      replace hb4 := Lib.hid hb4
      clear hSp hSm hBk hR4 hAv4 hS hBs hb2 hb3 hg2 hg3 hg4 hAll hb hsum hrm
      generalize hr3 : w3.heap.size = r at *
      replace hr3 := Lib.hid hr3
      rename World => W4
      go_wp2
      go_loopw [14, 15, 16, 17, 18, 19, 20, 21] (fun t14 t15 t16 _ _ _ _ _ wr => ∃ i at_ : Nat, i ≤ n1 + 1 ∧ at_ ≤ A.length ∧ Hid (i = n1 + 1 → at_ = A.length) ∧ t16 = .int .i64 i ∧ t15 = .int .i64 at_ ∧ Hid (St wr w.heap.size r (.slice aa A.length capa) t14 A at_) ∧ Hid (Below w.heap.size w wr)) (fun _ _ t16 _ _ _ _ _ _ => n1 + 1 - (intOf t16).toNat)
      case atStart => exact ⟨0, 0, by omega, by omega, fun h => by omega, rfl, rfl, hSt0, hb4⟩
      case round =>
        obtain ⟨i, at_, hi, hat, hend, rfl, rfl, hSt, hb⟩ := hrel
        rcases Nat.lt_or_ge n1 i with hgt | hge
        · obtain rfl : i = n1 + 1 := by omega
          obtain rfl := hend.out rfl
          have hlt1 : ¬ (((n1 + 1 : Nat) : Int) ≤ (n1 : Int)) := by omega
          obtain ⟨_, _, hAv5, _, v5, hR5, _, hG5⟩ := hSt.out
          have hlt := left_taken (Nat.le_refl A.length)
          have hT5 : takenA A A.length = A.length := by unfold takenA; rw [List.take_length]; exact hbod.out.2
          have hb5 : toldA A A.length = ls := by unfold toldA; rw [List.take_length]; exact hbod.out.1
          have hL5 : (leftA A A.length).length = 0 := by omega
          obtain ⟨ag, capg, rfl⟩ := hG5.length
          rw [hb5] at hG5
          have hSm5 := same_true (hG5.bods.rows (rows2_byte hrows.out)) (hrows.out.below hb.out)
          have hc1 := hSt.out.cells.1
          rw [hL5] at hc1
          rw [hb5]
          clear hR5 hAv5 hG5
          go_wp2_with fail
          refine hSm5.mono ?_
          rintro e W5 ⟨rfl, hg5⟩
          have hc1' := Below.keeps hg5 hc1
          have hb6 := Lib.hid (hb.out.trans (hg5.mono hb.out.size))
          go_wp2_with fail
          refine (Left_any hc1').mono ?_
          rintro e W6 ⟨rfl, rfl⟩
          go_wp2
          go_ret
          exact ⟨rfl, hb6.out⟩
        · have hle1 : (i : Int) ≤ (n1 : Int) := by omega
          have hBa := (hSt.out.2.2.1).bs hby.out
          obtain ⟨j, hij, hj, hto⟩ : ∃ j, at_ ≤ j ∧ j ≤ A.length ∧ ((i = n1 ∧ j = A.length) ∨ (i < n1 ∧ ∃ z b off, a1 = some ⟨b, off, none⟩ ∧ wr.cell? ⟨b, off + i, none⟩ = some (.int .i64 z) ∧ wrap64 ((at_ : Int) + wrap64 ((IntKind.u64.wrap z).tmod ((A.length : Int) - (at_ : Int) + 1))) = (j : Int))) := by
            rcases Nat.lt_or_ge i n1 with hlt | hge
            · obtain ⟨b, off, ha, hbl, hc⟩ := hzc.out (by omega)
              have x := (hb.out.cell (p := ⟨b, off + i, none⟩) hbl).trans (hc i hlt)
              obtain ⟨j, h1, h2, h3⟩ := cut_to (z := zs.getD i 0) hat (by omega)
              exact ⟨j, h1, h2, .inr ⟨hlt, _, b, off, ha, x, h3⟩⟩
            · exact ⟨A.length, hat, Nat.le_refl _, .inl ⟨by omega, rfl⟩⟩
          have hend' : Hid (i + 1 = n1 + 1 → j = A.length) := by
            intro h
            rcases hto with h1 | h1
            · exact h1.2
            · omega
          have hPc : Hid (∀ u, u = (if capa = at_ then Value.slice aa (j - at_) (capa - at_) else Value.slice (aa.map (·.add at_)) (j - at_) (capa - at_)) → Bs wr u ((A.drop at_).take (j - at_))) := by
            intro u hu
            have := piece_bs hBa hij hj
            rw [hu]
            split <;> rename_i hc
            · rwa [if_pos hc] at this
            · rwa [if_neg hc] at this
          have hij1 : (at_ : Int) ≤ (j : Int) := by omega
          have hij2 : (j : Int) ≤ (capa : Int) := by omega
          clear hBa
          by_cases hcn : capa = at_
          · rw [if_pos hcn] at hPc
            subst hcn
            rcases hto with ⟨hin, hjA⟩ | ⟨hlt, z, b, off, rfl, x, hto⟩
            · have hlt1 : ¬ (i : Int) < (n1 : Int) := by omega
              subst hjA
              go_wp2_with fail
              refine (st_feed (j := A.length) hSt.out hcode.out hij hj (by omega) (hPc.out _ (by first | rfl | (simp only [Value.slice.injEq, true_and]; omega)))).mono ?_
              rintro e W2 ⟨al, capl, p, q, ms, rfl, hFd, hb2⟩
              have hbW2 := Lib.hid (hb.out.trans hb2)
              have hc1 := hFd.cells.1
              have hc3 := hFd.cells.2
              have hLT := left_taken hj
              have hbs2 := (hFd.2.2.1).bs hby.out
              have htl2 := hFd.2.2.2.2.2.2.2.1
              have hcl := left_code hcode.out hj
              replace hFd := Lib.hid hFd
              generalize hL : (leftA A A.length).length = L at *
              generalize hT : takenA A A.length = T at *
              replace hL := Lib.hid hL
              replace hT := Lib.hid hT
              replace hcl := Lib.hid hcl
              replace htl2 := Lib.hid htl2
              have hLT' : (L : Int) + (T : Int) = ((A.length : Nat) : Int) := by omega
              go_wp2_with fail
              refine (Left_any hc1).mono ?_
              rintro e W3 ⟨rfl, rfl⟩
              go_wp2_with fail
              refine (Taken_any hc3).mono ?_
              rintro e W3 ⟨rfl, rfl⟩
              go_wp2_with (at_builtin; first
                | (refine wpList_append_fd rfl _ _ rfl rfl rfl hFd.out (told_ms htl2.out hAl) ?_; intro a3 cap3 W3 hSt3 hb3; have hbW3 := Lib.hid (hbW2.out.trans hb3); have hpre := (bs_head (hSt3.2.2.1.bs hby.out) A.length hj); have hSp := Split_any hpre (by rw [List.length_take]; omega) hpre.row_lt; replace hSt3 := Lib.hid hSt3; replace hSp := Lib.hid hSp; replace hpre := Lib.hid hpre))
              have hsz3 := hbW3.out.size
              go_wp2_with fail
              refine hSp.out.mono ?_
              rintro e W4' ⟨vk, rfl, hBk, hg4⟩
              have hbW4 := Lib.hid (hbW3.out.trans (hg4.mono hsz3))
              have hSt4 := Lib.hid (hSt3.out.below hg4)
              have hSt4' := hSt4.out
              have hd1 := hSt4'.cells.1
              have hd3 := hSt4'.cells.2
              rw [hL.out] at hd1
              rw [hT.out] at hd3
              obtain ⟨ak2, capk2, hvk, _, _⟩ := ownsRow_shape hBk.choose_spec.2.1
              have hvk' : vk = .slice ak2 (toldA A A.length).length capk2 := hvk
              have hT2 : (splitL (A.take A.length)).at_ = T := hT.out
              rw [hT2]
              clear hvk hBk hSt4'
              subst hvk'
              generalize (toldA A A.length).length = K at *
              rcases hcl.out with ⟨hC0, hL0⟩ | ⟨hC0, hL0⟩
              all_goals
                rw [hC0]
                first
                | rw [show ((0 : Nat) : Int) = 0 from rfl]
                | rw [show ((4 : Nat) : Int) = 4 from rfl]
                first
                | (have hq1 : ((L : Int) == 0) = true := by rw [hL0]; rfl)
                | (have hq1 : ((L : Int) == 0) = false := by simp; omega)
                clear hL0
                go_wp2_with fail
                refine (Left_any hd1).mono ?_
                rintro e W5 ⟨rfl, rfl⟩
                go_wp2_with fail
                refine (Taken_any hd3).mono ?_
                rintro e W5 ⟨rfl, rfl⟩
                go_wp2
                go_roundw
                case rel => exact ⟨i + 1, A.length, by omega, hj, (by first | exact hend' | exact (fun _ => rfl)), by go_num, rfl, hSt4, hbW4⟩
                case measure => simp [intOf]; omega
            · have hlt1 : (i : Int) < (n1 : Int) := by omega
              go_wp2_with fail
              refine (st_feed (j := j) hSt.out hcode.out hij hj (by omega) (hPc.out _ (by first | rfl | (simp only [Value.slice.injEq, true_and]; omega)))).mono ?_
              rintro e W2 ⟨al, capl, p, q, ms, rfl, hFd, hb2⟩
              have hbW2 := Lib.hid (hb.out.trans hb2)
              have hc1 := hFd.cells.1
              have hc3 := hFd.cells.2
              have hLT := left_taken hj
              have hbs2 := (hFd.2.2.1).bs hby.out
              have htl2 := hFd.2.2.2.2.2.2.2.1
              have hcl := left_code hcode.out hj
              replace hFd := Lib.hid hFd
              generalize hL : (leftA A j).length = L at *
              generalize hT : takenA A j = T at *
              replace hL := Lib.hid hL
              replace hT := Lib.hid hT
              replace hcl := Lib.hid hcl
              replace htl2 := Lib.hid htl2
              have hLT' : (L : Int) + (T : Int) = ((j : Nat) : Int) := by omega
              go_wp2_with fail
              refine (Left_any hc1).mono ?_
              rintro e W3 ⟨rfl, rfl⟩
              go_wp2_with fail
              refine (Taken_any hc3).mono ?_
              rintro e W3 ⟨rfl, rfl⟩
              go_wp2_with (at_builtin; first
                | (refine wpList_append_fd rfl _ _ rfl rfl rfl hFd.out (told_ms htl2.out hAl) ?_; intro a3 cap3 W3 hSt3 hb3; have hbW3 := Lib.hid (hbW2.out.trans hb3); have hpre := (bs_head (hSt3.2.2.1.bs hby.out) j hj); have hSp := Split_any hpre (by rw [List.length_take]; omega) hpre.row_lt; replace hSt3 := Lib.hid hSt3; replace hSp := Lib.hid hSp; replace hpre := Lib.hid hpre))
              have hsz3 := hbW3.out.size
              go_wp2_with fail
              refine hSp.out.mono ?_
              rintro e W4' ⟨vk, rfl, hBk, hg4⟩
              have hbW4 := Lib.hid (hbW3.out.trans (hg4.mono hsz3))
              have hSt4 := Lib.hid (hSt3.out.below hg4)
              have hSt4' := hSt4.out
              have hd1 := hSt4'.cells.1
              have hd3 := hSt4'.cells.2
              rw [hL.out] at hd1
              rw [hT.out] at hd3
              obtain ⟨ak2, capk2, hvk, _, _⟩ := ownsRow_shape hBk.choose_spec.2.1
              have hvk' : vk = .slice ak2 (toldA A j).length capk2 := hvk
              have hT2 : (splitL (A.take j)).at_ = T := hT.out
              rw [hT2]
              clear hvk hBk hSt4'
              subst hvk'
              generalize (toldA A j).length = K at *
              rcases hcl.out with ⟨hC0, hL0⟩ | ⟨hC0, hL0⟩
              all_goals
                rw [hC0]
                first
                | rw [show ((0 : Nat) : Int) = 0 from rfl]
                | rw [show ((4 : Nat) : Int) = 4 from rfl]
                first
                | (have hq1 : ((L : Int) == 0) = true := by rw [hL0]; rfl)
                | (have hq1 : ((L : Int) == 0) = false := by simp; omega)
                clear hL0
                go_wp2_with fail
                refine (Left_any hd1).mono ?_
                rintro e W5 ⟨rfl, rfl⟩
                go_wp2_with fail
                refine (Taken_any hd3).mono ?_
                rintro e W5 ⟨rfl, rfl⟩
                go_wp2
                go_roundw
                case rel => exact ⟨i + 1, j, by omega, hj, (by first | exact hend' | exact (fun _ => rfl)), by go_num, rfl, hSt4, hbW4⟩
                case measure => simp [intOf]; omega
          · rw [if_neg hcn] at hPc
            rcases hto with ⟨hin, hjA⟩ | ⟨hlt, z, b, off, rfl, x, hto⟩
            · have hlt1 : ¬ (i : Int) < (n1 : Int) := by omega
              subst hjA
              go_wp2_with fail
              refine (st_feed (j := A.length) hSt.out hcode.out hij hj (by omega) (hPc.out _ (by first | rfl | (simp only [Value.slice.injEq, true_and]; omega)))).mono ?_
              rintro e W2 ⟨al, capl, p, q, ms, rfl, hFd, hb2⟩
              have hbW2 := Lib.hid (hb.out.trans hb2)
              have hc1 := hFd.cells.1
              have hc3 := hFd.cells.2
              have hLT := left_taken hj
              have hbs2 := (hFd.2.2.1).bs hby.out
              have htl2 := hFd.2.2.2.2.2.2.2.1
              have hcl := left_code hcode.out hj
              replace hFd := Lib.hid hFd
              generalize hL : (leftA A A.length).length = L at *
              generalize hT : takenA A A.length = T at *
              replace hL := Lib.hid hL
              replace hT := Lib.hid hT
              replace hcl := Lib.hid hcl
              replace htl2 := Lib.hid htl2
              have hLT' : (L : Int) + (T : Int) = ((A.length : Nat) : Int) := by omega
              go_wp2_with fail
              refine (Left_any hc1).mono ?_
              rintro e W3 ⟨rfl, rfl⟩
              go_wp2_with fail
              refine (Taken_any hc3).mono ?_
              rintro e W3 ⟨rfl, rfl⟩
              go_wp2_with (at_builtin; first
                | (refine wpList_append_fd rfl _ _ rfl rfl rfl hFd.out (told_ms htl2.out hAl) ?_; intro a3 cap3 W3 hSt3 hb3; have hbW3 := Lib.hid (hbW2.out.trans hb3); have hpre := (bs_head (hSt3.2.2.1.bs hby.out) A.length hj); have hSp := Split_any hpre (by rw [List.length_take]; omega) hpre.row_lt; replace hSt3 := Lib.hid hSt3; replace hSp := Lib.hid hSp; replace hpre := Lib.hid hpre))
              have hsz3 := hbW3.out.size
              go_wp2_with fail
              refine hSp.out.mono ?_
              rintro e W4' ⟨vk, rfl, hBk, hg4⟩
              have hbW4 := Lib.hid (hbW3.out.trans (hg4.mono hsz3))
              have hSt4 := Lib.hid (hSt3.out.below hg4)
              have hSt4' := hSt4.out
              have hd1 := hSt4'.cells.1
              have hd3 := hSt4'.cells.2
              rw [hL.out] at hd1
              rw [hT.out] at hd3
              obtain ⟨ak2, capk2, hvk, _, _⟩ := ownsRow_shape hBk.choose_spec.2.1
              have hvk' : vk = .slice ak2 (toldA A A.length).length capk2 := hvk
              have hT2 : (splitL (A.take A.length)).at_ = T := hT.out
              rw [hT2]
              clear hvk hBk hSt4'
              subst hvk'
              generalize (toldA A A.length).length = K at *
              rcases hcl.out with ⟨hC0, hL0⟩ | ⟨hC0, hL0⟩
              all_goals
                rw [hC0]
                first
                | rw [show ((0 : Nat) : Int) = 0 from rfl]
                | rw [show ((4 : Nat) : Int) = 4 from rfl]
                first
                | (have hq1 : ((L : Int) == 0) = true := by rw [hL0]; rfl)
                | (have hq1 : ((L : Int) == 0) = false := by simp; omega)
                clear hL0
                go_wp2_with fail
                refine (Left_any hd1).mono ?_
                rintro e W5 ⟨rfl, rfl⟩
                go_wp2_with fail
                refine (Taken_any hd3).mono ?_
                rintro e W5 ⟨rfl, rfl⟩
                go_wp2
                go_roundw
                case rel => exact ⟨i + 1, A.length, by omega, hj, (by first | exact hend' | exact (fun _ => rfl)), by go_num, rfl, hSt4, hbW4⟩
                case measure => simp [intOf]; omega
            · have hlt1 : (i : Int) < (n1 : Int) := by omega
              go_wp2_with fail
              refine (st_feed (j := j) hSt.out hcode.out hij hj (by omega) (hPc.out _ (by first | rfl | (simp only [Value.slice.injEq, true_and]; omega)))).mono ?_
              rintro e W2 ⟨al, capl, p, q, ms, rfl, hFd, hb2⟩
              have hbW2 := Lib.hid (hb.out.trans hb2)
              have hc1 := hFd.cells.1
              have hc3 := hFd.cells.2
              have hLT := left_taken hj
              have hbs2 := (hFd.2.2.1).bs hby.out
              have htl2 := hFd.2.2.2.2.2.2.2.1
              have hcl := left_code hcode.out hj
              replace hFd := Lib.hid hFd
              generalize hL : (leftA A j).length = L at *
              generalize hT : takenA A j = T at *
              replace hL := Lib.hid hL
              replace hT := Lib.hid hT
              replace hcl := Lib.hid hcl
              replace htl2 := Lib.hid htl2
              have hLT' : (L : Int) + (T : Int) = ((j : Nat) : Int) := by omega
              go_wp2_with fail
              refine (Left_any hc1).mono ?_
              rintro e W3 ⟨rfl, rfl⟩
              go_wp2_with fail
              refine (Taken_any hc3).mono ?_
              rintro e W3 ⟨rfl, rfl⟩
              go_wp2_with (at_builtin; first
                | (refine wpList_append_fd rfl _ _ rfl rfl rfl hFd.out (told_ms htl2.out hAl) ?_; intro a3 cap3 W3 hSt3 hb3; have hbW3 := Lib.hid (hbW2.out.trans hb3); have hpre := (bs_head (hSt3.2.2.1.bs hby.out) j hj); have hSp := Split_any hpre (by rw [List.length_take]; omega) hpre.row_lt; replace hSt3 := Lib.hid hSt3; replace hSp := Lib.hid hSp; replace hpre := Lib.hid hpre))
              have hsz3 := hbW3.out.size
              go_wp2_with fail
              refine hSp.out.mono ?_
              rintro e W4' ⟨vk, rfl, hBk, hg4⟩
              have hbW4 := Lib.hid (hbW3.out.trans (hg4.mono hsz3))
              have hSt4 := Lib.hid (hSt3.out.below hg4)
              have hSt4' := hSt4.out
              have hd1 := hSt4'.cells.1
              have hd3 := hSt4'.cells.2
              rw [hL.out] at hd1
              rw [hT.out] at hd3
              obtain ⟨ak2, capk2, hvk, _, _⟩ := ownsRow_shape hBk.choose_spec.2.1
              have hvk' : vk = .slice ak2 (toldA A j).length capk2 := hvk
              have hT2 : (splitL (A.take j)).at_ = T := hT.out
              rw [hT2]
              clear hvk hBk hSt4'
              subst hvk'
              generalize (toldA A j).length = K at *
              rcases hcl.out with ⟨hC0, hL0⟩ | ⟨hC0, hL0⟩
              all_goals
                rw [hC0]
                first
                | rw [show ((0 : Nat) : Int) = 0 from rfl]
                | rw [show ((4 : Nat) : Int) = 4 from rfl]
                first
                | (have hq1 : ((L : Int) == 0) = true := by rw [hL0]; rfl)
                | (have hq1 : ((L : Int) == 0) = false := by simp; omega)
                clear hL0
                go_wp2_with fail
                refine (Left_any hd1).mono ?_
                rintro e W5 ⟨rfl, rfl⟩
                go_wp2_with fail
                refine (Taken_any hd3).mono ?_
                rintro e W5 ⟨rfl, rfl⟩
                go_wp2
                go_roundw
                case rel => exact ⟨i + 1, j, by omega, hj, (by first | exact hend' | exact (fun _ => rfl)), by go_num, rfl, hSt4, hbW4⟩
                case measure => simp [intOf]; omega

theorem frameBack_walk (v0 v1 : Value) (w : World) (h0 : RowsIn w v0) (h1 : IntsV .i64 w v1) :
    Calls Try.prog 7 #[v0, v1] w fun e w' => e = .returned (.bool true) ∧ Below w.heap.size w w' := by
  obtain ⟨ls, hR⟩ := h0
  obtain ⟨a1, n1, c1, zs, rfl, hl, _, _, hw, hc⟩ := h1
  by_cases h : 30 < ls.length ∨ 60 < n1
  · obtain ⟨a, cap, rfl, _⟩ := hR
    exact fback_many h
  · exact fback_few hR (by omega) (by omega) rfl hw hl hc
end
end Go.Proofs.Ytdeloaknoadpiaa
