/- The law TokenBlanks: blanks and remarks between two sources change nothing: the tokens of the whole are those of the parts. -/
import Derived.Test.YtmgbebpkkidooaaDoorTBlankP
namespace Go.Proofs.YtmgbebpkkidooaaDoor
open Go.RowKit Tok

theorem cat_list (a b : ByteArray) : (a ++ b).data.toList = a.data.toList ++ b.data.toList := by simp
theorem cat_size (a b : ByteArray) : (a ++ b).size = a.size + b.size := by simp

set_option maxRecDepth 20000 in
set_option maxHeartbeats 400000 in
theorem blanks_big {a b : ByteArray} {k m : Int} {w : World} (h : 4000 < a.size ∨ 4000 < b.size) (ha : a.size ≤ 140737488351232) (hb : b.size ≤ 140737488351232) (hE : ErrR w) (hS : SignsOK w) :
    Calls Tryd.prog 6 #[.string a, .string b, .int .u8 k, .int .u8 m] w fun e w' => e = .returned (.bool true) ∧ Below w.heap.size w w' := by
  have hW := Lib.hid (wakes_any w hE hS)
  rcases Nat.lt_or_ge 4000 a.size with h1 | h1
  · have h1' : (4000 : Int) < (a.size : Int) := by omega
    go_enter Tryd.func6, Tryd.ntmps6
    go_wp2_with fail
    refine hW.out.mono ?_
    rintro e w1 ⟨rfl, hb1⟩
    go_wp2
    go_ret
    exact ⟨rfl, hb1⟩
  · have h1' : ¬ (4000 : Int) < (a.size : Int) := by omega
    have h2' : (4000 : Int) < (b.size : Int) := by omega
    go_enter Tryd.func6, Tryd.ntmps6
    go_wp2_with fail
    refine hW.out.mono ?_
    rintro e w1 ⟨rfl, hb1⟩
    go_wp2
    go_ret
    exact ⟨rfl, hb1⟩

theorem blank_more {S a : ByteArray} {j : Nat} (h : S.data.toList = a.data.toList ++ 10 :: List.replicate j 32) : (S ++ ⟨#[32]⟩).data.toList = a.data.toList ++ 10 :: List.replicate (j + 1) 32 := by
  rw [cat_list, h, List.replicate_succ']
  simp
theorem mark_more {S a : ByteArray} {j : Nat} (h : S.data.toList = a.data.toList ++ 10 :: List.replicate j 32) : (S ++ ⟨#[35]⟩).data.toList = a.data.toList ++ 10 :: (List.replicate j 32 ++ 35 :: (List.replicate 0 ([97, 34] : List UInt8)).flatten) := by
  rw [cat_list, h]
  simp
theorem letter_more {S a : ByteArray} {j i : Nat} (h : S.data.toList = a.data.toList ++ 10 :: (List.replicate j 32 ++ 35 :: (List.replicate i ([97, 34] : List UInt8)).flatten)) :
    (S ++ ⟨#[97, 34]⟩).data.toList = a.data.toList ++ 10 :: (List.replicate j 32 ++ 35 :: (List.replicate (i + 1) ([97, 34] : List UInt8)).flatten) := by
  rw [cat_list, h, List.replicate_succ', List.flatten_append]
  simp
theorem gap_none {S a : ByteArray} {j : Nat} (h : S.data.toList = a.data.toList ++ 10 :: List.replicate j 32) : S.data.toList = a.data.toList ++ gapL j 0 := by
  rw [h]; simp [gapL]
theorem gap_some {S a : ByteArray} {j m : Nat} (hm : 0 < m) (h : S.data.toList = a.data.toList ++ 10 :: (List.replicate j 32 ++ 35 :: (List.replicate m ([97, 34] : List UInt8)).flatten)) : (S ++ ⟨#[10]⟩).data.toList = a.data.toList ++ gapL j m := by
  rw [cat_list, h]; simp [gapL, hm]
theorem allGo_err : ∀ (k : Nat) (l : List UInt8) (n : Nat) (ts : List Tk), ((allGo k l n ts).code = 0 ∧ (allGo k l n ts).at_ = 0) ∨ ((allGo k l n ts).code ≠ 0 ∧ (allGo k l n ts).toks = [])
  | 0, _, _, _ => .inl ⟨rfl, rfl⟩
  | k + 1, [], _, _ => .inl ⟨rfl, rfl⟩
  | k + 1, c :: r, n, ts => by
    unfold allGo
    dsimp only
    split
    · exact allGo_err k _ _ _
    · split
      · exact allGo_err k _ _ _
      · cases ht : tokT (c :: r) with
        | bad i e => exact .inr ⟨tokT_code ht, rfl⟩
        | ok kd tx x i => exact allGo_err k _ _ _
theorem allGo_at : ∀ (k : Nat) (l : List UInt8) (n : Nat) (ts : List Tk), ∀ t ∈ (allGo k l n ts).toks, t ∈ ts ∨ t.at_ ≤ n + l.length
  | 0, _, _, _, t, h => .inl h
  | k + 1, [], _, _, t, h => .inl h
  | k + 1, c :: r, n, ts, t, h => by
    unfold allGo at h
    dsimp only at h
    split at h
    · rcases allGo_at k _ _ _ t h with h | h
      · exact .inl h
      · exact .inr (by simp; omega)
    · split at h
      · have := toLine_le r
        rcases allGo_at k _ _ _ t h with h | h
        · exact .inl h
        · exact .inr (by simp; omega)
      · cases ht : tokT (c :: r) with
        | bad i e => rw [ht] at h; simp at h
        | ok kd tx x i =>
          rw [ht] at h
          dsimp only at h
          have hle := tokT_le (c :: r)
          rw [ht] at hle
          simp only at hle
          rcases allGo_at k _ _ _ t h with h | h
          · rcases List.mem_append.1 h with h | h
            · exact .inl h
            · simp at h; subst h; exact .inr (by simp)
          · rw [List.length_drop] at h; exact .inr (by omega)
theorem TkIn.head {w : World} {a : Option Addr} {n cap : Nat} {ts us : List Tk} (h : TkIn w (.slice a n cap) (ts ++ us)) : TkIn w (.slice a ts.length cap) ts := by
  obtain ⟨a', cap', he, h1, h2, h3⟩ := h
  injection he with e1 e2 e3
  subst e1 e3
  rw [List.length_append] at h1
  refine ⟨_, _, rfl, by omega, h2, fun h0 => ?_⟩
  obtain ⟨g, off, rfl, hg, hc⟩ := h3 (by rw [List.length_append]; omega)
  refine ⟨g, off, rfl, hg, fun i hi c hc' => ?_⟩
  rw [hc i (by rw [List.length_append]; omega) c hc', List.getElem_append_left hi]

set_option maxRecDepth 20000 in
set_option maxHeartbeats 4000000 in
/-- A part goes wrong. -/
theorem blanks_bad {a b : ByteArray} {k m : Nat} {w : World} (ha : a.size ≤ 4000) (hb : b.size ≤ 4000) (hE : ErrR w) (hS : SignsOK w) {la lb : List Tk} {na ea nb eb : Nat}
    (hra : allR a.data.toList 0 [] = ⟨la, na, ea⟩) (hrb : allR b.data.toList 0 [] = ⟨lb, nb, eb⟩) (hz : (ea ≠ 0 ∧ la = []) ∨ (ea = 0 ∧ eb ≠ 0)) :
    Calls Tryd.prog 6 #[.string a, .string b, .int .u8 k, .int .u8 m] w fun e w' => e = .returned (.bool true) ∧ Below w.heap.size w w' := by
  have h1' : ¬ (4000 : Int) < (a.size : Int) := by omega
  have h2' : ¬ (4000 : Int) < (b.size : Int) := by omega
  have hta : allT a.data.toList = ⟨la, na, ea⟩ := (if_neg (by rw [size_list]; omega)).trans hra
  have htb : allT b.data.toList = ⟨lb, nb, eb⟩ := (if_neg (by rw [size_list]; omega)).trans hrb
  have hAa := All_any a w (by omega) hE hS
  have hAb := fun W (h : Below w.heap.size w W) => All_any b W (by omega) (hE.below h) (hS.below h)
  rw [hta] at hAa
  simp only [htb] at hAb
  replace hAa := Lib.hid hAa
  replace hAb := Lib.hid hAb
  have hWk := Lib.hid (fun W (h : Below w.heap.size w W) => wakes_any W (hE.below h) (hS.below h))
  clear hra hrb hta htb
  go_enter Tryd.func6, Tryd.ntmps6
  go_wp2_with fail
  refine hAa.out.mono ?_
  rintro e w1 ⟨va, rfl, hTa, hb1⟩
  obtain ⟨a1, c1, rfl, _, _⟩ := hTa.shape
  go_wp2_with fail
  refine (hAb.out w1 hb1).mono ?_
  rintro e w2 ⟨vb, rfl, hTb, hb2⟩
  obtain ⟨a2, c2, rfl, _, _⟩ := hTb.shape
  have hbw2 := hb1.trans (hb2.mono hb1.size)
  have hW := Lib.hid (hWk.out w2 hbw2)
  replace hbw2 := Lib.hid hbw2
  clear hTa hTb hAa hAb hWk
  rcases hz with ⟨h1, rfl⟩ | ⟨h1, h2⟩
  · have q1 : ((ea : Int) != 0) = true := by simp; omega
    go_wp2_with fail
    refine hW.out.mono ?_
    rintro e w3 ⟨rfl, hb3⟩
    go_wp2
    go_ret
    exact ⟨rfl, hbw2.out.trans (hb3.mono hbw2.out.size)⟩
  · subst h1
    have q2 : ((eb : Int) != 0) = true := by simp; omega
    cases hq : ((la.length : Int) == 0)
    all_goals
      go_wp2_with fail
      refine hW.out.mono ?_
      rintro e w3 ⟨rfl, hb3⟩
      go_wp2
      go_ret
      exact ⟨rfl, hbw2.out.trans (hb3.mono hbw2.out.size)⟩

set_option maxRecDepth 20000 in
set_option maxHeartbeats 8000000 in
/-- Both are right. -/
theorem blanks_good {a b : ByteArray} {k m : Nat} {w : World} (ha : a.size ≤ 4000) (hb : b.size ≤ 4000) (hk : k < 256) (hm : m < 256) (hE : ErrR w) (hS : SignsOK w) {la lb : List Tk}
    (hra : allR a.data.toList 0 [] = ⟨la, 0, 0⟩) (hrb : allR b.data.toList 0 [] = ⟨lb, 0, 0⟩) :
    Calls Tryd.prog 6 #[.string a, .string b, .int .u8 k, .int .u8 m] w fun e w' => e = .returned (.bool true) ∧ Below w.heap.size w w' := by
  have h1' : ¬ (4000 : Int) < (a.size : Int) := by omega
  have h2' : ¬ (4000 : Int) < (b.size : Int) := by omega
  have hta : allT a.data.toList = ⟨la, 0, 0⟩ := (if_neg (by rw [size_list]; omega)).trans hra
  have htb : allT b.data.toList = ⟨lb, 0, 0⟩ := (if_neg (by rw [size_list]; omega)).trans hrb
  have hatb := Lib.hid (fun t (ht : t ∈ lb) => show t.at_ ≤ 4000 from by
    have h2 : (allGo (b.data.toList.length + 1) b.data.toList 0 []).toks = lb := congrArg Ans.toks hrb
    rcases allGo_at (b.data.toList.length + 1) b.data.toList 0 [] t (h2 ▸ ht) with h | h
    · simp at h
    · rw [size_list] at h; omega)
  have hAa := All_any a w (by omega) hE hS
  have hAb := fun W (h : Below w.heap.size w W) => All_any b W (by omega) (hE.below h) (hS.below h)
  have hAs := fun (S : ByteArray) (hS1 : S.data.toList = a.data.toList ++ gapL k m) (hS2 : S.size ≤ 5000) W (h : Below w.heap.size w W) => All_any (S ++ b) W (by rw [cat_size]; omega) (hE.below h) (hS.below h)
  have hwhole : ∀ (S : ByteArray), S.data.toList = a.data.toList ++ gapL k m → S.size ≤ 5000 → allT (S ++ b).data.toList = ⟨la ++ lb.map (sh S.size), 0, 0⟩ := by
    intro S h1 h2
    have e1 : (S ++ b).data.toList = a.data.toList ++ (gapL k m ++ b.data.toList) := by rw [cat_list, h1, List.append_assoc]
    have e2 : S.size = (a.data.toList ++ gapL k m).length := by rw [← h1, size_list]
    rw [show allT (S ++ b).data.toList = allR (S ++ b).data.toList 0 [] from if_neg (by rw [size_list, cat_size]; omega), e1, all_whole hra hrb, ← e2]
  rw [hta] at hAa
  simp only [htb] at hAb
  replace hAa := Lib.hid hAa
  replace hAb := Lib.hid hAb
  replace hAs := Lib.hid hAs
  replace hwhole := Lib.hid hwhole
  have hWk := Lib.hid (fun W (h : Below w.heap.size w W) => wakes_any W (hE.below h) (hS.below h))
  clear hra hrb hta htb
  go_enter Tryd.func6, Tryd.ntmps6
  go_wp2_with fail
  refine hAa.out.mono ?_
  rintro e w1 ⟨va, rfl, hTa, hb1⟩
  obtain ⟨a1, c1, rfl, _, _⟩ := hTa.shape
  go_wp2_with fail
  refine (hAb.out w1 hb1).mono ?_
  rintro e w2 ⟨vb, rfl, hTb, hb2⟩
  obtain ⟨a2, c2, rfl, _, _⟩ := hTb.shape
  have hbw2 := hb1.trans (hb2.mono hb1.size)
  have hTa2 := Lib.hid ((hTa.below hb2).tkIn)
  have hTb2 := Lib.hid hTb.tkIn
  replace hbw2 := Lib.hid hbw2
  have hsz1 : ∀ S : ByteArray, S.size ≤ 5000 → (S.size : Int) ≤ 5000 := fun S h => by omega
  clear hTa hTb hAa hAb
  go_wp2
  go_loop [15, 16] (fun t15 t16 => ∃ (j : Nat) (S : ByteArray), j ≤ k ∧ t16 = .int .i64 j ∧ t15 = .string S ∧ Hid (S.data.toList = a.data.toList ++ 10 :: List.replicate j 32) ∧ S.size ≤ 4001 + j) (fun _ t16 => k - (intOf t16).toNat)
  case atStart => exact ⟨0, _, by omega, rfl, rfl, by simp [Lib.hid], by rw [cat_size]; show a.size + 1 ≤ _; omega⟩
  case round =>
    obtain ⟨j, S, hj, rfl, rfl, hSl, hSz⟩ := hrel
    rcases Nat.lt_or_ge j k with hlt | hge
    · have hlti : (j : Int) < (k : Int) := by omega
      go_wp2
      go_round
      case rel => exact ⟨j + 1, _, by omega, by go_num, rfl, blank_more hSl.out, by rw [cat_size]; show S.size + 1 ≤ _; omega⟩
      case measure => simp [intOf]; omega
    · have hjk : k = j := by omega
      subst hjk
      have hlti : ¬ ((k : Int) < (k : Int)) := by omega
      rcases Nat.eq_zero_or_pos m with rfl | hm0
      · have hG := gap_none hSl.out
        have hSz' : S.size ≤ 4300 := by omega
        go_wp2_with fail
        refine (hAs.out _ hG (by omega) w2 hbw2.out).mono ?_
        rw [hwhole.out _ hG (by omega)]
        rintro e w3 ⟨vn, rfl, hTn, hb3⟩
        obtain ⟨an, cn, rfl, hcn1, hcn2⟩ := hTn.shape
        have hTn3 := hTn.tkIn
        have hTa3 := hTa2.out.below hb3
        have hTb3 := hTb2.out.below hb3
        have hbw3 := Lib.hid (hbw2.out.trans (hb3.mono hbw2.out.size))
        have hal := alike_true hTn3.head hTa3
        rw [List.length_append, List.length_map] at hTn3 hcn1 ⊢
        have hne : (((la.length + lb.length : Nat) : Int) != (la.length : Int) + (lb.length : Int)) = false := by simp
        have hcl : (la.length : Int) ≤ (cn : Int) := by omega
        replace hal := Lib.hid hal
        replace hTn3 := Lib.hid hTn3
        replace hTb3 := Lib.hid hTb3
        clear hTn hTa3
        go_wp2_with fail
        refine hal.out.mono ?_
        rintro e w4 ⟨rfl, hb4⟩
        have hbw4 := Lib.hid (hbw3.out.trans (hb4.mono hbw3.out.size))
        have hTn4 := Lib.hid (hTn3.out.below hb4)
        have hTb4 := Lib.hid (hTb3.out.below hb4)
        clear hTn3 hTb3 hal
        have hlbn : la.length + lb.length ≤ 9223372036854775807 := by omega
        go_wp2
        go_loopw [21, 22] (fun t21 _ wr => ∃ i : Nat, i ≤ lb.length ∧ t21 = .int .i64 i ∧ Hid (Below w4.heap.size w4 wr)) (fun t21 _ _ => lb.length - (intOf t21).toNat)
        case atStart => exact ⟨0, by omega, rfl, Below.refl _ _⟩
        case round =>
          obtain ⟨i, hi, rfl, hbw⟩ := hrel
          rcases Nat.lt_or_ge i lb.length with hlt3 | hge3
          · have hlti3 : (i : Int) < (lb.length : Int) := by omega
            obtain ⟨_, _, hen, _, _, hcn3⟩ := hTn4.out.below hbw.out
            injection hen with hen1 hen2 hen3
            subst hen1 hen3
            obtain ⟨g1, o1, rfl, hg1, hx⟩ := hcn3 (by rw [List.length_append, List.length_map]; omega)
            obtain ⟨_, _, hem, _, _, hcm3⟩ := hTb4.out.below hbw.out
            injection hem with hem1 hem2 hem3
            subst hem1 hem3
            obtain ⟨g2, o2, rfl, hg2, hy⟩ := hcm3 (by omega)
            have hx4 := hx (la.length + i) (by rw [List.length_append, List.length_map]; omega)
            have hy4 := hy i hlt3
            have hgx : (la ++ lb.map (sh S.size))[la.length + i]'(by rw [List.length_append, List.length_map]; omega) = sh S.size lb[i] := by
              rw [List.getElem_append_right (by omega)]
              simp
            rw [hgx] at hx4
            have hzz : ∀ (o : Obj) n c, c < 4 → ((wr.alloc o).drewN n).cell? ⟨g2, o2 + i * 4 + c, none⟩ = wr.cell? ⟨g2, o2 + i * 4 + c, none⟩ := fun o n c _ => (below_drewN ((Below.refl wr.heap.size wr).alloc (Nat.le_refl _) o) n).cell (p := ⟨g2, o2 + i * 4 + c, none⟩) hg2
            have hati := hatb.out lb[i] (List.getElem_mem _)
            generalize lb[i] = t at *
            obtain ⟨kd, tx, x, at_⟩ := t
            simp only at hati
            have p0 := hx4 0 (by omega); have p1 := hx4 1 (by omega); have p2 := hx4 2 (by omega); have p3 := hx4 3 (by omega)
            have z0 := fun o n => (hzz o n 0 (by omega)).trans (hy4 0 (by omega)); have z1 := fun o n => (hzz o n 1 (by omega)).trans (hy4 1 (by omega)); have z2 := fun o n => (hzz o n 2 (by omega)).trans (hy4 2 (by omega)); have z3 := fun o n => (hzz o n 3 (by omega)).trans (hy4 3 (by omega))
            simp only [tkC, sh, List.getElem?_cons_succ, List.getElem?_cons_zero, Nat.add_zero] at p0 p1 p2 p3 z0 z1 z2 z3
            have hlai : (la.length : Int) + (i : Int) < (la.length : Int) + (lb.length : Int) := by omega
            clear hx hy hx4 hy4 hgx hzz hcn3 hcm3 hen2 hem2
            go_wp2
            go_quiet (fail)
            go_wp2
            go_roundw
            case rel => exact ⟨i + 1, by omega, by go_num, below_drewN (hbw.out.alloc hbw.out.size _) _⟩
            case measure => simp [intOf]; omega
          · have hil : i = lb.length := by omega
            subst hil
            have hlti3 : ¬ ((lb.length : Int) < (lb.length : Int)) := by omega
            have hbw5 := Lib.hid (hbw4.out.trans (hbw.out.mono hbw4.out.size))
            have hW := Lib.hid (hWk.out _ hbw5.out)
            go_wp2_with fail
            refine hW.out.mono ?_
            rintro e w6 ⟨rfl, hb6⟩
            go_wp2
            go_ret
            exact ⟨rfl, hbw5.out.trans (hb6.mono hbw5.out.size)⟩

      · have hm1 : (0 : Int) < (m : Int) := by omega
        go_wp2
        go_loop [15, 17] (fun t15 t17 => ∃ (i : Nat) (S : ByteArray), i ≤ m ∧ t17 = .int .i64 i ∧ t15 = .string S ∧ Hid (S.data.toList = a.data.toList ++ 10 :: (List.replicate k 32 ++ 35 :: (List.replicate i ([97, 34] : List UInt8)).flatten)) ∧ S.size ≤ 4300 + 2 * i) (fun _ t17 => m - (intOf t17).toNat)
        case atStart => exact ⟨0, _, by omega, rfl, rfl, mark_more hSl.out, by rw [cat_size]; show S.size + 1 ≤ _; omega⟩
        case round =>
          obtain ⟨i, T, hi, rfl, rfl, hTl, hTz⟩ := hrel
          rcases Nat.lt_or_ge i m with hlt2 | hge2
          · have hlti2 : (i : Int) < (m : Int) := by omega
            go_wp2
            go_round
            case rel => exact ⟨i + 1, _, by omega, by go_num, rfl, letter_more hTl.out, by rw [cat_size]; show T.size + 2 ≤ _; omega⟩
            case measure => simp [intOf]; omega
          · have hjm : m = i := by omega
            subst hjm
            have hlti2 : ¬ ((m : Int) < (m : Int)) := by omega
            have hG := gap_some hm0 hTl.out
            have hSz' : (T ++ (⟨#[10]⟩ : ByteArray)).size ≤ 4900 := by rw [cat_size]; show T.size + 1 ≤ _; omega
            go_wp2_with fail
            generalize T ++ (⟨#[10]⟩ : ByteArray) = U at *
            refine (hAs.out _ hG (by omega) w2 hbw2.out).mono ?_
            rw [hwhole.out _ hG (by omega)]
            rintro e w3 ⟨vn, rfl, hTn, hb3⟩
            obtain ⟨an, cn, rfl, hcn1, hcn2⟩ := hTn.shape
            have hTn3 := hTn.tkIn
            have hTa3 := hTa2.out.below hb3
            have hTb3 := hTb2.out.below hb3
            have hbw3 := Lib.hid (hbw2.out.trans (hb3.mono hbw2.out.size))
            have hal := alike_true hTn3.head hTa3
            rw [List.length_append, List.length_map] at hTn3 hcn1 ⊢
            have hne : (((la.length + lb.length : Nat) : Int) != (la.length : Int) + (lb.length : Int)) = false := by simp
            have hcl : (la.length : Int) ≤ (cn : Int) := by omega
            replace hal := Lib.hid hal
            replace hTn3 := Lib.hid hTn3
            replace hTb3 := Lib.hid hTb3
            clear hTn hTa3
            go_wp2_with fail
            refine hal.out.mono ?_
            rintro e w4 ⟨rfl, hb4⟩
            have hbw4 := Lib.hid (hbw3.out.trans (hb4.mono hbw3.out.size))
            have hTn4 := Lib.hid (hTn3.out.below hb4)
            have hTb4 := Lib.hid (hTb3.out.below hb4)
            clear hTn3 hTb3 hal
            have hlbn : la.length + lb.length ≤ 9223372036854775807 := by omega
            go_wp2
            go_loopw [21, 22] (fun t21 _ wr => ∃ i : Nat, i ≤ lb.length ∧ t21 = .int .i64 i ∧ Hid (Below w4.heap.size w4 wr)) (fun t21 _ _ => lb.length - (intOf t21).toNat)
            case atStart => exact ⟨0, by omega, rfl, Below.refl _ _⟩
            case round =>
              obtain ⟨i, hi, rfl, hbw⟩ := hrel
              rcases Nat.lt_or_ge i lb.length with hlt3 | hge3
              · have hlti3 : (i : Int) < (lb.length : Int) := by omega
                obtain ⟨_, _, hen, _, _, hcn3⟩ := hTn4.out.below hbw.out
                injection hen with hen1 hen2 hen3
                subst hen1 hen3
                obtain ⟨g1, o1, rfl, hg1, hx⟩ := hcn3 (by rw [List.length_append, List.length_map]; omega)
                obtain ⟨_, _, hem, _, _, hcm3⟩ := hTb4.out.below hbw.out
                injection hem with hem1 hem2 hem3
                subst hem1 hem3
                obtain ⟨g2, o2, rfl, hg2, hy⟩ := hcm3 (by omega)
                have hx4 := hx (la.length + i) (by rw [List.length_append, List.length_map]; omega)
                have hy4 := hy i hlt3
                have hgx : (la ++ lb.map (sh U.size))[la.length + i]'(by rw [List.length_append, List.length_map]; omega) = sh U.size lb[i] := by
                  rw [List.getElem_append_right (by omega)]
                  simp
                rw [hgx] at hx4
                have hzz : ∀ (o : Obj) n c, c < 4 → ((wr.alloc o).drewN n).cell? ⟨g2, o2 + i * 4 + c, none⟩ = wr.cell? ⟨g2, o2 + i * 4 + c, none⟩ := fun o n c _ => (below_drewN ((Below.refl wr.heap.size wr).alloc (Nat.le_refl _) o) n).cell (p := ⟨g2, o2 + i * 4 + c, none⟩) hg2
                have hati := hatb.out lb[i] (List.getElem_mem _)
                generalize lb[i] = t at *
                obtain ⟨kd, tx, x, at_⟩ := t
                simp only at hati
                have p0 := hx4 0 (by omega); have p1 := hx4 1 (by omega); have p2 := hx4 2 (by omega); have p3 := hx4 3 (by omega)
                have z0 := fun o n => (hzz o n 0 (by omega)).trans (hy4 0 (by omega)); have z1 := fun o n => (hzz o n 1 (by omega)).trans (hy4 1 (by omega)); have z2 := fun o n => (hzz o n 2 (by omega)).trans (hy4 2 (by omega)); have z3 := fun o n => (hzz o n 3 (by omega)).trans (hy4 3 (by omega))
                simp only [tkC, sh, List.getElem?_cons_succ, List.getElem?_cons_zero, Nat.add_zero] at p0 p1 p2 p3 z0 z1 z2 z3
                have hlai : (la.length : Int) + (i : Int) < (la.length : Int) + (lb.length : Int) := by omega
                clear hx hy hx4 hy4 hgx hzz hcn3 hcm3 hen2 hem2
                go_wp2
                go_quiet (fail)
                go_wp2
                go_roundw
                case rel => exact ⟨i + 1, by omega, by go_num, below_drewN (hbw.out.alloc hbw.out.size _) _⟩
                case measure => simp [intOf]; omega
              · have hil : i = lb.length := by omega
                subst hil
                have hlti3 : ¬ ((lb.length : Int) < (lb.length : Int)) := by omega
                have hbw5 := Lib.hid (hbw4.out.trans (hbw.out.mono hbw4.out.size))
                have hW := Lib.hid (hWk.out _ hbw5.out)
                go_wp2_with fail
                refine hW.out.mono ?_
                rintro e w6 ⟨rfl, hb6⟩
                go_wp2
                go_ret
                exact ⟨rfl, hbw5.out.trans (hb6.mono hbw5.out.size)⟩


theorem tokenBlanks_walk (a b : ByteArray) (k m : Int) (w : World) (ha : a.size ≤ 140737488351232) (hb : b.size ≤ 140737488351232) (hk : (Lit.int .u8 k).wf = true) (hm : (Lit.int .u8 m).wf = true) (hE : ErrR w) (hS : SignsOK w) :
    Calls Tryd.prog 6 #[.string a, .string b, .int .u8 k, .int .u8 m] w fun e w' => e = .returned (.bool true) ∧ Below w.heap.size w w' := by
  by_cases h : 4000 < a.size ∨ 4000 < b.size
  · exact blanks_big h ha hb hE hS
  · simp [Lit.wf, IntKind.min, IntKind.max, IntKind.signed, IntKind.bits] at hk hm
    obtain ⟨k', rfl⟩ : ∃ k' : Nat, k = k' := ⟨k.toNat, by omega⟩
    obtain ⟨m', rfl⟩ : ∃ m' : Nat, m = m' := ⟨m.toNat, by omega⟩
    rcases hra : allR a.data.toList 0 [] with ⟨la, na, ea⟩
    rcases hrb : allR b.data.toList 0 [] with ⟨lb, nb, eb⟩
    have h1 := allGo_err (a.data.toList.length + 1) a.data.toList 0 []
    have h2 := allGo_err (b.data.toList.length + 1) b.data.toList 0 []
    have e1 : allGo (a.data.toList.length + 1) a.data.toList 0 [] = ⟨la, na, ea⟩ := hra
    have e2 : allGo (b.data.toList.length + 1) b.data.toList 0 [] = ⟨lb, nb, eb⟩ := hrb
    rw [e1] at h1
    rw [e2] at h2
    simp only at h1 h2
    rcases h1 with ⟨rfl, rfl⟩ | ⟨h1, rfl⟩
    · rcases h2 with ⟨rfl, rfl⟩ | ⟨h2, rfl⟩
      · exact blanks_good (by omega) (by omega) (by omega) (by omega) hE hS hra hrb
      · exact blanks_bad (by omega) (by omega) hE hS hra hrb (.inr ⟨rfl, h2⟩)
    · exact blanks_bad (by omega) (by omega) hE hS hra hrb (.inl ⟨h1, rfl⟩)
end Go.Proofs.YtmgbebpkkidooaaDoor
