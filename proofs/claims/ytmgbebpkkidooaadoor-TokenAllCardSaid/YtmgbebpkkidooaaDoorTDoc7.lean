/- The document's Hex, escape (layer 7), walked. No condition. -/
import Derived.Test.YtmgbebpkkidooaaDoorTDoc1
import Derived.Test.YtmgbebpkkidooaaDoorTTxt
namespace Go.Proofs.YtmgbebpkkidooaaDoor
open Go.RowKit Tok

namespace Tok
/-- Digits that are still to come, at n, with what they said so far. -/
def hexR : Nat → List UInt8 → Nat → Nat → Item
  | 0, _, n, x => .ok x.toUInt8 n
  | _ + 1, [], n, _ => .bad n 4
  | j + 1, c :: l, n, x => match hexV c with
    | none => .bad n 9
    | some d => hexR j l (n + 1) (16 * x + d)
theorem hexT_R (r : List UInt8) : hexT r = hexR 2 r 2 0 := by
  match r with
  | [] => rfl
  | [e] => simp only [hexT, hexR]; cases hexV e <;> rfl
  | e :: f :: l =>
    simp only [hexT, hexR]
    cases hexV e with
    | none => rfl
    | some x => cases hexV f <;> simp
theorem hexV_lt {c : UInt8} {d : Nat} (h : hexV c = some d) : d < 16 := by
  unfold hexV digC at h
  split at h
  · rename_i h1
    have h2 := of_decide_eq_true h1
    cases h; omega
  · split at h
    · cases h; omega
    · cases h
/-- A byte behind a \\. -/
theorem itemT_esc (r : List UInt8) : itemT 92 r = match r with
    | [] => .bad 1 4
    | d :: r => if d.toNat = 34 ∨ d.toNat = 92 then .ok d 2 else if d.toNat = 110 then .ok 10 2 else if d.toNat = 120 then hexR 2 r 2 0 else .bad 1 9 := by
  unfold itemT
  rw [if_neg (by decide), if_neg (by decide)]
  cases r with
  | nil => rfl
  | cons d r => simp only [hexT_R]
end Tok
def hexI (c : UInt8) : Int := match hexV c with | none => -1 | some d => d
set_option maxHeartbeats 1000000 in
theorem refHex_any (c : UInt8) (w : World) : Calls Tryd.prog 61 #[.int .u8 (c.toNat : Int)] w fun e w' => e = .returned (.int .i64 (hexI c)) ∧ w' = w := by
  obtain ⟨V, hV⟩ := exHid (hexI c)
  rw [hV.out]
  have hv := hV.out
  unfold hexI hexV at hv
  rcases hd : digC c with _ | _
  · rw [hd] at hv
    have k := Lib.hid (calls_at (refDig_any c w) hd)
    by_cases h1 : 97 ≤ c.toNat ∧ c.toNat ≤ 102
    · rw [if_neg (by simp), if_pos h1] at hv
      simp only at hv
      have i1 : (97 : Int) ≤ (c.toNat : Int) := by omega
      have i2 : (c.toNat : Int) ≤ 102 := by omega
      replace hv := Lib.hid hv
      clear hd h1 hV
      go_enter Tryd.func61, Tryd.ntmps61
      go_wp2_with fail
      refine k.out.mono ?_
      rintro e w2 ⟨rfl, rfl⟩
      go_wp2
      go_ret
      exact ⟨ret_int (by rw [← hv.out]; omega), rfl⟩
    · rw [if_neg (by simp), if_neg h1] at hv
      simp only at hv
      replace hv := Lib.hid hv
      have i3 : ¬ (97 : Int) ≤ (c.toNat : Int) ∨ ((97 : Int) ≤ (c.toNat : Int) ∧ ¬ (c.toNat : Int) ≤ 102) := by omega
      clear hd h1 hV
      rcases i3 with i1 | ⟨i1, i2⟩
      all_goals
        go_enter Tryd.func61, Tryd.ntmps61
        go_wp2_with fail
        refine k.out.mono ?_
        rintro e w2 ⟨rfl, rfl⟩
        go_wp2
        go_ret
        exact ⟨ret_int (by rw [← hv.out]), rfl⟩
  · rw [hd, if_pos rfl] at hv
    simp only at hv
    have k := Lib.hid (calls_at (refDig_any c w) hd)
    have i1 := of_decide_eq_true hd
    replace hv := Lib.hid hv
    clear hd hV
    go_enter Tryd.func61, Tryd.ntmps61
    go_wp2_with fail
    refine k.out.mono ?_
    rintro e w2 ⟨rfl, rfl⟩
    go_wp2
    go_ret
    exact ⟨ret_int (by rw [← hv.out]; omega), rfl⟩

/-- What the document's escape answers behind a \\ at p. -/
def escV (p : Nat) : Tok.Item → Value
  | .ok b n => .tuple #[.int .u8 b.toNat, .int .i64 ((p + n : Nat) : Int), .int .i64 0, .int .i64 0]
  | .bad n e => .tuple #[.int .u8 0, .int .i64 0, .int .i64 ((p + n : Nat) : Int), .int .i64 e]
theorem results_four {fn : Func} {t u v x : Tmp} (h : fn.results = #[.tmp t, .tmp u, .tmp v, .tmp x]) (tmps : Array Value) (P : Program) (w : World) :
    (results fn tmps).run P w = .ok (.tuple #[tmps.getD t undef, tmps.getD u undef, tmps.getD v undef, tmps.getD x undef]) w := by
  simp [results, h]
theorem hexI_some {c : UInt8} {d : Nat} (h : hexV c = some d) : hexI c = (d : Int) := by unfold hexI; rw [h]
theorem hexI_none {c : UInt8} (h : hexV c = none) : hexI c = -1 := by unfold hexI; rw [h]
theorem hex_call {c : UInt8} {v : Int} (h : hexI c = v) (w : World) : Calls Tryd.prog 61 #[.int .u8 (c.toNat : Int)] w fun e w' => e = .returned (.int .i64 v) ∧ w' = w := by
  have := refHex_any c w
  rwa [h] at this
set_option maxRecDepth 20000 in
set_option maxHeartbeats 4000000 in
theorem refEscape_any (s : ByteArray) (p : Nat) (w : World) (hs : s.size ≤ 1000000) (hp : p + 1 ≤ s.size) :
    Calls Tryd.prog 51 #[.string s, .int .i64 ((p + 1 : Nat) : Int)] w fun e w' => e = .returned (escV p (itemT 92 (s.data.toList.drop (p + 1)))) ∧ w' = w := by
  obtain ⟨V, hV⟩ := exHid (escV p (itemT 92 (s.data.toList.drop (p + 1))))
  rw [hV.out]
  have hv := hV.out
  rw [itemT_esc] at hv
  clear hV
  generalize hq : p + 1 = q at *
  rcases Nat.lt_or_ge q s.size with hlt | hge
  · have hlti : ¬ (s.size : Int) ≤ (q : Int) := by omega
    rw [at_drop hlt] at hv
    simp only at hv
    by_cases h1 : s[q].toNat = 34 ∨ s[q].toNat = 92
    · rw [if_pos h1] at hv
      have h12 : (((s[q].toNat : Int) == 34) = true) ∨ (((s[q].toNat : Int) == 34) = false ∧ ((s[q].toNat : Int) == 92) = true) := by
        rcases h1 with h1 | h1
        · left; rw [h1]; rfl
        · right; rw [h1]; exact ⟨rfl, rfl⟩
      replace hv := Lib.hid hv
      clear h1
      rcases h12 with q1 | ⟨q1, q2⟩
      all_goals
        go_enter Tryd.func51, Tryd.ntmps51
        go_wp2
        refine bodyPost_ret (results_four rfl _ _ _) rfl ?_
        exact ⟨by rw [← hv.out]; simp [escV]; omega, rfl⟩
    · rw [if_neg h1] at hv
      have n1 : ((s[q].toNat : Int) == 34) = false := beq_eq_false_iff_ne.2 (by omega)
      have n2 : ((s[q].toNat : Int) == 92) = false := beq_eq_false_iff_ne.2 (by omega)
      by_cases h3 : s[q].toNat = 110
      · rw [if_pos h3] at hv
        have q3 : ((s[q].toNat : Int) == 110) = true := by rw [h3]; rfl
        replace hv := Lib.hid hv
        clear h1
        replace h3 := Lib.hid h3
        go_enter Tryd.func51, Tryd.ntmps51
        go_wp2
        refine bodyPost_ret (results_four rfl _ _ _) rfl ?_
        exact ⟨by rw [← hv.out]; simp [escV]; omega, rfl⟩
      · rw [if_neg h3] at hv
        have n3 : ((s[q].toNat : Int) == 110) = false := beq_eq_false_iff_ne.2 (by omega)
        by_cases h4 : s[q].toNat = 120
        · rw [if_pos h4] at hv
          have q4 : ((s[q].toNat : Int) != 120) = false := by rw [h4]; rfl
          replace hv := Lib.hid hv
          clear h1 h3
          replace h4 := Lib.hid h4
          go_enter Tryd.func51, Tryd.ntmps51
          go_wp2
          go_loop [9, 10, 11] (fun t9 t10 _ => ∃ (j x : Nat), j ≤ 2 ∧ q + 1 + j ≤ s.size ∧ x < 256 ∧ (j ≤ 1 → x < 16) ∧ (j = 0 → x = 0) ∧ t10 = .int .i64 ((q + 1 + j : Nat) : Int) ∧ t9 = .int .i64 x ∧ Hid (escV p (hexR (2 - j) (s.data.toList.drop (q + 1 + j)) (2 + j) x) = V)) (fun _ t10 _ => q + 10 - (intOf t10).toNat)
          case atStart => exact ⟨0, 0, by omega, by omega, by omega, by omega, by omega, rfl, rfl, hv⟩
          case round =>
            obtain ⟨j, x, hj, hqj, hx, hx1, hx0, rfl, rfl, hR⟩ := hrel
            rcases Nat.lt_or_ge j 2 with hj2 | hj2
            · have hji : ((q + 1 + j : Nat) : Int) < (q : Int) + 3 := by omega
              rcases Nat.lt_or_ge (q + 1 + j) s.size with hz | hz
              · have hzi : ¬ (s.size : Int) ≤ ((q + 1 + j : Nat) : Int) := by omega
                have hR2 := hR.out
                rw [at_drop hz, show 2 - j = (1 - j) + 1 by omega] at hR2
                unfold hexR at hR2
                rcases hd : hexV s[q + 1 + j] with _ | d
                · rw [hd] at hR2
                  simp only at hR2
                  have k := Lib.hid (fun W => hex_call (hexI_none hd) W)
                  replace hR2 := Lib.hid hR2
                  clear hd hR
                  have hpj : p + (2 + j) = q + 1 + j := by omega
                  rw [show escV p (.bad (2 + j) 9) = .tuple #[.int .u8 0, .int .i64 0, .int .i64 ((p + (2 + j) : Nat) : Int), .int .i64 (9 : Nat)] from rfl, hpj] at hR2
                  generalize q + 1 + j = m at *
                  go_wp2_with fail
                  refine (k.out _).mono ?_
                  rintro e w2 ⟨rfl, rfl⟩
                  go_wp2
                  refine bodyPost_ret (results_four rfl _ _ _) rfl ?_
                  exact ⟨by rw [← hR2.out]; rfl, rfl⟩
                · rw [hd] at hR2
                  simp only at hR2
                  have hd16 := hexV_lt hd
                  have k := Lib.hid (fun W => hex_call (hexI_some hd) W)
                  rw [show 1 - j = 2 - (j + 1) by omega, show 2 + j + 1 = 2 + (j + 1) by omega, show q + 1 + j + 1 = q + 1 + (j + 1) by omega] at hR2
                  replace hR2 := Lib.hid hR2
                  clear hd hR
                  generalize hm : q + 1 + j = m at *
                  go_wp2_with fail
                  refine (k.out _).mono ?_
                  rintro e w2 ⟨rfl, rfl⟩
                  go_wp2
                  go_round
                  case rel => exact ⟨j + 1, 16 * x + d, by omega, by omega, by omega, by omega, by omega, by rw [show q + 1 + (j + 1) = m + 1 by omega]; go_num, by go_num, hR2⟩
                  case measure => simp [intOf]; omega
              · have hzi : (s.size : Int) ≤ ((q + 1 + j : Nat) : Int) := by omega
                have hR2 := hR.out
                rw [no_drop hz, show 2 - j = (1 - j) + 1 by omega] at hR2
                unfold hexR at hR2
                have hsz : q + 1 + j = s.size := by omega
                rw [show escV p (.bad (2 + j) 4) = .tuple #[.int .u8 0, .int .i64 0, .int .i64 ((p + (2 + j) : Nat) : Int), .int .i64 (4 : Nat)] from rfl, show p + (2 + j) = s.size by omega] at hR2
                replace hR2 := Lib.hid hR2
                clear hR
                generalize q + 1 + j = m at *
                go_wp2
                refine bodyPost_ret (results_four rfl _ _ _) rfl ?_
                exact ⟨by rw [← hR2.out]; rfl, rfl⟩
            · obtain rfl : j = 2 := by omega
              have hji : ¬ ((q + 1 + 2 : Nat) : Int) < (q : Int) + 3 := by omega
              have hc8 : IntKind.u8.wrap (x : Int) = (x : Int) := by rw [IntKind.wrap_u8']; omega
              have hR2 := hR.out
              rw [show 2 - 2 = 0 by omega] at hR2
              unfold hexR at hR2
              rw [show escV p (.ok x.toUInt8 (2 + 2)) = .tuple #[.int .u8 (x.toUInt8.toNat : Nat), .int .i64 ((p + (2 + 2) : Nat) : Int), .int .i64 0, .int .i64 0] from rfl, show x.toUInt8.toNat = x by simp; omega, show p + (2 + 2) = q + 3 by omega] at hR2
              replace hR2 := Lib.hid hR2
              clear hR
              go_wp2
              refine bodyPost_ret (results_four rfl _ _ _) rfl ?_
              exact ⟨by rw [← hR2.out]; simp, rfl⟩
        · rw [if_neg h4] at hv
          have q4 : ((s[q].toNat : Int) != 120) = true := by simp; omega
          replace hv := Lib.hid hv
          clear h1 h3
          go_enter Tryd.func51, Tryd.ntmps51
          go_wp2
          refine bodyPost_ret (results_four rfl _ _ _) rfl ?_
          exact ⟨by rw [← hv.out]; simp [escV]; omega, rfl⟩
  · have hlti : (s.size : Int) ≤ (q : Int) := by omega
    rw [no_drop hge] at hv
    simp only at hv
    replace hv := Lib.hid hv
    go_enter Tryd.func51, Tryd.ntmps51
    go_wp2
    refine bodyPost_ret (results_four rfl _ _ _) rfl ?_
    exact ⟨by rw [← hv.out]; simp [escV]; omega, rfl⟩
end Go.Proofs.YtmgbebpkkidooaaDoor
