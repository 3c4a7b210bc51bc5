/- The laws' wakes and Alike (layer 7), walked; token.All of a text that is too long. -/
import Derived.Test.YtmgbebpkkidooaaDoorTAll2
namespace Go.Proofs.YtmgbebpkkidooaaDoor
open Go.RowKit Tok

theorem tkC_len (t : Tk) : (tkC t).length = 4 := rfl
/-- Tokens lie in memory as v. -/
def TkIn (w : World) (v : Value) (ts : List Tk) : Prop :=
  ∃ a cap, v = .slice a ts.length cap ∧ ts.length ≤ cap ∧ cap ≤ 9223372036854775807 ∧ (0 < ts.length → ∃ g off, a = some ⟨g, off, none⟩ ∧ g < w.heap.size ∧ ∀ i (hi : i < ts.length) (c : Nat), c < 4 → w.cell? ⟨g, off + i * 4 + c, none⟩ = (tkC ts[i])[c]?)
section
variable {w W : World} {base : Nat} {v : Value} {ts : List Tk}
theorem TksAt.tkIn (h : TksAt w base v ts) : TkIn w v ts := by
  rcases h.2 with ⟨hv, h0⟩ | ⟨g, cap, cur, hv, hb, hg, hnc, hcm, hsz, ht⟩
  · exact ⟨none, 0, by rw [hv, h0], by omega, by omega, fun h => by omega⟩
  · refine ⟨_, cap, hv, hnc, by unfold maxLen at hcm; omega, fun h0 => ⟨g, 0, rfl, (Array.getElem?_eq_some_iff.1 hg).1, fun i hi c hc => ?_⟩⟩
    have hh := h
    unfold TksAt at hh
    rw [hv] at hh
    have := World.ownsRow.cellAt (g := g) (cap := cap) hh (i * 4 + c) (by omega)
    rw [Nat.zero_add, this]
    exact rowOf_get tkC_len ts i c hi hc
theorem TkIn.below (h : TkIn w v ts) (hb : Below w.heap.size w W) : TkIn W v ts := by
  obtain ⟨a, cap, rfl, h1, h2, h3⟩ := h
  refine ⟨a, cap, rfl, h1, h2, fun h0 => ?_⟩
  obtain ⟨g, off, rfl, hg, hc⟩ := h3 h0
  exact ⟨g, off, rfl, Nat.lt_of_lt_of_le hg hb.size, fun i hi c hc' => (hb.cell (p := ⟨g, off + i * 4 + c, none⟩) hg).trans (hc i hi c hc')⟩
end
theorem all_wakes : allT [108, 101, 116, 32, 120, 61, 49] = ⟨[⟨1, [108, 101, 116], 0, 0⟩, ⟨1, [120], 0, 4⟩, ⟨4, [61], 0, 5⟩, ⟨2, [], 1, 6⟩], 0, 0⟩ := by decide +kernel

set_option maxRecDepth 20000 in
set_option maxHeartbeats 1000000 in
theorem wakes_any (w : World) (hE : ErrR w) (hS : SignsOK w) :
    Calls Tryd.prog 8 #[] w fun e w' => e = .returned (.bool true) ∧ Below w.heap.size w w' := by
  have hA := All_any ⟨#[108, 101, 116, 32, 120, 61, 49]⟩ w (by decide) hE hS
  rw [show (⟨#[108, 101, 116, 32, 120, 61, 49]⟩ : ByteArray).data.toList = [108, 101, 116, 32, 120, 61, 49] from rfl, all_wakes] at hA
  replace hA := Lib.hid hA
  go_enter Tryd.func8, Tryd.ntmps8
  go_wp2_with fail
  refine hA.out.mono ?_
  rintro e w1 ⟨v, rfl, hT, hb⟩
  obtain ⟨a, cap, rfl, h1, h2, h3⟩ := hT.tkIn
  obtain ⟨g, off, rfl, hg, hc⟩ := h3 (by simp)
  have c1 := hc 2 (by simp) 1 (by omega)
  have c2 := hc 3 (by simp) 2 (by omega)
  have c3 := hc 3 (by simp) 3 (by omega)
  simp [tkC] at c1 c2 c3
  clear hc hT h3
  go_wp2
  go_ret
  exact ⟨rfl, hb⟩

set_option maxRecDepth 20000 in
set_option maxHeartbeats 1000000 in
/-- Alike of two lists of the same tokens. -/
theorem alike_true {w : World} {v1 v2 : Value} {ts : List Tk} (h1 : TkIn w v1 ts) (h2 : TkIn w v2 ts) :
    Calls Tryd.prog 10 #[v1, v2] w fun e w' => e = .returned (.bool true) ∧ Below w.heap.size w w' := by
  obtain ⟨a1, cap1, rfl, _, _, k1⟩ := h1
  obtain ⟨a2, cap2, rfl, hlc, hcm, k2⟩ := h2
  have hne : ((ts.length : Int) != (ts.length : Int)) = false := by simp
  replace k1 := Lib.hid k1
  replace k2 := Lib.hid k2
  go_enter Tryd.func10, Tryd.ntmps10
  go_wp2
  go_loopw [5] (fun t5 wr => ∃ i : Nat, i ≤ ts.length ∧ t5 = .int .i64 i ∧ Below w.heap.size w wr) (fun t5 _ => ts.length - (intOf t5).toNat)
  case atStart => exact ⟨0, by omega, rfl, Below.refl _ _⟩
  case round =>
    obtain ⟨i, hi, rfl, hbw⟩ := hrel
    rcases Nat.lt_or_ge i ts.length with hlt | hge
    · obtain ⟨b1, o1, rfl, hl1, hc1⟩ := k1.out (by omega)
      obtain ⟨b2, o2, rfl, hl2, hc2⟩ := k2.out (by omega)
      have hlti : (i : Int) < (ts.length : Int) := by omega
      have x1 := fun n c (h : c < 4) => ((below_drewN hbw n).cell (p := ⟨b1, o1 + i * 4 + c, none⟩) hl1).trans (hc1 i hlt c h)
      have x2 := fun n c (h : c < 4) => ((below_drewN hbw n).cell (p := ⟨b2, o2 + i * 4 + c, none⟩) hl2).trans (hc2 i hlt c h)
      generalize ts[i] = t at *
      obtain ⟨kd, tx, x, at_⟩ := t
      have p0 := fun n => x1 n 0 (by omega); have p1 := fun n => x1 n 1 (by omega); have p2 := fun n => x1 n 2 (by omega); have p3 := fun n => x1 n 3 (by omega)
      have q0 := fun n => x2 n 0 (by omega); have q1 := fun n => x2 n 1 (by omega); have q2 := fun n => x2 n 2 (by omega); have q3 := fun n => x2 n 3 (by omega)
      simp only [tkC, List.getElem?_cons_succ, List.getElem?_cons_zero, Nat.add_zero] at p0 p1 p2 p3 q0 q1 q2 q3
      clear x1 x2 hc1 hc2
      replace hbw := Lib.hid hbw
      go_wp2
      go_quiet (fail)
      go_wp2
      go_roundw
      case rel => exact ⟨i + 1, by omega, by go_num, below_drewN hbw.out _⟩
      case measure => simp [intOf]; omega
    · obtain rfl : i = ts.length := by omega
      have hlti : ¬ ((ts.length : Int) < (ts.length : Int)) := by omega
      go_wp2
      go_ret
      exact ⟨rfl, hbw⟩

set_option maxHeartbeats 400000 in
/-- A source that is too long. -/
theorem All_long (s : ByteArray) (w : World) (hs : 16384 < s.size) (hs2 : s.size ≤ 140737488351232) :
    Calls Tryd.prog 7 #[.string s] w fun e w' => e = .returned (.tuple #[.slice none 0 0, .int .i64 0, .int .i64 2]) ∧ w' = w := by
  have h1 : (16384 : Int) < (s.size : Int) := by omega
  go_enter Tryd.func7, Tryd.ntmps7
  go_wp2
  go_step3
  go_wp2
  simp (config := { zetaDelta := true }) only [Exit.noGoto_ret]
  go_ret3
  exact ⟨rfl, rfl⟩

/-! ### 10 behind a source -/
namespace Tok
theorem span_ten {p : UInt8 → Bool} (hp : p 10 = false) (r : List UInt8) : ∀ l, span p (l ++ 10 :: r) = span p l
  | [] => by show (if p 10 = true then _ else _) = _; rw [if_neg (by rw [hp]; simp)]; rfl
  | c :: l => by
    show (if p c = true then span p (l ++ 10 :: r) + 1 else 0) = (if p c = true then span p l + 1 else 0)
    rw [span_ten hp r l]
theorem numN_ten (r : List UInt8) {c : UInt8} (l : List UInt8) : numN (c :: l ++ 10 :: r) = numN (c :: l) := by
  show (if c.toNat = 48 then 1 else span digC (c :: l ++ 10 :: r)) = (if c.toNat = 48 then 1 else span digC (c :: l))
  rw [span_ten (by decide) r (c :: l)]
theorem hexT_ten (r : List UInt8) {l : List UInt8} {b : UInt8} {n : Nat} (h : hexT l = .ok b n) : hexT (l ++ 10 :: r) = .ok b n := by
  match l with
  | [] => simp [hexT] at h
  | [e] => simp only [hexT] at h; split at h <;> simp at h
  | e :: f :: l => exact h
theorem itemT_ten (r : List UInt8) {c : UInt8} {l : List UInt8} {b : UInt8} {n : Nat} (h : itemT c l = .ok b n) : itemT c (l ++ 10 :: r) = .ok b n := by
  unfold itemT at h ⊢
  by_cases h1 : plainC c = false
  · rw [if_pos h1] at h; cases h
  · rw [if_neg h1] at h ⊢
    by_cases h2 : c.toNat ≠ 92
    · rw [if_pos h2] at h ⊢; exact h
    · rw [if_neg h2] at h ⊢
      match l with
      | [] => cases h
      | d :: l =>
        dsimp only [List.cons_append] at h ⊢
        split
        · rename_i h3; rw [if_pos h3] at h; exact h
        · rename_i h3
          rw [if_neg h3] at h
          split
          · rename_i h4; rw [if_pos h4] at h; exact h
          · rename_i h4
            rw [if_neg h4] at h
            split
            · rename_i h5; rw [if_pos h5] at h; exact hexT_ten r h
            · rename_i h5; rw [if_neg h5] at h; cases h
theorem textGo_ten (r : List UInt8) : ∀ (k m : Nat) (l acc : List UInt8) (n : Nat) {tx : List UInt8} {i : Nat}, l.length < k → l.length + r.length + 1 < m → textGo k l acc n = .ok 3 tx 0 i → textGo m (l ++ 10 :: r) acc n = .ok 3 tx 0 i
  | 0, _, _, _, _, _, _, h, _, _ => by omega
  | _ + 1, 0, _, _, _, _, _, _, h, _ => by omega
  | k + 1, m + 1, l, acc, n, tx, i, hk, hm, h => by
    unfold textGo at h ⊢
    match l with
    | [] => cases h
    | c :: l =>
      dsimp only [List.cons_append] at h ⊢
      by_cases h1 : c.toNat = 34
      · rw [if_pos h1] at h ⊢; exact h
      · rw [if_neg h1] at h ⊢
        cases hi : itemT c l with
        | bad j e => rw [hi] at h; cases h
        | ok b j =>
          rw [hi] at h
          rw [itemT_ten r hi]
          dsimp only at h ⊢
          by_cases h2 : acc.length = 4095
          · rw [if_pos h2] at h; cases h
          · rw [if_neg h2] at h ⊢
            have h3 := itemT_pos hi
            have h4 := itemT_le hi
            rw [← List.cons_append, List.drop_append_of_le_length (by simpa using h4)]
            simp only [List.length_cons] at hk hm
            exact textGo_ten r k m _ _ _ (by rw [List.length_drop]; simp; omega) (by rw [List.length_drop]; simp; omega) h
theorem prefix_ten (r : List UInt8) : ∀ (a l : List UInt8), (10 : UInt8) ∉ a → a.isPrefixOf (l ++ 10 :: r) = a.isPrefixOf l
  | [], _, _ => by simp
  | x :: a, [], h => by
    simp only [List.nil_append, List.isPrefixOf]
    have : (x == 10) = false := by
      cases hx : x == 10 with
      | false => rfl
      | true => exact absurd (by rw [beq_iff_eq.1 hx]; simp) h
    rw [this]; rfl
  | x :: a, y :: l, h => by
    simp only [List.cons_append, List.isPrefixOf]
    rw [prefix_ten r a l (fun h' => h (by simp [h']))]
theorem signGo_ten (r : List UInt8) : ∀ (ss : List (List UInt8)) (l : List UInt8) {kd : Nat} {tx : List UInt8} {x i : Nat}, (∀ s ∈ ss, (10 : UInt8) ∉ s) → signGo ss l = .ok kd tx x i → signGo ss (l ++ 10 :: r) = .ok kd tx x i
  | [], l, _, _, _, _, _, h => (noneT_bad l h).elim
  | s :: ss, l, _, _, _, _, hs, h => by
    unfold signGo at h ⊢
    rw [prefix_ten r s l (hs s (by simp))]
    by_cases h1 : s.isPrefixOf l = true
    · rw [if_pos h1] at h ⊢; exact h
    · rw [if_neg h1] at h ⊢
      exact signGo_ten r ss l (fun s hs' => hs s (by simp [hs'])) h
theorem tokT_ten (r : List UInt8) {c : UInt8} {l : List UInt8} {kd : Nat} {tx : List UInt8} {x i : Nat} (h : tokT (c :: l) = .ok kd tx x i) : tokT (c :: l ++ 10 :: r) = .ok kd tx x i := by
  rw [tokT_cons] at h
  rw [List.cons_append, tokT_cons]
  by_cases h1 : lowC c = true
  · rw [if_pos h1] at h ⊢
    rw [← List.cons_append]
    unfold wordT at h ⊢
    rw [span_ten (by decide) r (c :: l)]
    have := span_le (p := wordC) (c :: l)
    rw [List.take_append_of_le_length this]
    exact h
  · rw [if_neg h1] at h ⊢
    by_cases h2 : digC c = true
    · rw [if_pos h2] at h ⊢
      rw [← List.cons_append]
      have hN := numN_le (c :: l)
      unfold numT at h ⊢
      rw [numN_ten r l, List.take_append_of_le_length hN, List.drop_append_of_le_length hN]
      by_cases h3 : 9223372036854775807 < numV ((c :: l).take (numN (c :: l)))
      · rw [if_pos h3] at h; cases h
      · rw [if_neg h3] at h ⊢
        cases hd : (c :: l).drop (numN (c :: l)) with
        | nil =>
          rw [hd] at h
          simp only [List.nil_append] at h ⊢
          rw [if_neg (by decide)]
          exact h
        | cons d l' => rw [hd] at h; exact h
    · rw [if_neg h2] at h ⊢
      by_cases h3 : c.toNat = 34
      · rw [if_pos h3] at h ⊢
        have e1 : textT (c :: l) = textGo (l.length + 1) l [] 1 := rfl
        have e2 : textT (c :: (l ++ 10 :: r)) = textGo ((l ++ 10 :: r).length + 1) (l ++ 10 :: r) [] 1 := rfl
        rw [e1] at h
        rw [e2]
        rcases textGo_res (l.length + 1) l [] 1 with ⟨j, e, hr, _⟩ | ⟨tx', j, hr⟩
        · rw [hr] at h; cases h
        · rw [hr] at h
          injection h with q1 q2 q3 q4
          subst q1 q2 q3 q4
          exact textGo_ten r _ _ l [] 1 (by omega) (by rw [List.length_append, List.length_cons]; omega) hr
      · rw [if_neg h3] at h ⊢
        exact signGo_ten r signs (c :: l) (by decide) h
theorem toLine_ten (r : List UInt8) : ∀ l, toLine (l ++ 10 :: r) = toLine l ++ 10 :: r
  | [] => rfl
  | c :: l => by
    show (if c.toNat = 10 then c :: (l ++ 10 :: r) else toLine (l ++ 10 :: r)) = (if c.toNat = 10 then c :: l else toLine l) ++ 10 :: r
    rw [toLine_ten r l]
    split <;> rfl
end Tok
end Go.Proofs.YtmgbebpkkidooaaDoor
