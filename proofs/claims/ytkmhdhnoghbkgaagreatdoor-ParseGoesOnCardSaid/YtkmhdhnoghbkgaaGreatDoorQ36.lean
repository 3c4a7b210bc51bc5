/- Plain: the tokens that a source has are such as are told, and such as the grammar asks for. No condition. -/
import Derived.Test.YtkmhdhnoghbkgaaGreatDoorQ34
import Derived.Test.YtkmhdhnoghbkgaaGreatDoorQ35
import Derived.Test.YtkmhdhnoghbkgaaGreatDoorQ16
import Derived.Test.YtkmhdhnoghbkgaaGreatDoorQ29
import Derived.Test.YtkmhdhnoghbkgaaGreatDoorQ30
import Derived.Test.YtkmhdhnoghbkgaaGreatDoorQ33
set_option linter.unusedVariables false
/- Plain: the tokens that a source has are such as are told, and such as the grammar asks for. No condition. -/
namespace Go.Proofs.YtkmhdhnoghbkgaaGreatDoor
open Go.RowKit Tok

theorem span_take {p : UInt8 → Bool} : ∀ l : List UInt8, (l.take (span p l)).all p = true ∧ span p l ≤ l.length
  | [] => ⟨rfl, Nat.le_refl _⟩
  | c :: l => by
    unfold span
    split
    · rename_i h
      obtain ⟨h1, h2⟩ := span_take (p := p) l
      refine ⟨?_, by simp; omega⟩
      rw [List.take_succ_cons, List.all_cons, h, h1]
      rfl
    · exact ⟨rfl, Nat.zero_le _⟩
theorem textGo_told : ∀ (k : Nat) (l acc : List UInt8) (n : Nat) {kd : Nat} {tx : List UInt8} {x i : Nat}, acc.length ≤ 4095 → textGo k l acc n = .ok kd tx x i → kd = 3 ∧ tx.length ≤ 4095 ∧ x = 0
  | 0, _, _, _, _, _, _, _, _, h => by unfold textGo at h; cases h
  | k + 1, l, acc, n, kd, tx, x, i, ha, h => by
    unfold textGo at h
    match l, h with
    | [], h => cases h
    | c :: r, h =>
      dsimp only at h
      split at h
      · cases h; exact ⟨rfl, ha, rfl⟩
      · cases hi : itemT c r with
        | bad j e => rw [hi] at h; cases h
        | ok b j =>
          rw [hi] at h
          dsimp only at h
          split at h
          · cases h
          · exact textGo_told k _ _ _ (by rw [List.length_append, List.length_singleton]; omega) h
theorem signGo_told : ∀ (ss : List (List UInt8)) (l : List UInt8) {kd : Nat} {tx : List UInt8} {x i : Nat}, signGo ss l = .ok kd tx x i → kd = 4 ∧ tx ∈ ss ∧ x = 0
  | [], l, _, _, _, _, h => (noneT_bad l h).elim
  | s :: ss, l, _, _, _, _, h => by
    unfold signGo at h
    split at h
    · cases h; exact ⟨rfl, List.mem_cons_self, rfl⟩
    · obtain ⟨h1, h2, h3⟩ := signGo_told ss l h
      exact ⟨h1, List.mem_cons_of_mem _ h2, h3⟩
/-- A token that was read. -/
def GoodTk (t : Tk) : Prop := told (toG t) = true ∧ t.num ≤ 9223372036854775807 ∧ TokOK t
theorem tokT_good {c : UInt8} {r : List UInt8} {kd : Nat} {tx : List UInt8} {x i : Nat} (n : Nat) (h : tokT (c :: r) = .ok kd tx x i) : GoodTk ⟨kd, tx, x, n⟩ := by
  rw [tokT_cons] at h
  by_cases h1 : lowC c = true
  · rw [if_pos h1] at h
    unfold wordT at h
    split at h
    · cases h
    · rename_i hs
      cases h
      have hw : span wordC (c :: r) = span wordC r + 1 := by
        show (if wordC c = true then span wordC r + 1 else 0) = _
        rw [if_pos (low_word h1)]
      have hn : nameL ((c :: r).take (span wordC (c :: r))) = true := by
        rw [hw, List.take_succ_cons]
        unfold nameL
        dsimp only
        obtain ⟨a1, a2⟩ := span_take (p := wordC) r
        rw [Bool.and_eq_true, Bool.and_eq_true]
        refine ⟨⟨decide_eq_true (by rw [List.length_take]; omega), h1⟩, a1⟩
      refine ⟨?_, Nat.zero_le _, ?_, ?_⟩
      · unfold told toG
        dsimp only
        rw [if_pos rfl, hn]
        rfl
      · intro _
        by_cases hk : kwB ((c :: r).take (span wordC (c :: r))) = true
        · exact .inr hk
        · refine .inl ?_
          unfold textOK
          rw [if_neg (by decide), if_pos rfl]
          unfold ownL
          simp [hn, hk]
      · intro e; exact absurd e (by dsimp only; decide)
  · rw [if_neg h1] at h
    by_cases h2 : digC c = true
    · rw [if_pos h2] at h
      unfold numT at h
      split at h
      · cases h
      · rename_i hx
        have hh : kd = 2 ∧ tx = [] ∧ x = numV ((c :: r).take (numN (c :: r))) := by
          split at h
          · cases h; exact ⟨rfl, rfl, rfl⟩
          · split at h
            · cases h
            · cases h; exact ⟨rfl, rfl, rfl⟩
        obtain ⟨rfl, rfl, rfl⟩ := hh
        refine ⟨?_, by dsimp only; omega, ⟨fun e => absurd e (by dsimp only; decide), fun e => absurd e (by dsimp only; decide)⟩⟩
        unfold told toG
        dsimp only
        rw [if_neg (by decide), if_pos rfl]
        simp
    · rw [if_neg h2] at h
      by_cases h3 : c.toNat = 34
      · rw [if_pos h3] at h
        obtain ⟨rfl, a2, rfl⟩ := textGo_told _ _ _ _ (Nat.zero_le _) h
        refine ⟨?_, Nat.zero_le _, ⟨fun e => absurd e (by dsimp only; decide), fun _ => ?_⟩⟩
        · unfold told toG
          dsimp only
          rw [if_neg (by decide), if_neg (by decide), if_pos rfl]
          simp [a2]
        · unfold textOK
          rw [if_neg (by decide), if_neg (by decide)]
          exact decide_eq_true a2
      · rw [if_neg h3] at h
        obtain ⟨rfl, a2, rfl⟩ := signGo_told _ _ h
        refine ⟨?_, Nat.zero_le _, ⟨fun e => absurd e (by dsimp only; decide), fun e => absurd e (by dsimp only; decide)⟩⟩
        unfold told toG
        dsimp only
        rw [if_neg (by decide), if_neg (by decide), if_neg (by decide), if_pos rfl]
        simp [a2]
theorem allGo_good : ∀ (k : Nat) (l : List UInt8) (n : Nat) (ts ks : List Tk), (∀ t ∈ ts, GoodTk t ∧ t.at_ ≤ n) → allGo k l n ts = ⟨ks, 0, 0⟩ → l.length < k → ∀ t ∈ ks, GoodTk t ∧ t.at_ < n + l.length ∨ t ∈ ts
  | 0, l, n, ts, ks, _, h, hl => by omega
  | k + 1, l, n, ts, ks, ht, h, hl => by
    unfold allGo at h
    match l, h, hl with
    | [], h, _ => cases h; exact fun t ht => .inr ht
    | c :: r, h, hl =>
      rw [List.length_cons] at hl
      dsimp only at h
      split at h
      · intro t hm
        rcases allGo_good k r (n + 1) ts ks (fun t hm => ⟨(ht t hm).1, by have := (ht t hm).2; omega⟩) h (by omega) t hm with h1 | h1
        · exact .inl ⟨h1.1, by have := h1.2; rw [List.length_cons]; omega⟩
        · exact .inr h1
      · split at h
        · intro t hm
          have hle := toLine_le r
          rcases allGo_good k _ _ ts ks (fun t hm => ⟨(ht t hm).1, by have := (ht t hm).2; omega⟩) h (by omega) t hm with h1 | h1
          · exact .inl ⟨h1.1, by have := h1.2; rw [List.length_cons]; omega⟩
          · exact .inr h1
        · cases hi : tokT (c :: r) with
          | bad i e =>
            rw [hi] at h
            injection h with h _ _
            subst h
            intro t hm
            cases hm
          | ok kd tx x i =>
            rw [hi] at h
            dsimp only at h
            have hp := tokT_pos hi
            intro t hm
            by_cases hir : i ≤ r.length + 1
            · rcases allGo_good k _ _ _ ks (fun t hm => by
                rcases List.mem_append.1 hm with hm | hm
                · exact ⟨(ht t hm).1, by have := (ht t hm).2; omega⟩
                · simp at hm; rw [hm]; exact ⟨tokT_good n hi, by dsimp only; omega⟩) h (by rw [List.length_drop, List.length_cons]; omega) t hm with h1 | h1
              · refine .inl ⟨h1.1, ?_⟩
                have := h1.2
                rw [List.length_drop, List.length_cons] at this
                rw [List.length_cons]
                omega
              · rcases List.mem_append.1 h1 with hm | hm
                · exact .inr hm
                · simp at hm
                  rw [hm]
                  exact .inl ⟨tokT_good n hi, by dsimp only; rw [List.length_cons]; omega⟩
            · rw [List.drop_of_length_le (by rw [List.length_cons]; omega)] at h
              have h2 : allGo k [] (n + i) (ts ++ [⟨kd, tx, x, n⟩]) = ⟨ts ++ [⟨kd, tx, x, n⟩], 0, 0⟩ := by
                cases k with
                | zero => rfl
                | succ k => rfl
              rw [h2] at h
              cases h
              rcases List.mem_append.1 hm with hm | hm
              · exact .inr hm
              · simp at hm
                rw [hm]
                exact .inl ⟨tokT_good n hi, by dsimp only; rw [List.length_cons]; omega⟩
/-- The tokens of a source: such as are told, each within the source. -/
theorem allT_good {s : List UInt8} {ks : List Tk} (h : allT s = ⟨ks, 0, 0⟩) : ∀ t ∈ ks, GoodTk t ∧ t.at_ < s.length := by
  unfold allT at h
  split at h
  · cases h
  · intro t ht
    rcases allGo_good _ s 0 [] ks (fun t ht => by cases ht) h (by omega) t ht with h1 | h1
    · exact ⟨h1.1, by have := h1.2; omega⟩
    · cases h1
end Go.Proofs.YtkmhdhnoghbkgaaGreatDoor
/- parse.Flow, parse.Expr, walked. Conditions: token.signs, parse.makes hold what they are laid with, strconv.ErrRange an error. -/
namespace Go.Proofs.YtkmhdhnoghbkgaaGreatDoor
open Go.RowKit Go.Shelf Tok

theorem allT_fits {s : List UInt8} {ks : List Tk} {a : Nat} (h : allT s = ⟨ks, a, 0⟩) : FitK ks := by
  obtain ⟨h1, rfl⟩ := Cut.allT_few h
  exact ⟨by omega, fun x hx => ⟨told_len (t := toG x) ((allT_good h x hx).1.1), ((allT_good h x hx).1.2.1)⟩⟩
theorem en_flow (R : Nat) : Enters 26 R := enters_of (fn := Tryz.f26) (by kernel_rfl) (by kernel_rfl) rfl
theorem read_any {N : Nat} (hE : ∀ R, Enters N R) {q : NT} (hq : q.wf ∧ q.had = 0 ∧ q.hadT = 0 ∧ q.fits) (hN : ∀ f R a cap n ks, DoAll R a cap n ks f → Does N (fun i => gP ks f q i) R a cap n ks) (s : ByteArray) (w : World) (hs : s.size ≤ 140737488351232) (hA : ErrR w) (hS : SignsOK w) (hM : MakesOK w) :
    Calls Tryz.prog 25 #[.string s, .func (.func N) #[] #[]] w (ReadP (readR s.data.toList q) w) := by
  unfold readR
  by_cases hc : (allT s.data.toList).code ≠ 0
  · rw [if_pos hc]
    exact read_tok s w hs hA hS hc
  · rw [if_neg hc]
    obtain ⟨⟨ks, at_, cd⟩, hT⟩ : ∃ T, allT s.data.toList = T := ⟨_, rfl⟩
    rw [hT] at hc ⊢
    obtain rfl : cd = 0 := by dsimp only at hc; omega
    dsimp only
    have hk := (Cut.allT_few hT).1
    have hk6 : ks.length ≤ 1000000 := by omega
    have hD : ∀ R a cap, 1 ≠ R → Does N (fun i => gP ks (fuelP ks q) q i) R a cap s.size ks := fun R a cap hR => hN _ _ _ _ _ _ (do_all hR hk6 _ _ (Nat.le_refl _))
    have hfine := gP_fine ks (fuelP ks q) q 0 hq.1 (Nat.zero_le _) (by unfold fuelP; omega)
    have hlen : s.data.toList.length = s.size := size_list s
    unfold readK
    rw [hlen]
    cases hg : gP ks (fuelP ks q) q 0 with
    | out => exact absurd hg hfine.1
    | bad j => exact read_bad hE s w hs hA hS hM hT hD hg
    | ok c j =>
      have hj := (hfine.2 c j hg).2
      have hn := few7 hk6 hg hq.1 hq.2.1
      dsimp only
      rcases Nat.lt_or_ge j ks.length with hl | hl
      · rw [if_pos hl]
        exact read_left hE s w hs hA hS hM hT hD hg hn hl
      · rw [if_neg (by omega)]
        obtain rfl : j = ks.length := by omega
        exact read_tree hE s w hs hA hS hM hT hD hg hn (by have := gP_short hk6 hq.1 hq.2.2.1 hg; omega) (gP_fit (allT_fits hT) _ _ _ _ _ hq.1 hq.2.2.2 hg)
set_option maxHeartbeats 400000 in
theorem Flow_any (s : ByteArray) (w : World) (hs : s.size ≤ 140737488351232) (hA : ErrR w) (hS : SignsOK w) (hM : MakesOK w) :
    Calls Tryz.prog 9 #[.string s] w (ReadP (readR s.data.toList .flow) w) := by
  have k := Lib.hid (read_any en_flow (q := .flow) ⟨trivial, rfl, rfl, trivial⟩ (fun f R a cap n ks d => d.flow) s w hs hA hS hM)
  clear hA hS hM
  go_enter Tryz.func9, Tryz.ntmps9
  go_wp2_with fail
  refine k.out.mono ?_
  rintro e w1 ⟨v, rfl, hv, hb⟩
  go_wp2_with fail
  go_ret3
  exact ⟨_, rfl, hv, hb⟩
set_option maxHeartbeats 400000 in
theorem Expr_any (s : ByteArray) (w : World) (hs : s.size ≤ 140737488351232) (hA : ErrR w) (hS : SignsOK w) (hM : MakesOK w) :
    Calls Tryz.prog 13 #[.string s] w (ReadP (readR s.data.toList .expr) w) := by
  have k := Lib.hid (read_any en_expr (q := .expr) ⟨trivial, rfl, rfl, trivial⟩ (fun f R a cap n ks d => d.expr) s w hs hA hS hM)
  clear hA hS hM
  go_enter Tryz.func13, Tryz.ntmps13
  go_wp2_with fail
  refine k.out.mono ?_
  rintro e w1 ⟨v, rfl, hv, hb⟩
  go_wp2_with fail
  go_ret3
  exact ⟨_, rfl, hv, hb⟩
end Go.Proofs.YtkmhdhnoghbkgaaGreatDoor
/- The law's wakes (layer 9), walked: parse.Expr of "1 - 2 - 3". -/
namespace Go.Proofs.YtkmhdhnoghbkgaaGreatDoor
open Go.RowKit Go.Shelf Tok

theorem tws_cells {W : World} {base : Nat} {v : Value} {ts : List Tw} (h : TwsAt W base v ts) (h0 : 0 < ts.length) :
    ∃ g cap, v = .slice (some ⟨g, 0, none⟩) ts.length cap ∧ ts.length ≤ cap ∧ cap ≤ 9223372036854775807 ∧ base ≤ g ∧ g < W.heap.size ∧ ∀ i (hi : i < ts.length) (c : Nat), c < 4 → W.cell? ⟨g, i * 4 + c, none⟩ = (twC ts[i])[c]? := by
  have hh := h
  rcases h.2 with ⟨hv, h1⟩ | ⟨g, cap, cur, hv, hb, hg, hnc, hcm, hsz, ht⟩
  · omega
  · refine ⟨g, cap, hv, hnc, by unfold maxLen at hcm; omega, hb, (Array.getElem?_eq_some_iff.1 hg).1, fun i hi c hc => ?_⟩
    unfold TwsAt at hh
    rw [hv] at hh
    have := World.ownsRow.cellAt (g := g) (cap := cap) hh (i * 4 + c) (by omega)
    rw [this]
    exact rowOf_get twC_len ts i c hi hc
def wakeL9 : List Tw := [⟨37, 2, 0, []⟩, ⟨37, 2, 0, []⟩, ⟨23, 0, 1, []⟩, ⟨23, 0, 2, []⟩, ⟨23, 0, 3, []⟩]
theorem wake_read : readR [49, 32, 45, 32, 50, 32, 45, 32, 51] .expr = (wakeL9, 0, 0) := by decide +kernel
set_option maxRecDepth 20000 in
set_option maxHeartbeats 1000000 in
theorem wakes9_any (w : World) (hE : ErrR w) (hS : SignsOK w) (hM : MakesOK w) :
    Calls Tryz.prog 12 #[] w fun e w' => e = .returned (.bool true) ∧ Below w.heap.size w w' := by
  have k := Expr_any ⟨#[49, 32, 45, 32, 50, 32, 45, 32, 51]⟩ w (by decide) hE hS hM
  have e1 : readR (⟨#[49, 32, 45, 32, 50, 32, 45, 32, 51]⟩ : ByteArray).data.toList .expr = (wakeL9, 0, 0) := wake_read
  rw [e1] at k
  replace k := Lib.hid k
  clear hE hS hM e1
  go_enter Tryz.func12, Tryz.ntmps12
  go_wp2_with fail
  refine k.out.mono ?_
  rintro e' w1 ⟨v, rfl, hv, hb⟩
  obtain ⟨g, cap, rfl, hc, hcm, _, _, hcell⟩ := tws_cells hv (by decide)
  have y1 : w1.cell? ⟨g, 4, none⟩ = some (.int .u8 37) := hcell 1 (by decide) 0 (by decide)
  have y2 : w1.cell? ⟨g, 18, none⟩ = some (.int .i64 3) := hcell 4 (by decide) 2 (by decide)
  have hl5 : (wakeL9.length : Int) = 5 := rfl
  have hc5 : 5 ≤ cap := hc
  clear k hcell hv
  go_wp2_with fail
  go_ret
  exact ⟨ret_bool (by simp), hb⟩
end Go.Proofs.YtkmhdhnoghbkgaaGreatDoor
