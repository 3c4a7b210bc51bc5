/- Plain: the tokens of a source that is cut off: those of the whole, as far as they lie ahead of the cut, and at most one more; or the source ends too early. No condition. -/
import Derived.Test.YtkmhdhnoghbkgaaGreatDoorQ01
import Derived.Test.YtkmhdhnoghbkgaaGreatDoorQ10
import Derived.OwnWalk
set_option linter.unusedVariables false
/- Plain: the tokens of a source that is cut off: those of the whole, as far as they lie ahead of the cut, and at most one more; or the source ends too early. No condition. -/
namespace Go.Proofs.YtkmhdhnoghbkgaaGreatDoor.Cut
open Go.RowKit Tok

theorem span_cut {p : UInt8 → Bool} : ∀ (l : List UInt8) (d : Nat), span p (l.take d) = min (span p l) d
  | [], d => by simp [span]
  | c :: l, 0 => by simp [span]
  | c :: l, d + 1 => by
    rw [List.take_succ_cons]
    show (if p c then span p (l.take d) + 1 else 0) = min (if p c then span p l + 1 else 0) (d + 1)
    split
    · rw [span_cut l d]; omega
    · omega
theorem span_len {p : UInt8 → Bool} : ∀ l : List UInt8, span p l ≤ l.length
  | [] => Nat.le_refl _
  | c :: l => by
    show (if p c then span p l + 1 else 0) ≤ _
    have := span_len (p := p) l
    split <;> simp <;> omega
theorem fold_ge : ∀ (l : List UInt8) (x : Nat), 10 ^ l.length * x ≤ l.foldl (fun x c => 10 * x + (c.toNat - 48)) x
  | [], x => by simp
  | c :: l, x => by
    rw [List.foldl_cons]
    refine Nat.le_trans ?_ (fold_ge l _)
    rw [List.length_cons, Nat.pow_succ, Nat.mul_assoc]
    exact Nat.mul_le_mul_left _ (by omega)
theorem numV_cut (l : List UInt8) (d : Nat) : numV (l.take d) ≤ numV l := by
  have e : numV l = (l.drop d).foldl (fun x c => 10 * x + (c.toNat - 48)) (numV (l.take d)) := by
    unfold numV
    rw [← List.foldl_append, List.take_append_drop]
  rw [e]
  refine Nat.le_trans ?_ (fold_ge _ _)
  exact Nat.le_mul_of_pos_left _ (Nat.pow_pos (by omega))
theorem numV_few {c : UInt8} {r : List UInt8} (hc : 49 ≤ c.toNat) (h : numV (c :: r) ≤ 9223372036854775807) : r.length ≤ 18 := by
  have h1 := fold_ge r (10 * 0 + (c.toNat - 48))
  have h2 : numV (c :: r) = r.foldl (fun x c => 10 * x + (c.toNat - 48)) (10 * 0 + (c.toNat - 48)) := rfl
  rw [← h2] at h1
  have h3 : 10 ^ r.length * 1 ≤ 10 ^ r.length * (10 * 0 + (c.toNat - 48)) := Nat.mul_le_mul_left _ (by omega)
  rcases Nat.lt_or_ge 18 r.length with hl | hl
  · have h4 : 10 ^ 19 ≤ 10 ^ r.length := Nat.pow_le_pow_right (by omega) hl
    have : (10 : Nat) ^ 19 = 10000000000000000000 := by decide
    omega
  · exact hl
theorem hex_cut {r : List UInt8} {b : UInt8} {j : Nat} (h : hexT r = .ok b j) (e : Nat) : j = 4 ∧ (2 ≤ e → hexT (r.take e) = .ok b j) ∧ (e < 2 → ∃ x, hexT (r.take e) = .bad x 4) := by
  unfold hexT at h
  match r, h with
  | [], h => cases h
  | c :: r, h =>
    dsimp only at h
    cases hc : hexV c with
    | none => rw [hc] at h; cases h
    | some x =>
      rw [hc] at h
      match r, h with
      | [], h => cases h
      | f :: r, h =>
        dsimp only at h
        cases hf : hexV f with
        | none => rw [hf] at h; cases h
        | some y =>
          rw [hf] at h
          cases h
          refine ⟨rfl, fun he => ?_, fun he => ?_⟩
          · obtain ⟨e', rfl⟩ : ∃ e', e = e' + 2 := ⟨e - 2, by omega⟩
            rw [List.take_succ_cons, List.take_succ_cons]
            unfold hexT
            dsimp only
            rw [hc]
            dsimp only
            rw [hf]
          · match e, he with
            | 0, _ => exact ⟨2, rfl⟩
            | 1, _ =>
              refine ⟨3, ?_⟩
              rw [List.take_succ_cons, List.take_zero]
              unfold hexT
              dsimp only
              rw [hc]
theorem item_cut {c : UInt8} {r : List UInt8} {b : UInt8} {j : Nat} (h : itemT c r = .ok b j) (e : Nat) : (j ≤ e + 1 → itemT c (r.take e) = .ok b j) ∧ (e + 1 < j → ∃ x, itemT c (r.take e) = .bad x 4) := by
  unfold itemT at h ⊢
  by_cases h1 : plainC c = false
  · rw [if_pos h1] at h; cases h
  · rw [if_neg h1] at h
    simp only [if_neg h1]
    by_cases h2 : c.toNat ≠ 92
    · rw [if_pos h2] at h
      simp only [if_pos h2]
      cases h
      exact ⟨fun _ => rfl, fun h => by omega⟩
    · rw [if_neg h2] at h
      simp only [if_neg h2]
      match r, h with
      | [], h => cases h
      | d :: r, h =>
        match e with
        | 0 =>
          refine ⟨fun hj => ?_, fun _ => ⟨1, rfl⟩⟩
          exfalso
          dsimp only at h
          repeat' split at h
          all_goals first
            | (cases h; omega)
            | (have := (hex_cut h 0).1; omega)
            | (cases h)
        | e + 1 =>
          rw [List.take_succ_cons]
          dsimp only at h ⊢
          by_cases h3 : d.toNat = 34 ∨ d.toNat = 92
          · rw [if_pos h3] at h
            simp only [if_pos h3]
            cases h
            exact ⟨fun _ => rfl, fun h => by omega⟩
          · rw [if_neg h3] at h
            simp only [if_neg h3]
            by_cases h4 : d.toNat = 110
            · rw [if_pos h4] at h
              simp only [if_pos h4]
              cases h
              exact ⟨fun _ => rfl, fun h => by omega⟩
            · rw [if_neg h4] at h
              simp only [if_neg h4]
              by_cases h5 : d.toNat = 120
              · rw [if_pos h5] at h
                simp only [if_pos h5]
                obtain ⟨rfl, a1, a2⟩ := hex_cut h e
                exact ⟨fun h => a1 (by omega), fun h => a2 (by omega)⟩
              · rw [if_neg h5] at h; cases h
theorem text_cut : ∀ (k : Nat) (l acc : List UInt8) (n : Nat) {kd : Nat} {tx : List UInt8} {x i : Nat}, textGo k l acc n = .ok kd tx x i → l.length < k → ∀ d,
    (i ≤ n + d → ∀ m, (l.take d).length < m → textGo m (l.take d) acc n = .ok kd tx x i) ∧ (n + d < i → ∀ m, (l.take d).length < m → ∃ j, textGo m (l.take d) acc n = .bad j 4)
  | 0, _, _, _, _, _, _, _, h, _, _ => by unfold textGo at h; cases h
  | k + 1, l, acc, n, kd, tx, x, i, h, hl, d => by
    have hp := textGo_pos _ _ _ _ h
    have hnil : ∀ m, 0 < m → textGo m [] acc n = .bad n 4 := by
      intro m hm
      cases m with
      | zero => omega
      | succ m => rfl
    cases d with
    | zero =>
      rw [List.take_zero]
      exact ⟨fun hi => by omega, fun _ m hm => ⟨n, hnil m (by simpa using hm)⟩⟩
    | succ d =>
    unfold textGo at h
    match l, h, hl with
    | [], h, _ => cases h
    | c :: r, h, hl =>
      dsimp only at h
      rw [List.take_succ_cons]
      by_cases h1 : c.toNat = 34
      · rw [if_pos h1] at h
        cases h
        refine ⟨fun _ m hm => ?_, fun hi => by omega⟩
        cases m with
        | zero => omega
        | succ m =>
          unfold textGo
          dsimp only
          rw [if_pos h1]
      · rw [if_neg h1] at h
        cases hi : itemT c r with
        | bad j e => rw [hi] at h; cases h
        | ok b j =>
          rw [hi] at h
          dsimp only at h
          have hj := itemT_pos hi
          by_cases h2 : acc.length = 4095
          · rw [if_pos h2] at h; cases h
          · rw [if_neg h2] at h
            have hp2 := textGo_pos _ _ _ _ h
            obtain ⟨a1, a2⟩ := item_cut hi d
            rw [List.length_cons] at hl
            obtain ⟨b1, b2⟩ := text_cut k _ _ _ h (by rw [List.length_drop, List.length_cons]; omega) (d + 1 - j)
            have hdt : (c :: r.take d).drop j = ((c :: r).drop j).take (d + 1 - j) := by
              rw [← List.take_succ_cons, List.drop_take]
            refine ⟨fun hi2 m hm => ?_, fun hi2 m hm => ?_⟩
            · cases m with
              | zero => omega
              | succ m =>
                unfold textGo
                dsimp only
                rw [if_neg h1, a1 (by omega)]
                dsimp only
                rw [if_neg h2, hdt]
                rw [List.length_cons] at hm
                exact b1 (by omega) m (by rw [← hdt, List.length_drop, List.length_cons]; omega)
            · cases m with
              | zero => omega
              | succ m =>
                unfold textGo
                dsimp only
                rw [if_neg h1]
                by_cases hjd : j ≤ d + 1
                · rw [a1 hjd]
                  dsimp only
                  rw [if_neg h2, hdt]
                  rw [List.length_cons] at hm
                  exact b2 (by omega) m (by rw [← hdt, List.length_drop, List.length_cons]; omega)
                · obtain ⟨y, hy⟩ := a2 (by omega)
                  rw [hy]
                  exact ⟨_, rfl⟩
theorem signGo_cut : ∀ (ss : List (List UInt8)) (l : List UInt8) {kd : Nat} {tx : List UInt8} {x i : Nat}, signGo ss l = .ok kd tx x i → tx ∈ ss ∧ i = tx.length ∧ kd = 4 ∧ x = 0 ∧ tx <+: l ∧ ∀ d, i ≤ d → signGo ss (l.take d) = .ok kd tx x i
  | [], l, _, _, _, _, h => (noneT_bad l h).elim
  | s :: ss, l, kd, tx, x, i, h => by
    unfold signGo at h
    by_cases hs : s.isPrefixOf l
    · rw [if_pos hs] at h
      cases h
      have hp := List.isPrefixOf_iff_prefix.1 hs
      refine ⟨List.mem_cons_self, rfl, rfl, rfl, hp, fun d hd => ?_⟩
      unfold signGo
      rw [if_pos]
      exact List.isPrefixOf_iff_prefix.2 (List.prefix_take_iff.2 ⟨hp, hd⟩)
    · rw [if_neg hs] at h
      obtain ⟨h1, h2, h3, h4, h5, h6⟩ := signGo_cut ss l h
      refine ⟨List.mem_cons_of_mem _ h1, h2, h3, h4, h5, fun d hd => ?_⟩
      unfold signGo
      rw [if_neg]
      · exact h6 d hd
      · intro hc
        exact hs (List.isPrefixOf_iff_prefix.2 ((List.isPrefixOf_iff_prefix.1 hc).trans (List.take_prefix _ _)))
theorem sign_one : ∀ s ∈ signs, s.length ≤ 2 ∧ (s.length = 2 → signGo signs (s.take 1) = .ok 4 (s.take 1) 0 1 ∨ signGo signs (s.take 1) = .bad 1 4) := by decide
theorem tokT_cut {c : UInt8} {r : List UInt8} {kd : Nat} {tx : List UInt8} {x i : Nat} (h : tokT (c :: r) = .ok kd tx x i) (d : Nat) (hd : 0 < d) :
    (i ≤ d → tokT ((c :: r).take d) = .ok kd tx x i) ∧ (d < i → (d ≤ 24 ∧ ∃ kd' tx' x', tokT ((c :: r).take d) = .ok kd' tx' x' d) ∨ ∃ j, tokT ((c :: r).take d) = .bad j 4) := by
  have ht : (c :: r).take d = c :: r.take (d - 1) := by
    obtain ⟨e, rfl⟩ : ∃ e, d = e + 1 := ⟨d - 1, by omega⟩
    rfl
  rw [tokT_cons] at h
  have hg : tokT ((c :: r).take d) = if lowC c then wordT ((c :: r).take d) else if digC c then numT ((c :: r).take d) else if c.toNat = 34 then textT ((c :: r).take d) else signT ((c :: r).take d) := by
    rw [ht, tokT_cons]
  rw [hg]
  clear hg
  by_cases h1 : lowC c = true
  · rw [if_pos h1] at h
    simp only [if_pos h1]
    unfold wordT at h ⊢
    rw [span_cut]
    by_cases hs : 24 < span wordC (c :: r)
    · rw [if_pos hs] at h; cases h
    · rw [if_neg hs] at h
      cases h
      rw [if_neg (by omega)]
      refine ⟨fun hi => ?_, fun hi => .inl ⟨by omega, 1, ((c :: r).take d).take d, 0, ?_⟩⟩
      · rw [Nat.min_eq_left hi, List.take_take, Nat.min_eq_left hi]
      · rw [Nat.min_eq_right (by omega)]
  · rw [if_neg h1] at h
    simp only [if_neg h1]
    by_cases h2 : digC c = true
    · rw [if_pos h2] at h
      simp only [if_pos h2]
      have hc : 48 ≤ c.toNat ∧ c.toNat ≤ 57 := of_decide_eq_true h2
      have hnn : numN ((c :: r).take d) = min (numN (c :: r)) d := by
        rw [ht]
        show (if c.toNat = 48 then 1 else span digC (c :: r.take (d - 1))) = min (if c.toNat = 48 then 1 else span digC (c :: r)) d
        split
        · omega
        · rw [← ht, span_cut]
      have hnl : numN (c :: r) ≤ (c :: r).length := by
        show (if c.toNat = 48 then 1 else span digC (c :: r)) ≤ _
        split
        · simp
        · exact span_len _
      unfold numT at h ⊢
      rw [hnn]
      by_cases hx : 9223372036854775807 < numV ((c :: r).take (numN (c :: r)))
      · rw [if_pos hx] at h; cases h
      · rw [if_neg hx] at h
        have hi : i = numN (c :: r) := by
          split at h
          · cases h; rfl
          · split at h
            · cases h
            · cases h; rfl
        refine ⟨fun hid => ?_, fun hid => ?_⟩
        · rw [Nat.min_eq_left (by omega), List.take_take, Nat.min_eq_left (by omega), if_neg hx]
          rw [List.drop_take]
          cases hdr : (c :: r).drop (numN (c :: r)) with
          | nil => rw [hdr] at h; rw [List.take_nil]; exact h
          | cons e s =>
            rw [hdr] at h
            cases hq : d - numN (c :: r) with
            | zero =>
              dsimp only at h ⊢
              split at h
              · cases h
              · rw [List.take_zero]; exact h
            | succ q => rw [List.take_succ_cons]; exact h
        · rw [Nat.min_eq_right (by omega), List.take_take, Nat.min_self]
          have hle : numV ((c :: r).take d) ≤ numV ((c :: r).take (numN (c :: r))) := by
            have := numV_cut ((c :: r).take (numN (c :: r))) d
            rw [List.take_take, Nat.min_eq_left (by omega)] at this
            exact this
          rw [if_neg (by omega)]
          have hdr : ((c :: r).take d).drop d = [] := by
            rw [List.drop_take, Nat.sub_self, List.take_zero]
          rw [hdr]
          refine .inl ⟨?_, 2, [], _, rfl⟩
          by_cases hc0 : c.toNat = 48
          · have : numN (c :: r) = 1 := by
              show (if c.toNat = 48 then 1 else span digC (c :: r)) = 1
              rw [if_pos hc0]
            omega
          · obtain ⟨e, he⟩ : ∃ e, numN (c :: r) = e + 1 := ⟨numN (c :: r) - 1, by omega⟩
            rw [he, List.take_succ_cons] at hx
            have := numV_few (c := c) (r := r.take e) (by omega) (by omega)
            rw [List.length_take] at this
            rw [List.length_cons] at hnl
            omega
    · rw [if_neg h2] at h
      simp only [if_neg h2]
      by_cases h3 : c.toNat = 34
      · rw [if_pos h3] at h
        simp only [if_pos h3]
        unfold textT textR at h ⊢
        rw [List.drop_succ_cons, List.drop_zero] at h
        rw [ht, List.drop_succ_cons, List.drop_zero]
        obtain ⟨b1, b2⟩ := text_cut _ _ _ _ h (by omega) (d - 1)
        exact ⟨fun hi => b1 (by omega) _ (by omega), fun hi => .inr (b2 (by omega) _ (by omega))⟩
      · rw [if_neg h3] at h
        simp only [if_neg h3]
        unfold signT at h ⊢
        obtain ⟨a1, rfl, rfl, rfl, a5, a6⟩ := signGo_cut _ _ h
        refine ⟨a6 d, fun hi => ?_⟩
        obtain ⟨c1, c2⟩ := sign_one tx a1
        obtain rfl : d = 1 := by omega
        have e1 : (c :: r).take 1 = tx.take 1 := by
          obtain ⟨t, ht⟩ := a5
          rw [← ht, List.take_append_of_le_length (by omega)]
        rw [e1]
        rcases c2 (by omega) with c3 | c3
        · exact .inl ⟨by omega, _, _, _, c3⟩
        · exact .inr ⟨_, c3⟩
theorem toLine_cut : ∀ (r : List UInt8) (d : Nat), toLine (r.take d) = (toLine r).take (d - (r.length - (toLine r).length))
  | [], d => by simp [toLine]
  | c :: r, 0 => by simp [toLine]
  | c :: r, d + 1 => by
    rw [List.take_succ_cons]
    show (if c.toNat = 10 then c :: r.take d else toLine (r.take d)) = (if c.toNat = 10 then c :: r else toLine r).take (d + 1 - ((c :: r).length - (if c.toNat = 10 then c :: r else toLine r).length))
    by_cases h : c.toNat = 10
    · rw [if_pos h, if_pos h, Nat.sub_self, Nat.sub_zero, List.take_succ_cons]
    · rw [if_neg h, if_neg h, toLine_cut r d]
      have := toLine_le r
      congr 1
      rw [List.length_cons]
      omega
theorem hex_len {r : List UInt8} {b : UInt8} {j : Nat} (h : hexT r = .ok b j) : j ≤ r.length + 2 := by
  have := (hex_cut h 0).1
  unfold hexT at h
  match r, h with
  | [], h => cases h
  | c :: r, h =>
    dsimp only at h
    split at h
    · cases h
    · match r, h with
      | [], h => cases h
      | f :: r, h => rw [List.length_cons, List.length_cons]; omega
theorem item_len {c : UInt8} {r : List UInt8} {b : UInt8} {j : Nat} (h : itemT c r = .ok b j) : j ≤ r.length + 1 := by
  unfold itemT at h
  split at h
  · cases h
  · split at h
    · cases h; omega
    · match r, h with
      | [], h => cases h
      | d :: r, h =>
        dsimp only at h
        rw [List.length_cons]
        split at h
        · cases h; omega
        · split at h
          · cases h; omega
          · split at h
            · have := hex_len h; omega
            · cases h
theorem hex_bad {r : List UInt8} {i e : Nat} (h : hexT r = .bad i e) : (e = 4 ∨ e = 9) ∧ i ≤ r.length + 2 ∧ (e = 4 → i = r.length + 2) := by
  unfold hexT at h
  match r, h with
  | [], h => cases h; exact ⟨.inl rfl, by simp, fun _ => rfl⟩
  | c :: r, h =>
    dsimp only at h
    split at h
    · cases h; exact ⟨.inr rfl, by simp, fun e => by omega⟩
    · match r, h with
      | [], h => cases h; exact ⟨.inl rfl, by simp, fun _ => rfl⟩
      | f :: r, h =>
        dsimp only at h
        split at h
        · cases h; exact ⟨.inr rfl, by simp, fun e => by omega⟩
        · cases h
theorem item_bad {c : UInt8} {r : List UInt8} {i e : Nat} (h : itemT c r = .bad i e) : (e = 4 ∨ e = 9) ∧ i ≤ r.length + 1 ∧ (e = 4 → i = r.length + 1) := by
  unfold itemT at h
  split at h
  · cases h; exact ⟨.inr rfl, by omega, fun e => by omega⟩
  · split at h
    · cases h
    · match r, h with
      | [], h => cases h; exact ⟨.inl rfl, by simp, fun _ => rfl⟩
      | d :: r, h =>
        dsimp only at h
        split at h
        · cases h
        · split at h
          · cases h
          · split at h
            · obtain ⟨h1, h2, h3⟩ := hex_bad h
              rw [List.length_cons]
              exact ⟨h1, by omega, fun e => by have := h3 e; omega⟩
            · cases h; exact ⟨.inr rfl, by rw [List.length_cons]; omega, fun e => by omega⟩
theorem text_bad : ∀ (k : Nat) (l acc : List UInt8) (n : Nat) {i e : Nat}, textGo k l acc n = .bad i e → l.length < k → (e = 2 ∨ e = 4 ∨ e = 9) ∧ i ≤ n + l.length ∧ (e = 4 → i = n + l.length)
  | 0, _, _, _, _, _, _, hl => by omega
  | k + 1, l, acc, n, i, e, h, hl => by
    unfold textGo at h
    match l, h, hl with
    | [], h, _ => cases h; exact ⟨.inr (.inl rfl), Nat.le_refl _, fun _ => rfl⟩
    | c :: r, h, hl =>
      rw [List.length_cons] at hl
      dsimp only at h
      split at h
      · cases h
      · cases hi : itemT c r with
        | bad j e =>
          rw [hi] at h
          cases h
          obtain ⟨h1, h2, h3⟩ := item_bad hi
          rw [List.length_cons]
          exact ⟨.inr h1, by omega, fun e => by have := h3 e; omega⟩
        | ok b j =>
          rw [hi] at h
          dsimp only at h
          have hj := itemT_pos hi
          split at h
          · cases h; exact ⟨.inl rfl, by omega, fun e => by omega⟩
          · obtain ⟨h1, h2, h3⟩ := text_bad k _ _ _ h (by rw [List.length_drop, List.length_cons]; omega)
            have hjr : j ≤ r.length + 1 := by
              rcases Nat.lt_or_ge (r.length + 1) j with hlt | hge
              · have := item_len hi
                omega
              · exact hge
            rw [List.length_drop, List.length_cons] at h2 h3
            rw [List.length_cons]
            exact ⟨h1, by omega, fun e => by have := h3 e; omega⟩
theorem tokT_bad {c : UInt8} {r : List UInt8} {i e : Nat} (h : tokT (c :: r) = .bad i e) : (e = 2 ∨ e = 4 ∨ e = 9) ∧ i ≤ r.length + 1 ∧ (e = 4 → i = r.length + 1) := by
  rw [tokT_cons] at h
  split at h
  · unfold wordT at h
    split at h
    · cases h; exact ⟨.inl rfl, by omega, fun e => by omega⟩
    · cases h
  · split at h
    · have hnl : numN (c :: r) ≤ (c :: r).length := by
        show (if c.toNat = 48 then 1 else span digC (c :: r)) ≤ _
        split
        · simp
        · exact span_len _
      rw [List.length_cons] at hnl
      unfold numT at h
      split at h
      · cases h; exact ⟨.inl rfl, by omega, fun e => by omega⟩
      · split at h
        · cases h
        · split at h
          · cases h; exact ⟨.inr (.inr rfl), hnl, fun e => by omega⟩
          · cases h
    · split at h
      · unfold textT textR at h
        rw [List.drop_succ_cons, List.drop_zero] at h
        obtain ⟨h1, h2, h3⟩ := text_bad _ _ _ _ h (by omega)
        exact ⟨h1, by omega, fun e => by have := h3 e; omega⟩
      · have hg : ∀ (ss : List (List UInt8)), signGo ss (c :: r) = .bad i e → (e = 2 ∨ e = 4 ∨ e = 9) ∧ i ≤ r.length + 1 ∧ (e = 4 → i = r.length + 1) := by
          intro ss
          induction ss with
          | nil =>
            intro h
            have h' : (if c.toNat ≠ 33 then Res.bad 0 9 else if r = [] then .bad 1 4 else .bad 1 9) = .bad i e := h
            split at h'
            · cases h'; exact ⟨.inr (.inr rfl), by omega, fun e => by omega⟩
            · split at h'
              · rename_i hr
                cases h'
                subst hr
                exact ⟨.inr (.inl rfl), by simp, fun _ => rfl⟩
              · cases h'; exact ⟨.inr (.inr rfl), by omega, fun e => by omega⟩
          | cons s ss ih =>
            intro h
            unfold signGo at h
            split at h
            · cases h
            · exact ih h
        exact hg signs h
theorem text_len : ∀ (k : Nat) (l acc : List UInt8) (n : Nat) {kd : Nat} {tx : List UInt8} {x i : Nat}, textGo k l acc n = .ok kd tx x i → i ≤ n + l.length
  | 0, _, _, _, _, _, _, _, h => by unfold textGo at h; cases h
  | k + 1, l, acc, n, kd, tx, x, i, h => by
    unfold textGo at h
    match l, h with
    | [], h => cases h
    | c :: r, h =>
      dsimp only at h
      rw [List.length_cons]
      split at h
      · cases h; omega
      · cases hi : itemT c r with
        | bad j e => rw [hi] at h; cases h
        | ok b j =>
          rw [hi] at h
          dsimp only at h
          have hj := item_len hi
          split at h
          · cases h
          · have := text_len k _ _ _ h
            rw [List.length_drop, List.length_cons] at this
            omega
theorem tokT_len {c : UInt8} {r : List UInt8} {kd : Nat} {tx : List UInt8} {x i : Nat} (h : tokT (c :: r) = .ok kd tx x i) : i ≤ r.length + 1 := by
  rw [tokT_cons] at h
  split at h
  · unfold wordT at h
    split at h
    · cases h
    · cases h
      exact span_len (p := wordC) (c :: r)
  · split at h
    · have hnl : numN (c :: r) ≤ (c :: r).length := by
        show (if c.toNat = 48 then 1 else span digC (c :: r)) ≤ _
        split
        · simp
        · exact span_len _
      unfold numT at h
      split at h
      · cases h
      · split at h
        · cases h; exact hnl
        · split at h
          · cases h
          · cases h; exact hnl
    · split at h
      · unfold textT textR at h
        rw [List.drop_succ_cons, List.drop_zero] at h
        have := text_len _ _ _ _ h
        omega
      · obtain ⟨_, rfl, _, _, a5, _⟩ := signGo_cut _ _ h
        have := a5.length_le
        rw [List.length_cons] at this
        exact this
theorem allGo_more : ∀ (k : Nat) (l : List UInt8) (n : Nat) (ts ks : List Tk), allGo k l n ts = ⟨ks, 0, 0⟩ → l.length < k → (∃ ms, ks = ts ++ ms)
  | 0, _, _, _, _, _, hl => by omega
  | k + 1, l, n, ts, ks, h, hl => by
    unfold allGo at h
    match l, h, hl with
    | [], h, _ => cases h; exact ⟨[], by simp⟩
    | c :: r, h, hl =>
      rw [List.length_cons] at hl
      dsimp only at h
      split at h
      · exact allGo_more k _ _ _ _ h (by omega)
      · split at h
        · exact allGo_more k _ _ _ _ h (by have := toLine_le r; omega)
        · cases hi : tokT (c :: r) with
          | bad i e =>
            rw [hi] at h
            have := (tokT_bad hi).1
            injection h with _ _ h
            omega
          | ok kd tx x i =>
            rw [hi] at h
            dsimp only at h
            have := tokT_pos hi
            obtain ⟨ms, hm⟩ := allGo_more k _ _ _ _ h (by rw [List.length_drop, List.length_cons]; omega)
            exact ⟨_ :: ms, by rw [hm, List.append_assoc]; rfl⟩
theorem allGo_ends : ∀ (k : Nat) (l : List UInt8) (n : Nat) (ts ks : List Tk) (a e : Nat), allGo k l n ts = ⟨ks, a, e⟩ → l.length < k → (a = 0 ∧ e = 0) ∨ (ks = [] ∧ (e = 2 ∨ e = 4 ∨ e = 9) ∧ a ≤ n + l.length ∧ (e = 4 → a = n + l.length))
  | 0, _, _, _, _, _, _, _, hl => by omega
  | k + 1, l, n, ts, ks, a, e, h, hl => by
    unfold allGo at h
    match l, h, hl with
    | [], h, _ => cases h; exact .inl ⟨rfl, rfl⟩
    | c :: r, h, hl =>
      rw [List.length_cons] at hl
      dsimp only at h
      split at h
      · rcases allGo_ends k _ _ _ _ _ _ h (by omega) with h1 | ⟨h1, h2, h3, h4⟩
        · exact .inl h1
        · rw [List.length_cons]
          exact .inr ⟨h1, h2, by omega, fun e => by have := h4 e; omega⟩
      · split at h
        · have hle := toLine_le r
          rcases allGo_ends k _ _ _ _ _ _ h (by omega) with h1 | ⟨h1, h2, h3, h4⟩
          · exact .inl h1
          · rw [List.length_cons]
            exact .inr ⟨h1, h2, by omega, fun e => by have := h4 e; omega⟩
        · cases hi : tokT (c :: r) with
          | bad i e' =>
            rw [hi] at h
            cases h
            obtain ⟨h1, h2, h3⟩ := tokT_bad hi
            rw [List.length_cons]
            exact .inr ⟨rfl, h1, by omega, fun e => by have := h3 e; omega⟩
          | ok kd tx x i =>
            rw [hi] at h
            dsimp only at h
            have hp := tokT_pos hi
            have hle := tokT_len hi
            rcases allGo_ends k _ _ _ _ _ _ h (by rw [List.length_drop, List.length_cons]; omega) with h1 | ⟨h1, h2, h3, h4⟩
            · exact .inl h1
            · rw [List.length_drop, List.length_cons] at h3 h4
              rw [List.length_cons]
              exact .inr ⟨h1, h2, by omega, fun e => by have := h4 e; omega⟩
/-- How a source's tokens end: all are there; or a fault, within the source, and what is too short lies at its end. -/
theorem allT_ends {s : List UInt8} {ks : List Tk} {a e : Nat} (h : allT s = ⟨ks, a, e⟩) : (a = 0 ∧ e = 0) ∨ (ks = [] ∧ (e = 2 ∨ e = 4 ∨ e = 9) ∧ a ≤ s.length ∧ (e = 4 → a = s.length)) := by
  unfold allT at h
  split at h
  · cases h; exact .inr ⟨rfl, .inl rfl, Nat.zero_le _, fun e => by omega⟩
  · rcases allGo_ends _ _ _ _ _ _ _ h (by omega) with h1 | ⟨h1, h2, h3, h4⟩
    · exact .inl h1
    · exact .inr ⟨h1, h2, by omega, fun e => by have := h4 e; omega⟩
theorem allR_go {k : Nat} {l : List UInt8} {n : Nat} {ts : List Tk} (h : l.length < k) : allGo k l n ts = allR l n ts := allGo_fuel _ _ _ _ _ h (by omega)
theorem allR_cut : ∀ (k : Nat) (l : List UInt8) (n : Nat) (ts ks : List Tk), l.length < k → allR l n ts = ⟨ks, 0, 0⟩ → ∀ d, (∃ j, allR (l.take d) n ts = ⟨[], j, 4⟩) ∨
    ∃ us ms m, allR (l.take d) n ts = ⟨ts ++ us ++ m, 0, 0⟩ ∧ ks = ts ++ us ++ ms ∧ (∀ t ∈ us, t.at_ < n + d) ∧ m.length ≤ 1 ∧ ∀ t ∈ m, n + d ≤ t.at_ + 24
  | 0, _, _, _, _, hl, _, _ => by omega
  | k + 1, l, n, ts, ks, hl, h, d => by
    have hmore := allGo_more _ _ _ _ _ h (by omega)
    have hnone : ∀ l' n', l' = [] → ∃ us ms m, allR l' n' ts = ⟨ts ++ us ++ m, 0, 0⟩ ∧ ks = ts ++ us ++ ms ∧ (∀ t ∈ us, t.at_ < n + d) ∧ m.length ≤ 1 ∧ ∀ t ∈ m, n + d ≤ t.at_ + 24 := by
      rintro l' n' rfl
      obtain ⟨ms, hm⟩ := hmore
      exact ⟨[], ms, [], by simp [allR_nil], by simp [hm], by simp, by simp, by simp⟩
    cases d with
    | zero => exact .inr (hnone _ n (List.take_zero))
    | succ d =>
    match l, h, hl with
    | [], _, _ => exact .inr (hnone _ n rfl)
    | c :: r, h, hl =>
      rw [List.length_cons] at hl
      by_cases h1 : c.toNat = 32 ∨ c.toNat = 10
      · rw [allR_blank r n ts h1] at h
        rw [List.take_succ_cons, allR_blank _ n ts h1]
        rcases allR_cut k r (n + 1) ts ks (by omega) h d with hc | ⟨us, ms, m, e1, e2, e3, e4, e5⟩
        · exact .inl hc
        · exact .inr ⟨us, ms, m, e1, e2, fun t ht => by have := e3 t ht; omega, e4, fun t ht => by have := e5 t ht; omega⟩
      · by_cases h2 : c.toNat = 35
        · rw [allR_remark r n ts h2] at h
          rw [List.take_succ_cons, allR_remark _ n ts h2, toLine_cut]
          have hle := toLine_le r
          rcases Nat.lt_or_ge (r.length - (toLine r).length) d with hsk | hsk
          · have hn : n + 1 + ((r.take d).length - ((toLine r).take (d - (r.length - (toLine r).length))).length) = n + 1 + (r.length - (toLine r).length) := by
              rw [List.length_take, List.length_take]; omega
            rw [hn]
            rcases allR_cut k (toLine r) _ ts ks (by omega) h (d - (r.length - (toLine r).length)) with hc | ⟨us, ms, m, e1, e2, e3, e4, e5⟩
            · exact .inl hc
            · exact .inr ⟨us, ms, m, e1, e2, fun t ht => by have := e3 t ht; omega, e4, fun t ht => by have := e5 t ht; omega⟩
          · exact .inr (hnone _ _ (by rw [show d - (r.length - (toLine r).length) = 0 by omega, List.take_zero]))
        · cases hi : tokT (c :: r) with
          | bad i e =>
            rw [allR_bad n ts h1 h2 hi] at h
            have := (tokT_bad hi).1
            injection h with _ _ h
            omega
          | ok kd tx x i =>
            rw [allR_tok n ts h1 h2 hi] at h
            have hp := tokT_pos hi
            obtain ⟨a1, a2⟩ := tokT_cut hi (d + 1) (by omega)
            have ht : (c :: r).take (d + 1) = c :: r.take d := rfl
            rw [ht] at a1 a2 ⊢
            rcases Nat.lt_or_ge (d + 1) i with hdi | hdi
            · rcases a2 hdi with ⟨b1, kd', tx', x', b2⟩ | ⟨j, b2⟩
              · rw [allR_tok n ts h1 h2 b2]
                have hdr : (c :: r.take d).drop (d + 1) = [] := List.drop_of_length_le (by rw [List.length_cons, List.length_take]; omega)
                rw [hdr, allR_nil]
                obtain ⟨ms, hm⟩ := hmore
                exact .inr ⟨[], ms, [⟨kd', tx', x', n⟩], by simp, by simp [hm], by simp, by simp, by simp; omega⟩
              · rw [allR_bad n ts h1 h2 b2]
                exact .inl ⟨_, rfl⟩
            · rw [allR_tok n ts h1 h2 (a1 hdi)]
              have hdr : (c :: r.take d).drop i = ((c :: r).drop i).take (d + 1 - i) := by rw [← ht, List.drop_take]
              rw [hdr]
              rcases allR_cut k _ _ _ ks (by rw [List.length_drop, List.length_cons]; omega) h (d + 1 - i) with hc | ⟨us, ms, m, e1, e2, e3, e4, e5⟩
              · exact .inl hc
              · refine .inr ⟨⟨kd, tx, x, n⟩ :: us, ms, m, by rw [e1]; simp, by rw [e2]; simp, ?_, e4, fun t ht => by have := e5 t ht; omega⟩
                intro t ht
                rcases List.mem_cons.1 ht with rfl | ht
                · dsimp only; omega
                · have := e3 t ht; omega
/-- The tokens of a source that is cut off. -/
theorem allT_cut {s : List UInt8} {ks : List Tk} (h : allT s = ⟨ks, 0, 0⟩) (d : Nat) : (∃ j, allT (s.take d) = ⟨[], j, 4⟩) ∨
    ∃ us ms m, allT (s.take d) = ⟨us ++ m, 0, 0⟩ ∧ ks = us ++ ms ∧ (∀ t ∈ us, t.at_ < d) ∧ m.length ≤ 1 ∧ ∀ t ∈ m, d ≤ t.at_ + 24 := by
  unfold allT at h ⊢
  split at h
  · cases h
  · rw [if_neg (by rw [List.length_take]; omega)]
    rcases allR_cut (s.length + 1) s 0 [] ks (by omega) h d with hc | ⟨us, ms, m, e1, e2, e3, e4, e5⟩
    · exact .inl hc
    · exact .inr ⟨us, ms, m, by simpa using e1, by simpa using e2, fun t ht => by have := e3 t ht; omega, e4, fun t ht => by have := e5 t ht; omega⟩
theorem allGo_few : ∀ (k : Nat) (l : List UInt8) (n : Nat) (ts ks : List Tk), allGo k l n ts = ⟨ks, 0, 0⟩ → l.length < k → ks.length ≤ ts.length + l.length
  | 0, _, _, _, _, _, hl => by omega
  | k + 1, l, n, ts, ks, h, hl => by
    unfold allGo at h
    match l, h, hl with
    | [], h, _ => cases h; simp
    | c :: r, h, hl =>
      rw [List.length_cons] at hl ⊢
      dsimp only at h
      split at h
      · have := allGo_few k _ _ _ _ h (by omega); omega
      · split at h
        · have hle := toLine_le r
          have := allGo_few k _ _ _ _ h (by omega)
          omega
        · cases hi : tokT (c :: r) with
          | bad i e =>
            rw [hi] at h
            have := (tokT_bad hi).1
            injection h with _ _ h
            omega
          | ok kd tx x i =>
            rw [hi] at h
            dsimp only at h
            have hp := tokT_pos hi
            have := allGo_few k _ _ _ _ h (by rw [List.length_drop, List.length_cons]; omega)
            rw [List.length_append, List.length_singleton, List.length_drop, List.length_cons] at this
            omega
/-- A source that is read has no more tokens than bytes, and is not too long. -/
theorem allT_few {s : List UInt8} {ks : List Tk} {a : Nat} (h : allT s = ⟨ks, a, 0⟩) : ks.length ≤ 16384 ∧ a = 0 := by
  rcases allT_ends h with ⟨h1, _⟩ | ⟨h1, h2, _⟩
  · subst h1
    unfold allT at h
    split at h
    · cases h
    · have := allGo_few _ _ _ _ _ h (by omega)
      rw [List.length_nil] at this
      exact ⟨by omega, rfl⟩
  · omega
end Go.Proofs.YtkmhdhnoghbkgaaGreatDoor.Cut
/- tree's look (layer 8), walked. No condition. -/
namespace Go.Proofs.YtkmhdhnoghbkgaaGreatDoor
open Go.RowKit Go.Shelf

/-- Where it ends or is wrong, how deep it is, and what is wrong. -/
def lookF (ts : List Tw) : Nat × Nat × Int :=
  if 2048 < ts.length then (0, 0, 2) else if ts.length = 0 then (0, 0, 3) else
    if (passF ts.length ts 1 ⟨0, 0, 0⟩).1 = false ∨ (passF ts.length ts 1 ⟨0, 0, 0⟩).2.gone < ts.length then ((passF ts.length ts 1 ⟨0, 0, 0⟩).2.gone, 0, 3)
    else if 0 < (passF ts.length ts 1 ⟨0, 0, 0⟩).2.tooDeep then ((passF ts.length ts 1 ⟨0, 0, 0⟩).2.tooDeep, 0, 2) else (0, (passF ts.length ts 1 ⟨0, 0, 0⟩).2.deepest, 0)

def Held (w : World) (p : Addr) (v : Value) : Prop := w.cell? p = some v ∧ w.frozen? p = false
theorem Held.up {w : World} {p : Addr} {v : Value} (h : Held w p v) (o : Obj) : Held (w.alloc o) p v :=
  ⟨cell_on h.1 ((Below.refl _ w).alloc (Nat.le_refl _) o), frozen_on h.1 h.2 ((Below.refl _ w).alloc (Nat.le_refl _) o)⟩
theorem held_new {w : World} {n : Nat} (hn : w.heap.size = n) (v : Value) (t : TypeId) : Held (w.alloc (.cells #[v] t)) ⟨n, 0, none⟩ v := by
  subst hn
  exact ⟨one_cell w #[v] t 0, by have h := heap_alloc_new w (.cells #[v] t); unfold World.frozen?; dsimp only; rw [h]; rfl⟩
/-- Memory behind look's own beginning. -/
theorem look_mem (w : World) {v : Value} {ts : List Tw} {b : Nat} (hT : TwIn w v ts) (hK : KMap w b tabL) (t0 t1 t2 t3 t4 t5 : TypeId) (W : World) (hW : W = ((((((w.alloc (.cells #[.map (some b)] t0)).alloc (.cells #[v] t1)).alloc (.cells #[.int .i64 0] t2)).alloc (.cells #[.int .i64 0] t3)).alloc (.cells #[.int .i64 0] t4)).alloc (.cells #[.func (.func 66) #[] #[.pointer (some ⟨w.heap.size + 1, 0, none⟩), .pointer (some ⟨w.heap.size + 1 + 1, 0, none⟩), .pointer (some ⟨w.heap.size, 0, none⟩), .pointer (some ⟨w.heap.size + 1 + 1 + 1 + 1, 0, none⟩), .pointer (some ⟨w.heap.size + 1 + 1 + 1, 0, none⟩), .pointer (some ⟨w.heap.size + 1 + 1 + 1 + 1 + 1, 0, none⟩)]] t5))) :
    PMem W (w.heap.size + 1) w.heap.size (w.heap.size + 1 + 1) (w.heap.size + 1 + 1 + 1) (w.heap.size + 1 + 1 + 1 + 1) (w.heap.size + 1 + 1 + 1 + 1 + 1) v ts ⟨0, 0, 0⟩ ∧ Below w.heap.size w W := by
  have hB : Below w.heap.size w W := by
    rw [hW]
    refine ((((((Below.refl _ w).alloc ?_ _).alloc ?_ _).alloc ?_ _).alloc ?_ _).alloc ?_ _).alloc ?_ _ <;> (simp; try omega)
  refine ⟨⟨?_, ⟨b, ?_, hK.below hB hK.lt⟩, ?_, ?_, ?_, ?_, hT.below hB⟩, hB⟩ <;> rw [hW]
  · exact (((((held_new (by simp) v t1).up _).up _).up _).up _).1
  · exact ((((((held_new rfl _ t0).up _).up _).up _).up _).up _).1
  · exact ((((held_new (by simp) _ t2).up _).up _).up _)
  · exact (((held_new (by simp) _ t3).up _).up _)
  · exact ((held_new (by simp) _ t4).up _)
  · exact (held_new (by simp) _ t5).1

set_option maxRecDepth 20000 in
set_option maxHeartbeats 4000000 in
theorem look_any {v : Value} {ts : List Tw} {b : Nat} (w : World) (hT : TwIn w v ts) (hf : ∀ x ∈ ts, FitT x) (hK : KMap w b tabL) :
    Calls Tryz.prog 30 #[.map (some b), v] w fun e w' => e = .returned (.tuple #[.int .i64 (lookF ts).1, .int .i64 (lookF ts).2.1, .int .i64 (lookF ts).2.2]) ∧ Below w.heap.size w w' := by
  obtain ⟨Z, hZ⟩ := exHid (lookF ts)
  rw [hZ.out]
  have hT' := Lib.hid hT
  have hsf := fun c => sv_any (v := .func (.func 66) #[] c) rfl
  obtain ⟨a, cap, rfl, htc, htm, hcells⟩ := id hT
  have hz := hZ.out
  unfold lookF at hz
  clear hZ
  by_cases h1 : 2048 < ts.length
  · rw [if_pos h1] at hz
    have h1i : (2048 : Int) < (ts.length : Int) := by omega
    replace hz := Lib.hid hz
    clear hcells hT
    go_enter Tryz.func30, Tryz.ntmps30
    go_wp2_with fail
    refine bodyPost_ret (results_tmp3 rfl _ _ _) rfl ?_
    rw [← hz.out]
    exact ⟨rfl, by go_grown⟩
  · rw [if_neg h1] at hz
    have h1i : ¬ (2048 : Int) < (ts.length : Int) := by omega
    by_cases h0 : ts.length = 0
    · rw [if_pos h0] at hz
      have h0i : ((ts.length : Int) == 0) = true := by rw [h0]; rfl
      replace hz := Lib.hid hz
      replace h0 := Lib.hid h0
      clear hcells hT
      go_enter Tryz.func30, Tryz.ntmps30
      go_wp2_with fail
      refine bodyPost_ret (results_tmp3 rfl _ _ _) rfl ?_
      rw [← hz.out]
      exact ⟨rfl, by go_grown⟩
    · rw [if_neg h0] at hz
      have h0i : ((ts.length : Int) == 0) = false := beq_eq_false_iff_ne.2 (by omega)
      obtain ⟨g, off, rfl, hg, hc⟩ := hcells (by omega)
      clear hc
      replace hz := Lib.hid hz
      replace h0 := Lib.hid h0
      replace hT := Lib.hid hT
      go_enter Tryz.func30, Tryz.ntmps30
      go_wp2_with fail
      generalize hW : (World.alloc _ _) = W
      have hM := look_mem w hT.out hK _ _ _ _ _ _ W hW.symm
      clear hW
      obtain ⟨hP, hB⟩ := hM
      have hne : PNe (w.heap.size + 1) w.heap.size (w.heap.size + 1 + 1) (w.heap.size + 1 + 1 + 1) (w.heap.size + 1 + 1 + 1 + 1) (w.heap.size + 1 + 1 + 1 + 1 + 1) (.slice (some ⟨g, off, none⟩) ts.length cap) := by
        refine ⟨by omega, by omega, by omega, by omega, by omega, by omega, ?_⟩
        intro g' off' l c e
        cases e
        omega
      have kP := pass_any hne hf (by omega) ts.length 1 ⟨0, 0, 0⟩ W (by show 0 < _; have := h0.out; omega) (Nat.sub_le _ _) (by omega) (Nat.zero_le _) hP
      have mono := pass_mono_at ts ts.length 1 1000000 ⟨0, 0, 0⟩ (by show 0 < _; have := h0.out; omega) (Nat.zero_le _) (by omega)
      replace hz := hz.out
      generalize passF ts.length ts 1 ⟨0, 0, 0⟩ = R at kP mono hz
      obtain ⟨rb, s5⟩ := R
      dsimp only at kP mono hz
      have hBs := hB.size
      refine kP.mono ?_
      rintro e w5 ⟨rfl, hP5, hO5⟩
      have hB5 : Below w.heap.size w w5 := hB.trans (hO5.below hB.size (by intro k hk; omega))
      clear kP hP hO5
      have pg := hP5.g.1
      have pt := hP5.t
      have pd := hP5.d.1
      have px := hP5.x.1
      rcases rb with _ | _
      · rw [if_pos (Or.inl rfl)] at hz
        replace hz := Lib.hid hz
        replace hP5 := Lib.hid hP5
        replace hB5 := Lib.hid hB5
        go_wp2_with fail
        refine bodyPost_ret (results_tmp3 rfl _ _ _) rfl ?_
        rw [← hz.out]
        exact ⟨rfl, hB5.out⟩
      · by_cases hgo : s5.gone < ts.length
        · rw [if_pos (Or.inr hgo)] at hz
          have hgi : (s5.gone : Int) < (ts.length : Int) := by omega
          replace hz := Lib.hid hz
          replace hP5 := Lib.hid hP5
          replace hB5 := Lib.hid hB5
          go_wp2_with fail
          refine bodyPost_ret (results_tmp3 rfl _ _ _) rfl ?_
          rw [← hz.out]
          exact ⟨rfl, hB5.out⟩
        · rw [if_neg (by simp; omega)] at hz
          have hgi : ¬ (s5.gone : Int) < (ts.length : Int) := by omega
          by_cases hx : 0 < s5.tooDeep
          · rw [if_pos hx] at hz
            have hxi : (0 : Int) < (s5.tooDeep : Int) := by omega
            replace hz := Lib.hid hz
            replace hP5 := Lib.hid hP5
            replace hB5 := Lib.hid hB5
            go_wp2_with fail
            refine bodyPost_ret (results_tmp3 rfl _ _ _) rfl ?_
            rw [← hz.out]
            exact ⟨rfl, hB5.out⟩
          · rw [if_neg hx] at hz
            have hxi : ¬ (0 : Int) < (s5.tooDeep : Int) := by omega
            replace hz := Lib.hid hz
            replace hP5 := Lib.hid hP5
            replace hB5 := Lib.hid hB5
            replace hx := Lib.hid hx
            go_wp2_with fail
            go_quiet (fail)
            go_wp2_with fail
            refine bodyPost_ret (results_tmp3 rfl _ _ _) rfl ?_
            rw [← hz.out]
            exact ⟨rfl, below_drewN hB5.out _⟩
end Go.Proofs.YtkmhdhnoghbkgaaGreatDoor
