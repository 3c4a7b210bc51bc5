/- Plain: tokens that are spelled are read again (layer 7). -/
import Derived.Test.YtmgbebpkkidooaaDoorTSpell
namespace Go.Proofs.YtmgbebpkkidooaaDoor
open Go.RowKit Tok

namespace Tok
theorem span_all {p : UInt8 → Bool} {r : List UInt8} (hr : r = [] ∨ ∃ c r', r = c :: r' ∧ p c = false) : ∀ {l : List UInt8}, l.all p = true → span p (l ++ r) = l.length
  | [], _ => by
    rcases hr with rfl | ⟨c, r', rfl, h⟩
    · rfl
    · show (if p c = true then _ else 0) = 0
      rw [if_neg (by rw [h]; simp)]
  | c :: l, h => by
    simp only [List.all_cons, Bool.and_eq_true] at h
    show (if p c = true then span p (l ++ r) + 1 else 0) = _
    rw [if_pos h.1, span_all hr h.2]
    rfl
theorem numV_snoc (l : List UInt8) (c : UInt8) : numV (l ++ [c]) = 10 * numV l + (c.toNat - 48) := by simp [numV]
theorem dig_dec : ∀ u, (Lib.decDigits u).all digC = true ∧ numV (Lib.decDigits u) = u ∧ ((Lib.decDigits u).head? = some 48 → u = 0) ∧ Lib.decDigits u ≠ [] := by
  intro u
  induction u using Nat.strongRecOn with
  | ind u ih =>
    rw [Lib.decDigits]
    by_cases h : u < 10
    · rw [dif_pos h]
      have key : ∀ u, u < 10 → (([UInt8.ofNat (48 + u)].all digC = true ∧ numV [UInt8.ofNat (48 + u)] = u) ∧ ([UInt8.ofNat (48 + u)].head? = some 48 → u = 0)) := by decide
      exact ⟨(key u h).1.1, (key u h).1.2, (key u h).2, by simp⟩
    · rw [dif_neg h]
      obtain ⟨h1, h2, h3, h4⟩ := ih (u / 10) (by omega)
      have key : ∀ d, d < 10 → (digC (UInt8.ofNat (48 + d)) = true ∧ (UInt8.ofNat (48 + d)).toNat - 48 = d) := by decide
      have hd := key (u % 10) (by omega)
      refine ⟨by rw [List.all_append, h1, Bool.true_and, List.all_cons, hd.1]; rfl, by rw [numV_snoc, h2, hd.2]; omega, ?_, by simp⟩
      cases hl : Lib.decDigits (u / 10) with
      | nil => exact absurd hl h4
      | cons c r =>
        rw [hl] at h3
        intro hh
        have := h3 (by simpa using hh)
        omega
theorem dig_len {u : Nat} (h : u = 0) : Lib.decDigits u = [48] := by subst h; rw [Lib.decDigits]; rfl
/-- What a blank, or nothing, is. -/
def StopsL (r : List UInt8) : Prop := r = [] ∨ ∃ r', r = 32 :: r'
theorem StopsL.stop {r : List UInt8} (h : StopsL r) {p : UInt8 → Bool} (hp : p 32 = false) : r = [] ∨ ∃ c r', r = c :: r' ∧ p c = false := by
  rcases h with rfl | ⟨r', rfl⟩
  · exact .inl rfl
  · exact .inr ⟨32, r', rfl, hp⟩
theorem word_back {tx r : List UInt8} (h : nameL tx = true) (hr : StopsL r) : tokT (tx ++ r) = .ok 1 tx 0 tx.length ∧ ∃ c l, tx = c :: l ∧ c.toNat ≠ 32 ∧ c.toNat ≠ 10 ∧ c.toNat ≠ 35 := by
  match tx with
  | [] => cases h
  | c :: l =>
    simp only [nameL, Bool.and_eq_true, decide_eq_true_eq] at h
    obtain ⟨⟨hlen, hc⟩, hall⟩ := h
    have hc' : lowC c = true := hc
    have hall' : (c :: l).all wordC = true := by
      rw [List.all_cons, low_word hc', Bool.true_and]
      exact hall
    have hcn : 97 ≤ c.toNat := (of_decide_eq_true hc).1
    refine ⟨?_, c, l, rfl, by omega, by omega, by omega⟩
    rw [List.cons_append, tokT_cons, if_pos hc', ← List.cons_append]
    unfold wordT
    rw [span_all (hr.stop (by decide)) hall', if_neg (by simp; omega), List.take_left]
theorem num_back {x : Nat} (hx : x ≤ 9223372036854775807) {r : List UInt8} (hr : StopsL r) : tokT (Lib.decDigits x ++ r) = .ok 2 [] x (Lib.decDigits x).length ∧ ∃ c l, Lib.decDigits x = c :: l ∧ c.toNat ≠ 32 ∧ c.toNat ≠ 10 ∧ c.toNat ≠ 35 := by
  obtain ⟨h1, h2, h3, h4⟩ := dig_dec x
  have hN : numN (Lib.decDigits x ++ r) = (Lib.decDigits x).length := by
    cases hl : Lib.decDigits x with
    | nil => exact absurd hl h4
    | cons c l =>
      rw [hl] at h1 h3
      show (if c.toNat = 48 then 1 else span digC (c :: l ++ r)) = _
      by_cases h48 : c.toNat = 48
      · have hc : c = 48 := UInt8.toNat.inj h48
        have h0 := h3 (by rw [hc]; rfl)
        have := dig_len h0
        rw [hl] at this
        rw [if_pos h48, this]; rfl
      · rw [if_neg h48, span_all (hr.stop (by decide)) h1]
  cases hl : Lib.decDigits x with
  | nil => exact absurd hl h4
  | cons c l =>
    rw [hl] at h1 h2 hN
    have hc : digC c = true := by rw [List.all_cons, Bool.and_eq_true] at h1; exact h1.1
    have hcn := of_decide_eq_true hc
    have hlow : ¬ lowC c = true := by unfold lowC; simp; omega
    refine ⟨?_, c, l, rfl, by omega, by omega, by omega⟩
    rw [List.cons_append, tokT_cons, if_neg hlow, if_pos hc, ← List.cons_append]
    unfold numT
    rw [hN, List.take_left, h2, if_neg (by omega), List.drop_left]
    rcases hr with rfl | ⟨r', rfl⟩
    · rfl
    · simp only
      rw [if_neg (by decide)]
theorem sign_back {tx r : List UInt8} (h : tx ∈ signs) (hr : StopsL r) : tokT (tx ++ r) = .ok 4 tx 0 tx.length ∧ ∃ c l, tx = c :: l ∧ c.toNat ≠ 32 ∧ c.toNat ≠ 10 ∧ c.toNat ≠ 35 := by
  simp only [signs, List.mem_cons, List.not_mem_nil, or_false] at h
  rcases hr with rfl | ⟨r', rfl⟩
  all_goals
    rcases h with rfl | rfl | rfl | rfl | rfl | rfl | rfl | rfl | rfl | rfl | rfl | rfl | rfl | rfl | rfl | rfl | rfl
    all_goals exact ⟨rfl, _, _, rfl, by decide, by decide, by decide⟩
end Tok

theorem itoa_of {x : Int} (h : 0 ≤ x) : Lib.itoa x = Lib.decDigits x.toNat := by
  unfold Lib.itoa
  rw [if_neg (by omega)]
theorem spell_back {t : Tg} (h : told t = true) (hx : t.num ≤ 9223372036854775807) {r : List UInt8} (hr : StopsL r) :
    tokT (spellL t ++ r) = .ok t.kind t.text t.num.toNat (spellL t).length ∧ ∃ c l, spellL t = c :: l ∧ c.toNat ≠ 32 ∧ c.toNat ≠ 10 ∧ c.toNat ≠ 35 := by
  obtain ⟨kd, tx, x, at_⟩ := t
  unfold told at h
  dsimp only at *
  by_cases c1 : kd = 1
  · subst c1
    rw [if_pos rfl, Bool.and_eq_true] at h
    have hx0 : x = 0 := of_decide_eq_true h.2
    subst hx0
    exact word_back h.1 hr
  · rw [if_neg c1] at h
    by_cases c2 : kd = 2
    · subst c2
      rw [if_pos rfl, Bool.and_eq_true] at h
      have h0 : 0 ≤ x := of_decide_eq_true h.1
      have ht : tx = [] := of_decide_eq_true h.2
      subst ht
      have e : spellL ⟨2, [], x, at_⟩ = Lib.decDigits x.toNat := itoa_of h0
      rw [e]
      exact num_back (by omega) hr
    · rw [if_neg c2] at h
      by_cases c3 : kd = 3
      · subst c3
        rw [if_pos rfl, Bool.and_eq_true] at h
        have hx0 : x = 0 := of_decide_eq_true h.2
        subst hx0
        exact ⟨text_back r tx (of_decide_eq_true h.1), 34, _, rfl, by decide, by decide, by decide⟩
      · rw [if_neg c3] at h
        by_cases c4 : kd = 4
        · subst c4
          rw [if_pos rfl, Bool.and_eq_true] at h
          have hx0 : x = 0 := of_decide_eq_true h.2
          subst hx0
          exact sign_back (of_decide_eq_true h.1) hr
        · rw [if_neg c4] at h; cases h

/-- A token that was read, as any token. -/
def toG (t : Tk) : Tg := ⟨t.kind, t.text, t.num, t.at_⟩
/-- A token without its place. -/
def bareG (t : Tg) : Tg := { t with at_ := 0 }
theorem tail_ends (ts : List Tg) : StopsL (ts.flatMap fun u => 32 :: spellL u) := by
  cases ts with
  | nil => exact .inl rfl
  | cons t r => exact .inr ⟨_, rfl⟩
theorem told_bare {t : Tg} (h : told t = true) : 0 ≤ t.num := by
  obtain ⟨kd, tx, x, at_⟩ := t
  unfold told at h
  dsimp only at *
  repeat' split at h
  all_goals first
    | (rw [Bool.and_eq_true] at h; have := of_decide_eq_true h.2; omega)
    | (rw [Bool.and_eq_true] at h; exact of_decide_eq_true h.1)
    | (cases h)
theorem tok_one {t : Tg} (h : told t = true) (hx : t.num ≤ 9223372036854775807) {r : List UInt8} (hr : StopsL r) (n : Nat) (acc : List Tk) :
    allR (spellL t ++ r) n acc = allR r (n + (spellL t).length) (acc ++ [⟨t.kind, t.text, t.num.toNat, n⟩]) := by
  obtain ⟨h1, c, l, he, h2, h3, h4⟩ := spell_back h hx hr
  rw [he, List.cons_append] at h1
  rw [he, List.cons_append, allR_tok n acc (by omega) h4 h1, ← List.cons_append, List.drop_left]
theorem tail_back : ∀ (ts : List Tg) (n : Nat) (acc : List Tk), (∀ t ∈ ts, told t = true ∧ t.num ≤ 9223372036854775807) →
    ∃ ks, allR (ts.flatMap fun u => 32 :: spellL u) n acc = ⟨acc ++ ks, 0, 0⟩ ∧ ks.map (bareG ∘ toG) = ts.map bareG
  | [], n, acc, _ => ⟨[], by simp [allR_nil], rfl⟩
  | t :: ts, n, acc, h => by
    have ht := h t (by simp)
    obtain ⟨ks, h1, h2⟩ := tail_back ts (n + 1 + (spellL t).length) (acc ++ [⟨t.kind, t.text, t.num.toNat, n + 1⟩]) (fun u hu => h u (by simp [hu]))
    refine ⟨⟨t.kind, t.text, t.num.toNat, n + 1⟩ :: ks, ?_, ?_⟩
    · rw [List.flatMap_cons, List.cons_append, allR_blank _ _ _ (.inl (by rfl)), tok_one ht.1 ht.2 (tail_ends ts), h1]
      simp
    · have h0 := told_bare ht.1
      rw [List.map_cons, List.map_cons, h2]
      congr 1
      simp only [Function.comp, toG, bareG]
      congr 1
      omega
/-- Tokens that are spelled are read again. -/
theorem join_back {ts : List Tg} (h : ∀ t ∈ ts, told t = true ∧ t.num ≤ 9223372036854775807) (hl : (joinL ts).length ≤ 16384) :
    ∃ ks, allT (joinL ts) = ⟨ks, 0, 0⟩ ∧ ks.map (bareG ∘ toG) = ts.map bareG := by
  unfold allT
  rw [if_neg (by omega)]
  match ts, h with
  | [], _ => exact ⟨[], rfl, rfl⟩
  | t :: r, h =>
    have ht := h t (by simp)
    obtain ⟨ks, h1, h2⟩ := tail_back r (0 + (spellL t).length) ([] ++ [⟨t.kind, t.text, t.num.toNat, 0⟩]) (fun u hu => h u (by simp [hu]))
    refine ⟨⟨t.kind, t.text, t.num.toNat, 0⟩ :: ks, ?_, ?_⟩
    · show allR (spellL t ++ r.flatMap fun u => 32 :: spellL u) 0 [] = _
      rw [tok_one ht.1 ht.2 (tail_ends r), h1]
      simp
    · have h0 := told_bare ht.1
      rw [List.map_cons, List.map_cons, h2]
      congr 1
      simp only [Function.comp, toG, bareG]
      congr 1
      omega
end Go.Proofs.YtmgbebpkkidooaaDoor
