/- Plain: tokens that are spelled are read again (layer 7). -/
import Derived.Test.YtkmhdhnoghbkgaaGreatDoorQ33
import Derived.Test.YtkmhdhnoghbkgaaGreatDoorQ03
import Derived.Test.YtkmhdhnoghbkgaaGreatDoorQ15
import Derived.Test.YtkmhdhnoghbkgaaGreatDoorQ02
import Derived.Test.YtkmhdhnoghbkgaaGreatDoorQ01
import Derived.WalkKit
import Derived.WalkSpells
import Derived.WalkLawsBesides
import Derived.Handy
import Derived.Lib.Hide
import Derived.LoopTactic
import Derived.Lib.IndexBytes
set_option linter.unusedVariables false
/- Plain: tokens that are spelled are read again (layer 7). -/
namespace Go.Proofs.YtkmhdhnoghbkgaaGreatDoor
open Go.RowKit Tok

namespace Tok
theorem span_all {p : UInt8 → Bool} {r : List UInt8} (hr : r = [] ∨ ∃ c r', r = c :: r' ∧ p c = false) : ∀ {l : List UInt8}, l.all p = true → span p (l ++ r) = l.length
  | [], _ => by
    rcases hr with rfl | ⟨c, r', rfl, h⟩
    · rfl
    · show (if p c = true then _ else 0) = 0
      rw [if_neg (by rw [h]; simp)]
  | c :: l, h => by
    simp only [List.all_cons, Bool.and_eq_true] at h
    show (if p c = true then span p (l ++ r) + 1 else 0) = _
    rw [if_pos h.1, span_all hr h.2]
    rfl
theorem numV_snoc (l : List UInt8) (c : UInt8) : numV (l ++ [c]) = 10 * numV l + (c.toNat - 48) := by simp [numV]
theorem dig_dec : ∀ u, (Lib.decDigits u).all digC = true ∧ numV (Lib.decDigits u) = u ∧ ((Lib.decDigits u).head? = some 48 → u = 0) ∧ Lib.decDigits u ≠ [] := by
  intro u
  induction u using Nat.strongRecOn with
  | ind u ih =>
    rw [Lib.decDigits]
    by_cases h : u < 10
    · rw [dif_pos h]
      have key : ∀ u, u < 10 → (([UInt8.ofNat (48 + u)].all digC = true ∧ numV [UInt8.ofNat (48 + u)] = u) ∧ ([UInt8.ofNat (48 + u)].head? = some 48 → u = 0)) := by decide
      exact ⟨(key u h).1.1, (key u h).1.2, (key u h).2, by simp⟩
    · rw [dif_neg h]
      obtain ⟨h1, h2, h3, h4⟩ := ih (u / 10) (by omega)
      have key : ∀ d, d < 10 → (digC (UInt8.ofNat (48 + d)) = true ∧ (UInt8.ofNat (48 + d)).toNat - 48 = d) := by decide
      have hd := key (u % 10) (by omega)
      refine ⟨by rw [List.all_append, h1, Bool.true_and, List.all_cons, hd.1]; rfl, by rw [numV_snoc, h2, hd.2]; omega, ?_, by simp⟩
      cases hl : Lib.decDigits (u / 10) with
      | nil => exact absurd hl h4
      | cons c r =>
        rw [hl] at h3
        intro hh
        have := h3 (by simpa using hh)
        omega
theorem dig_len {u : Nat} (h : u = 0) : Lib.decDigits u = [48] := by subst h; rw [Lib.decDigits]; rfl
/-- What a blank, or nothing, is. -/
def StopsL (r : List UInt8) : Prop := r = [] ∨ ∃ r', r = 32 :: r'
theorem StopsL.stop {r : List UInt8} (h : StopsL r) {p : UInt8 → Bool} (hp : p 32 = false) : r = [] ∨ ∃ c r', r = c :: r' ∧ p c = false := by
  rcases h with rfl | ⟨r', rfl⟩
  · exact .inl rfl
  · exact .inr ⟨32, r', rfl, hp⟩
theorem word_back {tx r : List UInt8} (h : nameL tx = true) (hr : StopsL r) : tokT (tx ++ r) = .ok 1 tx 0 tx.length ∧ ∃ c l, tx = c :: l ∧ c.toNat ≠ 32 ∧ c.toNat ≠ 10 ∧ c.toNat ≠ 35 := by
  match tx with
  | [] => cases h
  | c :: l =>
    simp only [nameL, Bool.and_eq_true, decide_eq_true_eq] at h
    obtain ⟨⟨hlen, hc⟩, hall⟩ := h
    have hc' : lowC c = true := hc
    have hall' : (c :: l).all wordC = true := by
      rw [List.all_cons, low_word hc', Bool.true_and]
      exact hall
    have hcn : 97 ≤ c.toNat := (of_decide_eq_true hc).1
    refine ⟨?_, c, l, rfl, by omega, by omega, by omega⟩
    rw [List.cons_append, tokT_cons, if_pos hc', ← List.cons_append]
    unfold wordT
    rw [span_all (hr.stop (by decide)) hall', if_neg (by simp; omega), List.take_left]
theorem num_back {x : Nat} (hx : x ≤ 9223372036854775807) {r : List UInt8} (hr : StopsL r) : tokT (Lib.decDigits x ++ r) = .ok 2 [] x (Lib.decDigits x).length ∧ ∃ c l, Lib.decDigits x = c :: l ∧ c.toNat ≠ 32 ∧ c.toNat ≠ 10 ∧ c.toNat ≠ 35 := by
  obtain ⟨h1, h2, h3, h4⟩ := dig_dec x
  have hN : numN (Lib.decDigits x ++ r) = (Lib.decDigits x).length := by
    cases hl : Lib.decDigits x with
    | nil => exact absurd hl h4
    | cons c l =>
      rw [hl] at h1 h3
      show (if c.toNat = 48 then 1 else span digC (c :: l ++ r)) = _
      by_cases h48 : c.toNat = 48
      · have hc : c = 48 := UInt8.toNat.inj h48
        have h0 := h3 (by rw [hc]; rfl)
        have := dig_len h0
        rw [hl] at this
        rw [if_pos h48, this]; rfl
      · rw [if_neg h48, span_all (hr.stop (by decide)) h1]
  cases hl : Lib.decDigits x with
  | nil => exact absurd hl h4
  | cons c l =>
    rw [hl] at h1 h2 hN
    have hc : digC c = true := by rw [List.all_cons, Bool.and_eq_true] at h1; exact h1.1
    have hcn := of_decide_eq_true hc
    have hlow : ¬ lowC c = true := by unfold lowC; simp; omega
    refine ⟨?_, c, l, rfl, by omega, by omega, by omega⟩
    rw [List.cons_append, tokT_cons, if_neg hlow, if_pos hc, ← List.cons_append]
    unfold numT
    rw [hN, List.take_left, h2, if_neg (by omega), List.drop_left]
    rcases hr with rfl | ⟨r', rfl⟩
    · rfl
    · simp only
      rw [if_neg (by decide)]
theorem sign_back {tx r : List UInt8} (h : tx ∈ signs) (hr : StopsL r) : tokT (tx ++ r) = .ok 4 tx 0 tx.length ∧ ∃ c l, tx = c :: l ∧ c.toNat ≠ 32 ∧ c.toNat ≠ 10 ∧ c.toNat ≠ 35 := by
  simp only [signs, List.mem_cons, List.not_mem_nil, or_false] at h
  rcases hr with rfl | ⟨r', rfl⟩
  all_goals
    rcases h with rfl | rfl | rfl | rfl | rfl | rfl | rfl | rfl | rfl | rfl | rfl | rfl | rfl | rfl | rfl | rfl | rfl
    all_goals exact ⟨rfl, _, _, rfl, by decide, by decide, by decide⟩
end Tok

theorem itoa_of {x : Int} (h : 0 ≤ x) : Lib.itoa x = Lib.decDigits x.toNat := by
  unfold Lib.itoa
  rw [if_neg (by omega)]
theorem spell_back {t : Tg} (h : told t = true) (hx : t.num ≤ 9223372036854775807) {r : List UInt8} (hr : StopsL r) :
    tokT (spellL t ++ r) = .ok t.kind t.text t.num.toNat (spellL t).length ∧ ∃ c l, spellL t = c :: l ∧ c.toNat ≠ 32 ∧ c.toNat ≠ 10 ∧ c.toNat ≠ 35 := by
  obtain ⟨kd, tx, x, at_⟩ := t
  unfold told at h
  dsimp only at *
  by_cases c1 : kd = 1
  · subst c1
    rw [if_pos rfl, Bool.and_eq_true] at h
    have hx0 : x = 0 := of_decide_eq_true h.2
    subst hx0
    exact word_back h.1 hr
  · rw [if_neg c1] at h
    by_cases c2 : kd = 2
    · subst c2
      rw [if_pos rfl, Bool.and_eq_true] at h
      have h0 : 0 ≤ x := of_decide_eq_true h.1
      have ht : tx = [] := of_decide_eq_true h.2
      subst ht
      have e : spellL ⟨2, [], x, at_⟩ = Lib.decDigits x.toNat := itoa_of h0
      rw [e]
      exact num_back (by omega) hr
    · rw [if_neg c2] at h
      by_cases c3 : kd = 3
      · subst c3
        rw [if_pos rfl, Bool.and_eq_true] at h
        have hx0 : x = 0 := of_decide_eq_true h.2
        subst hx0
        exact ⟨text_back r tx (of_decide_eq_true h.1), 34, _, rfl, by decide, by decide, by decide⟩
      · rw [if_neg c3] at h
        by_cases c4 : kd = 4
        · subst c4
          rw [if_pos rfl, Bool.and_eq_true] at h
          have hx0 : x = 0 := of_decide_eq_true h.2
          subst hx0
          exact sign_back (of_decide_eq_true h.1) hr
        · rw [if_neg c4] at h; cases h

/-- A token that was read, as any token. -/
def toG (t : Tk) : Tg := ⟨t.kind, t.text, t.num, t.at_⟩
/-- A token without its place. -/
def bareG (t : Tg) : Tg := { t with at_ := 0 }
theorem tail_ends (ts : List Tg) : StopsL (ts.flatMap fun u => 32 :: spellL u) := by
  cases ts with
  | nil => exact .inl rfl
  | cons t r => exact .inr ⟨_, rfl⟩
theorem told_bare {t : Tg} (h : told t = true) : 0 ≤ t.num := by
  obtain ⟨kd, tx, x, at_⟩ := t
  unfold told at h
  dsimp only at *
  repeat' split at h
  all_goals first
    | (rw [Bool.and_eq_true] at h; have := of_decide_eq_true h.2; omega)
    | (rw [Bool.and_eq_true] at h; exact of_decide_eq_true h.1)
    | (cases h)
theorem tok_one {t : Tg} (h : told t = true) (hx : t.num ≤ 9223372036854775807) {r : List UInt8} (hr : StopsL r) (n : Nat) (acc : List Tk) :
    allR (spellL t ++ r) n acc = allR r (n + (spellL t).length) (acc ++ [⟨t.kind, t.text, t.num.toNat, n⟩]) := by
  obtain ⟨h1, c, l, he, h2, h3, h4⟩ := spell_back h hx hr
  rw [he, List.cons_append] at h1
  rw [he, List.cons_append, allR_tok n acc (by omega) h4 h1, ← List.cons_append, List.drop_left]
theorem tail_back : ∀ (ts : List Tg) (n : Nat) (acc : List Tk), (∀ t ∈ ts, told t = true ∧ t.num ≤ 9223372036854775807) →
    ∃ ks, allR (ts.flatMap fun u => 32 :: spellL u) n acc = ⟨acc ++ ks, 0, 0⟩ ∧ ks.map (bareG ∘ toG) = ts.map bareG
  | [], n, acc, _ => ⟨[], by simp [allR_nil], rfl⟩
  | t :: ts, n, acc, h => by
    have ht := h t (by simp)
    obtain ⟨ks, h1, h2⟩ := tail_back ts (n + 1 + (spellL t).length) (acc ++ [⟨t.kind, t.text, t.num.toNat, n + 1⟩]) (fun u hu => h u (by simp [hu]))
    refine ⟨⟨t.kind, t.text, t.num.toNat, n + 1⟩ :: ks, ?_, ?_⟩
    · rw [List.flatMap_cons, List.cons_append, allR_blank _ _ _ (.inl (by rfl)), tok_one ht.1 ht.2 (tail_ends ts), h1]
      simp
    · have h0 := told_bare ht.1
      rw [List.map_cons, List.map_cons, h2]
      congr 1
      simp only [Function.comp, toG, bareG]
      congr 1
      omega
/-- Tokens that are spelled are read again. -/
theorem join_back {ts : List Tg} (h : ∀ t ∈ ts, told t = true ∧ t.num ≤ 9223372036854775807) (hl : (joinL ts).length ≤ 16384) :
    ∃ ks, allT (joinL ts) = ⟨ks, 0, 0⟩ ∧ ks.map (bareG ∘ toG) = ts.map bareG := by
  unfold allT
  rw [if_neg (by omega)]
  match ts, h with
  | [], _ => exact ⟨[], rfl, rfl⟩
  | t :: r, h =>
    have ht := h t (by simp)
    obtain ⟨ks, h1, h2⟩ := tail_back r (0 + (spellL t).length) ([] ++ [⟨t.kind, t.text, t.num.toNat, 0⟩]) (fun u hu => h u (by simp [hu]))
    refine ⟨⟨t.kind, t.text, t.num.toNat, 0⟩ :: ks, ?_, ?_⟩
    · show allR (spellL t ++ r.flatMap fun u => 32 :: spellL u) 0 [] = _
      rw [tok_one ht.1 ht.2 (tail_ends r), h1]
      simp
    · have h0 := told_bare ht.1
      rw [List.map_cons, List.map_cons, h2]
      congr 1
      simp only [Function.comp, toG, bareG]
      congr 1
      omega
end Go.Proofs.YtkmhdhnoghbkgaaGreatDoor
/- The document's named, Least and Most (layer 8), walked; made by tools/mkrdoc1.py. No condition. -/
namespace Go.Proofs.YtkmhdhnoghbkgaaGreatDoor
open Go.RowKit

def namedB (op : Nat) : Bool := op == 1 || op == 2 || op == 4 || op == 5 || op == 26 || op == 56 || op == 50 || op == 51
def leastN (op : Nat) : Int := if op == 2 || op == 3 || (decide (20 ≤ op) && decide (op ≤ 26)) || op == 50 || op == 51 || op == 56 || op == 57 then 0 else if op == 6 || op == 7 || (decide (30 ≤ op) && decide (op ≤ 42)) then 2 else 1
def mostN (op : Nat) : Int := if op == 1 || op == 3 || op == 25 || op == 50 || op == 51 then -1 else if op == 6 then 3 else leastN op
set_option maxRecDepth 20000 in
set_option maxHeartbeats 1000000 in
theorem refNamed_any (op : Nat) (w : World) : Calls Tryz.prog 131 #[.int .u8 (op : Int)] w fun e w' => e = .returned (.bool (namedB op)) ∧ w' = w := by
  by_cases h1 : op = 1
  · subst h1
    go_enter Tryz.func131, Tryz.ntmps131
    go_wp2
    go_ret
    exact ⟨rfl, rfl⟩
  by_cases h2 : op = 2
  · subst h2
    go_enter Tryz.func131, Tryz.ntmps131
    go_wp2
    go_ret
    exact ⟨rfl, rfl⟩
  by_cases h4 : op = 4
  · subst h4
    go_enter Tryz.func131, Tryz.ntmps131
    go_wp2
    go_ret
    exact ⟨rfl, rfl⟩
  by_cases h5 : op = 5
  · subst h5
    go_enter Tryz.func131, Tryz.ntmps131
    go_wp2
    go_ret
    exact ⟨rfl, rfl⟩
  by_cases h26 : op = 26
  · subst h26
    go_enter Tryz.func131, Tryz.ntmps131
    go_wp2
    go_ret
    exact ⟨rfl, rfl⟩
  by_cases h56 : op = 56
  · subst h56
    go_enter Tryz.func131, Tryz.ntmps131
    go_wp2
    go_ret
    exact ⟨rfl, rfl⟩
  by_cases h50 : op = 50
  · subst h50
    go_enter Tryz.func131, Tryz.ntmps131
    go_wp2
    go_ret
    exact ⟨rfl, rfl⟩
  by_cases h51 : op = 51
  · subst h51
    go_enter Tryz.func131, Tryz.ntmps131
    go_wp2
    go_ret
    exact ⟨rfl, rfl⟩
  have e1 : ((op : Int) == 1) = false := beq_eq_false_iff_ne.2 (by omega)
  have n1 : (op == 1) = false := beq_eq_false_iff_ne.2 h1
  have e2 : ((op : Int) == 2) = false := beq_eq_false_iff_ne.2 (by omega)
  have n2 : (op == 2) = false := beq_eq_false_iff_ne.2 h2
  have e4 : ((op : Int) == 4) = false := beq_eq_false_iff_ne.2 (by omega)
  have n4 : (op == 4) = false := beq_eq_false_iff_ne.2 h4
  have e5 : ((op : Int) == 5) = false := beq_eq_false_iff_ne.2 (by omega)
  have n5 : (op == 5) = false := beq_eq_false_iff_ne.2 h5
  have e26 : ((op : Int) == 26) = false := beq_eq_false_iff_ne.2 (by omega)
  have n26 : (op == 26) = false := beq_eq_false_iff_ne.2 h26
  have e56 : ((op : Int) == 56) = false := beq_eq_false_iff_ne.2 (by omega)
  have n56 : (op == 56) = false := beq_eq_false_iff_ne.2 h56
  have e50 : ((op : Int) == 50) = false := beq_eq_false_iff_ne.2 (by omega)
  have n50 : (op == 50) = false := beq_eq_false_iff_ne.2 h50
  have e51 : ((op : Int) == 51) = false := beq_eq_false_iff_ne.2 (by omega)
  have n51 : (op == 51) = false := beq_eq_false_iff_ne.2 h51
  have hd := Lib.hid (show namedB op = false by unfold namedB; simp [n1, n2, n4, n5, n26, n56, n50, n51])
  clear n1 h1 n2 h2 n4 h4 n5 h5 n26 h26 n56 h56 n50 h50 n51 h51
  go_enter Tryz.func131, Tryz.ntmps131
  go_wp2
  go_ret
  exact ⟨by rw [hd.out]; rfl, rfl⟩
set_option maxRecDepth 20000 in
set_option maxHeartbeats 1000000 in
theorem refLeast_any (op : Nat) (w : World) : Calls Tryz.prog 133 #[.int .u8 (op : Int)] w fun e w' => e = .returned (.int .i64 (leastN op)) ∧ w' = w := by
  by_cases h2 : op = 2
  · subst h2
    go_enter Tryz.func133, Tryz.ntmps133
    go_wp2
    go_ret
    exact ⟨rfl, rfl⟩
  by_cases h3 : op = 3
  · subst h3
    go_enter Tryz.func133, Tryz.ntmps133
    go_wp2
    go_ret
    exact ⟨rfl, rfl⟩
  by_cases h50 : op = 50
  · subst h50
    go_enter Tryz.func133, Tryz.ntmps133
    go_wp2
    go_ret
    exact ⟨rfl, rfl⟩
  by_cases h51 : op = 51
  · subst h51
    go_enter Tryz.func133, Tryz.ntmps133
    go_wp2
    go_ret
    exact ⟨rfl, rfl⟩
  by_cases h56 : op = 56
  · subst h56
    go_enter Tryz.func133, Tryz.ntmps133
    go_wp2
    go_ret
    exact ⟨rfl, rfl⟩
  by_cases h57 : op = 57
  · subst h57
    go_enter Tryz.func133, Tryz.ntmps133
    go_wp2
    go_ret
    exact ⟨rfl, rfl⟩
  by_cases h6 : op = 6
  · subst h6
    go_enter Tryz.func133, Tryz.ntmps133
    go_wp2
    go_ret
    exact ⟨rfl, rfl⟩
  by_cases h7 : op = 7
  · subst h7
    go_enter Tryz.func133, Tryz.ntmps133
    go_wp2
    go_ret
    exact ⟨rfl, rfl⟩
  have e2 : ((op : Int) == 2) = false := beq_eq_false_iff_ne.2 (by omega)
  have n2 : (op == 2) = false := beq_eq_false_iff_ne.2 h2
  have e3 : ((op : Int) == 3) = false := beq_eq_false_iff_ne.2 (by omega)
  have n3 : (op == 3) = false := beq_eq_false_iff_ne.2 h3
  have e50 : ((op : Int) == 50) = false := beq_eq_false_iff_ne.2 (by omega)
  have n50 : (op == 50) = false := beq_eq_false_iff_ne.2 h50
  have e51 : ((op : Int) == 51) = false := beq_eq_false_iff_ne.2 (by omega)
  have n51 : (op == 51) = false := beq_eq_false_iff_ne.2 h51
  have e56 : ((op : Int) == 56) = false := beq_eq_false_iff_ne.2 (by omega)
  have n56 : (op == 56) = false := beq_eq_false_iff_ne.2 h56
  have e57 : ((op : Int) == 57) = false := beq_eq_false_iff_ne.2 (by omega)
  have n57 : (op == 57) = false := beq_eq_false_iff_ne.2 h57
  have e6 : ((op : Int) == 6) = false := beq_eq_false_iff_ne.2 (by omega)
  have n6 : (op == 6) = false := beq_eq_false_iff_ne.2 h6
  have e7 : ((op : Int) == 7) = false := beq_eq_false_iff_ne.2 (by omega)
  have n7 : (op == 7) = false := beq_eq_false_iff_ne.2 h7
  by_cases c1 : op < 20
  · have cc := c1
    have f0 : ¬ (20 : Int) ≤ (op : Int) := by omega
    have f1 : ¬ (30 : Int) ≤ (op : Int) := by omega
    have g0 : ¬ 20 ≤ op := by omega
    have g1 : ¬ 30 ≤ op := by omega
    have hd := Lib.hid (show leastN op = 1 by unfold leastN; simp [n2, n3, n50, n51, n56, n57, n6, n7, g0, g1])
    clear g0 g1 n2 h2 n3 h3 n50 h50 n51 h51 n56 h56 n57 h57 n6 h6 n7 h7
    clear cc c1
    go_enter Tryz.func133, Tryz.ntmps133
    go_wp2
    go_ret
    exact ⟨by rw [hd.out]; rfl, rfl⟩
  by_cases c2 : op ≤ 26
  · have cc := c2
    have f0 : (20 : Int) ≤ (op : Int) := by omega
    have f1 : (op : Int) ≤ 26 := by omega
    have g0 : 20 ≤ op := by omega
    have g1 : op ≤ 26 := by omega
    have hd := Lib.hid (show leastN op = 0 by unfold leastN; simp [n2, n3, n50, n51, n56, n57, g0, g1])
    clear g0 g1 n2 h2 n3 h3 n50 h50 n51 h51 n56 h56 n57 h57 n6 h6 n7 h7
    clear cc c1 c2
    go_enter Tryz.func133, Tryz.ntmps133
    go_wp2
    go_ret
    exact ⟨by rw [hd.out]; rfl, rfl⟩
  by_cases c3 : op < 30
  · have cc := c3
    have f0 : (20 : Int) ≤ (op : Int) := by omega
    have f1 : ¬ (op : Int) ≤ 26 := by omega
    have f2 : ¬ (30 : Int) ≤ (op : Int) := by omega
    have g0 : 20 ≤ op := by omega
    have g1 : ¬ op ≤ 26 := by omega
    have g2 : ¬ 30 ≤ op := by omega
    have hd := Lib.hid (show leastN op = 1 by unfold leastN; simp [n2, n3, n50, n51, n56, n57, n6, n7, g0, g1, g2])
    clear g0 g1 g2 n2 h2 n3 h3 n50 h50 n51 h51 n56 h56 n57 h57 n6 h6 n7 h7
    clear cc c1 c2 c3
    go_enter Tryz.func133, Tryz.ntmps133
    go_wp2
    go_ret
    exact ⟨by rw [hd.out]; rfl, rfl⟩
  by_cases c4 : op ≤ 42
  · have cc := c4
    have f0 : (20 : Int) ≤ (op : Int) := by omega
    have f1 : ¬ (op : Int) ≤ 26 := by omega
    have f2 : (30 : Int) ≤ (op : Int) := by omega
    have f3 : (op : Int) ≤ 42 := by omega
    have g0 : 20 ≤ op := by omega
    have g1 : ¬ op ≤ 26 := by omega
    have g2 : 30 ≤ op := by omega
    have g3 : op ≤ 42 := by omega
    have hd := Lib.hid (show leastN op = 2 by unfold leastN; simp [n2, n3, n50, n51, n56, n57, n6, n7, g0, g1, g2, g3])
    clear g0 g1 g2 g3 n2 h2 n3 h3 n50 h50 n51 h51 n56 h56 n57 h57 n6 h6 n7 h7
    clear cc c1 c2 c3 c4
    go_enter Tryz.func133, Tryz.ntmps133
    go_wp2
    go_ret
    exact ⟨by rw [hd.out]; rfl, rfl⟩
  have f0 : (20 : Int) ≤ (op : Int) := by omega
  have f1 : ¬ (op : Int) ≤ 26 := by omega
  have f2 : (30 : Int) ≤ (op : Int) := by omega
  have f3 : ¬ (op : Int) ≤ 42 := by omega
  have g0 : 20 ≤ op := by omega
  have g1 : ¬ op ≤ 26 := by omega
  have g2 : 30 ≤ op := by omega
  have g3 : ¬ op ≤ 42 := by omega
  have hd := Lib.hid (show leastN op = 1 by unfold leastN; simp [n2, n3, n50, n51, n56, n57, n6, n7, g0, g1, g2, g3])
  clear g0 g1 g2 g3 n2 h2 n3 h3 n50 h50 n51 h51 n56 h56 n57 h57 n6 h6 n7 h7
  go_enter Tryz.func133, Tryz.ntmps133
  go_wp2
  go_ret
  exact ⟨by rw [hd.out]; rfl, rfl⟩
set_option maxRecDepth 20000 in
set_option maxHeartbeats 1000000 in
theorem refMost_any (op : Nat) (w : World) : Calls Tryz.prog 134 #[.int .u8 (op : Int)] w fun e w' => e = .returned (.int .i64 (mostN op)) ∧ w' = w := by
  by_cases h1 : op = 1
  · subst h1
    go_enter Tryz.func134, Tryz.ntmps134
    go_wp2
    go_ret
    exact ⟨rfl, rfl⟩
  by_cases h3 : op = 3
  · subst h3
    go_enter Tryz.func134, Tryz.ntmps134
    go_wp2
    go_ret
    exact ⟨rfl, rfl⟩
  by_cases h25 : op = 25
  · subst h25
    go_enter Tryz.func134, Tryz.ntmps134
    go_wp2
    go_ret
    exact ⟨rfl, rfl⟩
  by_cases h50 : op = 50
  · subst h50
    go_enter Tryz.func134, Tryz.ntmps134
    go_wp2
    go_ret
    exact ⟨rfl, rfl⟩
  by_cases h51 : op = 51
  · subst h51
    go_enter Tryz.func134, Tryz.ntmps134
    go_wp2
    go_ret
    exact ⟨rfl, rfl⟩
  by_cases h6 : op = 6
  · subst h6
    go_enter Tryz.func134, Tryz.ntmps134
    go_wp2
    go_ret
    exact ⟨rfl, rfl⟩
  have e1 : ((op : Int) == 1) = false := beq_eq_false_iff_ne.2 (by omega)
  have n1 : (op == 1) = false := beq_eq_false_iff_ne.2 h1
  have e3 : ((op : Int) == 3) = false := beq_eq_false_iff_ne.2 (by omega)
  have n3 : (op == 3) = false := beq_eq_false_iff_ne.2 h3
  have e25 : ((op : Int) == 25) = false := beq_eq_false_iff_ne.2 (by omega)
  have n25 : (op == 25) = false := beq_eq_false_iff_ne.2 h25
  have e50 : ((op : Int) == 50) = false := beq_eq_false_iff_ne.2 (by omega)
  have n50 : (op == 50) = false := beq_eq_false_iff_ne.2 h50
  have e51 : ((op : Int) == 51) = false := beq_eq_false_iff_ne.2 (by omega)
  have n51 : (op == 51) = false := beq_eq_false_iff_ne.2 h51
  have e6 : ((op : Int) == 6) = false := beq_eq_false_iff_ne.2 (by omega)
  have n6 : (op == 6) = false := beq_eq_false_iff_ne.2 h6
  have hd : mostN op = leastN op := by unfold mostN; simp [n1, n3, n25, n50, n51, n6]
  rw [hd]
  have kL := Lib.hid (fun W => refLeast_any op W)
  generalize leastN op = z at *
  clear hd n1 h1 n3 h3 n25 h25 n50 h50 n51 h51 n6 h6
  go_enter Tryz.func134, Tryz.ntmps134
  go_wp2_with fail
  refine (kL.out _).mono ?_
  rintro e w2 ⟨rfl, rfl⟩
  go_wp2
  go_ret
  exact ⟨rfl, rfl⟩
end Go.Proofs.YtkmhdhnoghbkgaaGreatDoor
/- Which Ops are what, to the document: prompterref08's Expression, Statement (layer 8), walked. No condition. -/
namespace Go.Proofs.YtkmhdhnoghbkgaaGreatDoor
open Go.RowKit Go.Shelf

set_option maxHeartbeats 1000000 in
theorem refExpression_any (op : Nat) (w : World) : Calls Tryz.prog 129 #[.int .u8 (op : Int)] w fun e w' => e = .returned (.bool (exprB op)) ∧ w' = w := by
  obtain ⟨B, hB⟩ := exHid (exprB op)
  rw [hB.out]
  have hw := expr_w op
  rw [hB.out] at hw
  rcases hw with ⟨h0, h⟩ | ⟨h0, h⟩ | ⟨h0, h⟩ | ⟨h0, h⟩ | ⟨h0, h⟩ | ⟨h0, h⟩ | ⟨h0, h⟩
  all_goals
    replace h0 := Lib.hid h0
    obtain ⟨h1, h2⟩ := h
    go_enter Tryz.func129, Tryz.ntmps129
    go_wp2
    go_ret
    exact ⟨ret_bool (by rw [h0.out]), rfl⟩
set_option maxHeartbeats 400000 in
theorem refStatement_any (op : Nat) (w : World) : Calls Tryz.prog 130 #[.int .u8 (op : Int)] w fun e w' => e = .returned (.bool (stmtB op)) ∧ w' = w := by
  obtain ⟨B, hB⟩ := exHid (stmtB op)
  rw [hB.out]
  have hw := stmt_w op
  rw [hB.out] at hw
  rcases hw with ⟨h0, h⟩ | ⟨h0, h, h1⟩ | ⟨h0, h, h1⟩
  all_goals
    replace h0 := Lib.hid h0
    go_enter Tryz.func130, Tryz.ntmps130
    go_wp2
    go_ret
    exact ⟨ret_bool (by rw [h0.out]), rfl⟩

end Go.Proofs.YtkmhdhnoghbkgaaGreatDoor
/- Contract of the document's Name (cut out of VName). -/
namespace Go.Proofs.YtkmhdhnoghbkgaaGreatDoor
open Go.RowKit
/-- Behind k rounds: all that was seen may stand in a name, the first byte is a letter. -/
def SeenN (s : ByteArray) (k : Nat) : Prop := AllR (s.data.toList.take k) ∧ ∀ h : 0 < s.size, 0 < k → letC s[0] = true
theorem SeenN.more {s : ByteArray} {k : Nat} (h : SeenN s k) (hk : k < s.size) (hc : restC s[k] = true) (h0 : letC s[k] = true ∨ 0 < k) : SeenN s (k + 1) := by
  refine ⟨h.1.more hk hc, fun hs _ => ?_⟩
  by_cases hk0 : 0 < k
  · exact h.2 hs hk0
  · obtain rfl : k = 0 := by omega
    rcases h0 with h0 | h0
    · exact h0
    · omega

set_option maxHeartbeats 2000000 in
theorem refName_any (s : ByteArray) (w : World) (hs : s.size ≤ 9223372036854775807) :
    Calls Tryz.prog 154 #[.string s] w fun e w' => e = .returned (.bool (nameL s.data.toList)) ∧ w = w' := by
  by_cases h0 : 0 < s.size
  · by_cases h24 : s.size ≤ 24
    · have hz : decide ((s.size : Int) < 1) = false := decide_eq_false (by omega)
      have h24' : decide (24 < (s.size : Int)) = false := decide_eq_false (by omega)
      go_enter Tryz.func154, Tryz.ntmps154
      go_wp2
      clear hz h24'
      go_loop [3] (fun i => ∃ k : Nat, k ≤ s.size ∧ i = .int .i64 k ∧ SeenN s k) (fun i => s.size - (intOf i).toNat)
      case atStart => exact ⟨0, Nat.zero_le _, rfl, rfl, fun _ h => absurd h (by omega)⟩
      case round =>
        obtain ⟨k, hk, rfl, hall⟩ := hrel
        replace hall := Lib.hid hall
        by_cases hlt : k < s.size
        · by_cases hok : restC s[k] = true ∧ (letC s[k] = true ∨ 0 < k)
          · have hnx := Lib.hid (hall.out.more hlt hok.1 hok.2)
            by_cases hl : 97 ≤ s[k].toNat ∧ s[k].toNat ≤ 122
            · obtain ⟨h97, h122⟩ := hl
              have h48 : 48 ≤ s[k].toNat := by omega
              have e57 : decide ((s[k].toNat : Int) ≤ 57) = false := decide_eq_false (by omega)
              have e95 : ((s[k].toNat : Int) == 95) = false := beq_eq_false_iff_ne.2 (by omega)
              clear hok
              go_wp2
              go_round
              case rel => exact ⟨k + 1, by omega, by go_num, hnx.out⟩
              case measure => simp [intOf]; omega
            · have hl' : letC s[k] = false := by simp only [letC, decide_eq_false_iff_not]; exact hl
              have hk0 : 0 < k := by rcases hok.2 with h | h; · rw [hl'] at h; cases h
                                     · exact h
              have ek : ((k : Int) == 0) = false := beq_eq_false_iff_ne.2 (by omega)
              have hr := hok.1
              unfold restC at hr
              rw [hl'] at hr
              simp only [Bool.false_or, Bool.or_eq_true, decide_eq_true_eq] at hr
              have h97 : s[k].toNat < 97 := by omega
              have h48 : 48 ≤ s[k].toNat := by omega
              rcases hr with hr | hr
              · have h57 := hr.2
                clear hr hl' hl hok
                go_wp2
                go_round
                case rel => exact ⟨k + 1, by omega, by go_num, hnx.out⟩
                case measure => simp [intOf]; omega
              · have e57 : decide ((s[k].toNat : Int) ≤ 57) = false := decide_eq_false (by omega)
                have e95 : ((s[k].toNat : Int) == 95) = true := by rw [hr]; rfl
                clear hr hl' hl hok
                go_wp2
                go_round
                case rel => exact ⟨k + 1, by omega, by go_num, hnx.out⟩
                case measure => simp [intOf]; omega
          · have HN : Hid (nameL s.data.toList = false) := by
              show nameL s.data.toList = false
              cases hr : restC s[k] with
              | false => exact nameL_wrong hlt hr
              | true =>
                have hk0 : ¬ 0 < k := fun h => hok ⟨hr, .inr h⟩
                obtain rfl : k = 0 := by omega
                refine nameL_first hlt ?_
                cases hc : letC s[0] with
                | false => rfl
                | true => exact absurd ⟨hr, .inl hc⟩ hok
            have hnl : letC s[k] = false := by
              cases hc : letC s[k] with
              | false => rfl
              | true => exact absurd ⟨letC_rest hc, .inl hc⟩ hok
            have hl : ¬ (97 ≤ s[k].toNat ∧ s[k].toNat ≤ 122) := by simpa only [letC, decide_eq_false_iff_not] using hnl
            by_cases hk0 : 0 < k
            · have ek : ((k : Int) == 0) = false := beq_eq_false_iff_ne.2 (by omega)
              have hnr : restC s[k] = false := by
                cases hc : restC s[k] with
                | false => rfl
                | true => exact absurd ⟨hc, .inr hk0⟩ hok
              have h95 : ¬ s[k].toNat = 95 := by intro h; unfold restC at hnr; simp [h] at hnr
              have hdg : ¬ (48 ≤ s[k].toNat ∧ s[k].toNat ≤ 57) := by intro h; unfold restC at hnr; simp [h] at hnr
              have e95 : ((s[k].toNat : Int) == 95) = false := beq_eq_false_iff_ne.2 (by omega)
              replace hnl := Lib.hid hnl
              replace hnr := Lib.hid hnr
              replace hok := Lib.hid hok
              by_cases h48 : 48 ≤ s[k].toNat
              · have e57 : decide ((s[k].toNat : Int) ≤ 57) = false := decide_eq_false (by omega)
                by_cases h97 : 97 ≤ s[k].toNat
                · have e122 : decide ((s[k].toNat : Int) ≤ 122) = false := decide_eq_false (by omega)
                  clear hl hdg h95
                  go_wp2
                  go_ret
                  exact ⟨ret_bool (by rw [HN.out]), rfl⟩
                · have e97 : decide (97 ≤ (s[k].toNat : Int)) = false := decide_eq_false (by omega)
                  clear hl hdg h95
                  go_wp2
                  go_ret
                  exact ⟨ret_bool (by rw [HN.out]), rfl⟩
              · have e48 : decide (48 ≤ (s[k].toNat : Int)) = false := decide_eq_false (by omega)
                have e97 : decide (97 ≤ (s[k].toNat : Int)) = false := decide_eq_false (by omega)
                clear hl hdg h95
                go_wp2
                go_ret
                exact ⟨ret_bool (by rw [HN.out]), rfl⟩
            · obtain rfl : k = 0 := by omega
              replace hnl := Lib.hid hnl
              replace hok := Lib.hid hok
              by_cases h97 : 97 ≤ s[0].toNat
              · have e122 : decide ((s[0].toNat : Int) ≤ 122) = false := decide_eq_false (by omega)
                clear hl hk0
                go_wp2
                all_goals
                  go_ret
                  exact ⟨ret_bool (by rw [HN.out]), rfl⟩
              · have e97 : decide (97 ≤ (s[0].toNat : Int)) = false := decide_eq_false (by omega)
                clear hl hk0
                go_wp2
                all_goals
                  go_ret
                  exact ⟨ret_bool (by rw [HN.out]), rfl⟩
        · have HN := Lib.hid (nameL_of h0 h24 (hall.out.2 h0 (by omega)) (hall.out.1.all (by omega)))
          go_wp2
          go_ret
          exact ⟨ret_bool (by rw [HN.out]), rfl⟩
    · have HN := Lib.hid (nameL_long (Nat.lt_of_not_le h24))
      have hz : decide ((s.size : Int) < 1) = false := decide_eq_false (by omega)
      have h24' : decide (24 < (s.size : Int)) = true := decide_eq_true (by omega)
      go_enter Tryz.func154, Tryz.ntmps154
      go_wp2
      go_ret
      exact ⟨ret_bool (by rw [HN.out]), rfl⟩
  · have HN := Lib.hid (nameL_none h0)
    have hz : decide ((s.size : Int) < 1) = true := decide_eq_true (by omega)
    go_enter Tryz.func154, Tryz.ntmps154
    go_wp2
    go_ret
    exact ⟨ret_bool (by rw [HN.out]), rfl⟩
end Go.Proofs.YtkmhdhnoghbkgaaGreatDoor
/- The document's words and Keyword (layer 7), cut of TWords. No condition. -/
namespace Go.Proofs.YtkmhdhnoghbkgaaGreatDoor
open Go.RowKit
theorem kw_at : ∀ i, i < 28 → kwB (kwAt i).toList = true ∧ kwB (kwAt i ++ ⟨#[95]⟩).toList = false ∧ (kwAt i).size ≤ 100 := by decide +kernel
/-- Texts in memory, one behind the other. -/
def Txts (w : World) (a : Option Addr) (f : Nat → ByteArray) (n : Nat) : Prop :=
  0 < n → ∃ b off, a = some ⟨b, off, none⟩ ∧ b < w.heap.size ∧ ∀ j, j < n → w.cell? ⟨b, off + j, none⟩ = some (.string (f j))
theorem Txts.below {w W : World} {a : Option Addr} {f : Nat → ByteArray} {n : Nat} (h : Txts w a f n) (hb : Below w.heap.size w W) : Txts W a f n := by
  intro h0
  obtain ⟨b, off, rfl, hl, hc⟩ := h h0
  exact ⟨b, off, rfl, Nat.lt_of_lt_of_le hl hb.size, fun j hj => (hb.cell (p := ⟨b, off + j, none⟩) hl).trans (hc j hj)⟩

theorem any_range (g : Nat → Bool) : ∀ n, (∀ j, j < n → g j = false) → (List.range n).any g = false := by
  intro n h
  rw [List.any_eq_false]
  intro j hj
  simp [h j (List.mem_range.1 hj)]
theorem any_hit {g : Nat → Bool} {n j : Nat} (hj : j < n) (h : g j = true) : (List.range n).any g = true :=
  List.any_eq_true.2 ⟨j, List.mem_range.2 hj, h⟩

set_option maxRecDepth 20000 in
set_option maxHeartbeats 1000000 in
theorem among_any {w : World} {a : Option Addr} {f : Nat → ByteArray} {n cap : Nat} (h : Txts w a f n) (hn : n ≤ 1000) (s : ByteArray) :
    Calls Tryz.prog 166 #[.slice a n cap, .string s] w fun e w' => e = .returned (.bool ((List.range n).any fun j => (f j).toList == s.toList)) ∧ w = w' := by
  obtain ⟨V, hV⟩ := exHid ((List.range n).any fun j => (f j).toList == s.toList)
  rw [hV]
  replace h := Lib.hid h
  go_enter Tryz.func166, Tryz.ntmps166
  go_wp2
  go_loop [5] (fun t5 => ∃ i : Nat, i ≤ n ∧ t5 = .int .i64 i ∧ Hid (∀ j, j < i → ((f j).toList == s.toList) = false)) (fun t5 => n - (intOf t5).toNat)
  case atStart => exact ⟨0, by omega, rfl, fun j hj => by omega⟩
  case round =>
    obtain ⟨i, hi, rfl, hall⟩ := hrel
    rcases Nat.lt_or_ge i n with hlt | hge
    · obtain ⟨b, off, rfl, _, hc⟩ := h.out (by omega)
      have x := hc i hlt
      have hlti : (i : Int) < (n : Int) := by omega
      cases hq : ((f i).toList == s.toList) with
      | false =>
        have hnx : Hid (∀ j, j < i + 1 → ((f j).toList == s.toList) = false) := by
          intro j hj
          rcases Nat.lt_or_ge j i with h1 | h1
          · exact hall j h1
          · obtain rfl : j = i := by omega
            exact hq
        generalize f i = S at *
        clear hc
        go_wp2
        go_round
        case rel => exact ⟨i + 1, by omega, by go_num, hnx⟩
        case measure => simp [intOf]; omega
      | true =>
        have hv : V = true := by rw [← hV.out]; exact any_hit hlt hq
        replace hv := Lib.hid hv
        generalize f i = S at *
        clear hc
        go_wp2
        go_ret
        exact ⟨ret_bool (by rw [hv.out]), rfl⟩
    · obtain rfl : i = n := by omega
      have hlti : ¬ ((i : Int) < (i : Int)) := by omega
      have hv : V = false := by rw [← hV.out]; exact any_range _ _ hall
      replace hv := Lib.hid hv
      go_wp2
      go_ret
      exact ⟨ret_bool (by rw [hv.out]), rfl⟩

theorem txts_words (w : World) (cs : Array Value) (t : TypeId) (h : cs = ((List.range 28).map fun j => Value.string (kwAt j)).toArray) : Txts (w.alloc (.cells cs t)) (some ⟨w.heap.size, 0, none⟩) kwAt 28 := by
  subst h
  refine fun _ => ⟨_, 0, rfl, by simp, fun j hj => ?_⟩
  rw [Nat.zero_add]
  simp only [World.cell?, heap_alloc_new]
  simp [List.getElem?_range hj]
set_option maxRecDepth 20000 in
theorem words_any (w : World) :
    Calls Tryz.prog 167 #[] w fun e w' => ∃ b, e = .returned (.slice (some ⟨b, 0, none⟩) 28 28) ∧ Txts w' (some ⟨b, 0, none⟩) kwAt 28 ∧ Below w.heap.size w w' := by
  go_enter Tryz.func167, Tryz.ntmps167
  go_wp2
  go_ret
  exact ⟨_, rfl, txts_words w _ _ (by rfl), (Below.refl _ w).alloc (Nat.le_refl _) _⟩

theorem kw_range (l : ByteArray) : ((List.range 28).any fun j => (kwAt j).toList == l.toList) = kwB l.toList := by
  have h : kwL = (List.range 28).map fun j => (kwAt j).toList := by decide +kernel
  unfold kwB
  rw [h, List.any_map]
  congr 1
  funext j
  simp only [Function.comp]
  exact Bool.eq_iff_iff.2 ⟨fun h => beq_iff_eq.2 (beq_iff_eq.1 h).symm, fun h => beq_iff_eq.2 (beq_iff_eq.1 h).symm⟩

theorem refKeyword_any (s : ByteArray) (w : World) :
    Calls Tryz.prog 151 #[.string s] w fun e w' => e = .returned (.bool (kwB s.toList)) ∧ Below w.heap.size w w' := by
  go_enter Tryz.func151, Tryz.ntmps151
  go_wp2_with fail
  refine (words_any w).mono ?_
  rintro e w1 ⟨b, rfl, hT, hb⟩
  go_wp2_with fail
  refine (among_any hT (by omega) s).mono ?_
  rintro e w2 ⟨rfl, rfl⟩
  rw [kw_range]
  go_wp2
  go_ret
  exact ⟨rfl, hb⟩

theorem kw_of {S : ByteArray} {b : Bool} (h : kwB S.toList = b) (w : World) : Calls Tryz.prog 85 #[.string S] w fun e w' => e = .returned (.bool b) ∧ w' = w :=
  (keyword_any S w).mono fun e w' ⟨h1, h2⟩ => ⟨by rw [h1, h], h2.symm⟩

end Go.Proofs.YtkmhdhnoghbkgaaGreatDoor
