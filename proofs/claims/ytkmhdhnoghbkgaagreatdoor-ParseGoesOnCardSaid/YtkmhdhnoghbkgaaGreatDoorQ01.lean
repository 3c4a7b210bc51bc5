/- Plain: a source as tokens (layer 7), on lists of bytes. No program stands in it, no condition. -/
import Derived.WalkKit
import Derived.Test.YtkmhdhnoghbkgaaGreatDoorRows
import Derived.WalkSpells
import Derived.WalkLawsBesides
import Derived.Handy
import Derived.Lib.Hide
import Derived.LoopTactic
import Derived.Lib.IndexBytes
import Derived.Laws.OwnMore
import Derived.Below
import Derived.OwnWalk
import Derived.Maps.OwnSet
import Derived.MapKept
set_option linter.unusedVariables false
/- Plain: a source as tokens (layer 7), on lists of bytes. No program stands in it, no condition. -/
namespace Go.Proofs.YtkmhdhnoghbkgaaGreatDoor.Tok

def lowC (c : UInt8) : Bool := decide (97 ≤ c.toNat ∧ c.toNat ≤ 122)
def digC (c : UInt8) : Bool := decide (48 ≤ c.toNat ∧ c.toNat ≤ 57)
/-- A word goes on. -/
def wordC (c : UInt8) : Bool := lowC c || digC c || decide (c.toNat = 95)
/-- A byte may stand in a text. -/
def plainC (c : UInt8) : Bool := decide (32 ≤ c.toNat ∧ c.toNat ≤ 126)
/-- How many bytes at the beginning are such. -/
def span (p : UInt8 → Bool) : List UInt8 → Nat
  | [] => 0
  | c :: l => if p c then span p l + 1 else 0

/-- What stands at the beginning: a thing and how many bytes it takes; or how many bytes ahead of the fault there are, and the fault. -/
inductive Res where
  | ok (kind : Nat) (text : List UInt8) (num : Nat) (n : Nat)
  | bad (n code : Nat)
  deriving DecidableEq

def wordT (l : List UInt8) : Res := if 24 < span wordC l then .bad 0 2 else .ok 1 (l.take (span wordC l)) 0 (span wordC l)
/-- The number that digits say. -/
def numV (l : List UInt8) : Nat := l.foldl (fun x c => 10 * x + (c.toNat - 48)) 0
/-- How many digits a number has. -/
def numN : List UInt8 → Nat
  | [] => 0
  | c :: l => if c.toNat = 48 then 1 else span digC (c :: l)
def numT (l : List UInt8) : Res :=
  if 9223372036854775807 < numV (l.take (numN l)) then .bad 0 2
  else match l.drop (numN l) with
    | [] => .ok 2 [] (numV (l.take (numN l))) (numN l)
    | c :: _ => if wordC c then .bad (numN l) 9 else .ok 2 [] (numV (l.take (numN l))) (numN l)
/-- A digit of an escape. -/
def hexV (c : UInt8) : Option Nat := if digC c then some (c.toNat - 48) else if 97 ≤ c.toNat ∧ c.toNat ≤ 102 then some (c.toNat - 87) else none
inductive Item where
  | ok (c : UInt8) (n : Nat)
  | bad (n code : Nat)
  deriving DecidableEq
/-- Behind a \\x. -/
def hexT : List UInt8 → Item
  | [] => .bad 2 4
  | e :: r => match hexV e with
    | none => .bad 2 9
    | some x => match r with
      | [] => .bad 3 4
      | f :: _ => match hexV f with
        | none => .bad 3 9
        | some y => .ok (16 * x + y).toUInt8 4
theorem hexT_pos {r : List UInt8} {b : UInt8} {n : Nat} (h : hexT r = .ok b n) : 0 < n := by
  unfold hexT at h
  repeat' split at h
  all_goals first
    | (cases h; omega)
    | (cases h)
/-- A byte as it stands in a text, from a byte on. -/
def itemT (c : UInt8) (r : List UInt8) : Item :=
  if plainC c = false then .bad 0 9
  else if c.toNat ≠ 92 then .ok c 1
  else match r with
    | [] => .bad 1 4
    | d :: r => if d.toNat = 34 ∨ d.toNat = 92 then .ok d 2
      else if d.toNat = 110 then .ok 10 2
      else if d.toNat = 120 then hexT r
      else .bad 1 9
theorem itemT_pos {c : UInt8} {r : List UInt8} {b : UInt8} {n : Nat} (h : itemT c r = .ok b n) : 0 < n := by
  unfold itemT at h
  repeat' split at h
  all_goals first
    | (cases h; omega)
    | (cases h; done)
    | (exact hexT_pos h)
/-- Behind the quote that begins a text: acc has been said, n bytes taken. -/
def textGo : Nat → List UInt8 → List UInt8 → Nat → Res
  | 0, _, _, n => .bad n 4
  | k + 1, l, acc, n => match l with
    | [] => .bad n 4
    | c :: r => if c.toNat = 34 then .ok 3 acc 0 (n + 1)
      else match itemT c r with
        | .bad i e => .bad (n + i) e
        | .ok b i => if acc.length = 4095 then .bad 0 2 else textGo k ((c :: r).drop i) (acc ++ [b]) (n + i)
theorem textGo_fuel : ∀ (k m : Nat) (l acc : List UInt8) (n : Nat), l.length < k → l.length < m → textGo k l acc n = textGo m l acc n
  | 0, _, _, _, _, h, _ => by omega
  | _ + 1, 0, _, _, _, _, h => by omega
  | k + 1, m + 1, l, acc, n, hk, hm => by
    unfold textGo
    match l with
    | [] => rfl
    | c :: r =>
      dsimp only
      split
      · rfl
      · cases hi : itemT c r with
        | bad i e => rfl
        | ok b i =>
          dsimp only
          split
          · rfl
          · have := itemT_pos hi
            have hl : ((c :: r).drop i).length < (c :: r).length := by rw [List.length_drop]; simp; omega
            simp only [List.length_cons] at *
            exact textGo_fuel k m _ _ _ (by omega) (by omega)
def textR (l acc : List UInt8) (n : Nat) : Res := textGo (l.length + 1) l acc n
theorem textR_nil (acc : List UInt8) (n : Nat) : textR [] acc n = .bad n 4 := rfl
theorem textR_end {c : UInt8} (r acc : List UInt8) (n : Nat) (h : c.toNat = 34) : textR (c :: r) acc n = .ok 3 acc 0 (n + 1) := by
  unfold textR textGo
  simp only
  rw [if_pos h]
theorem textR_bad {c : UInt8} {r : List UInt8} {i e : Nat} (acc : List UInt8) (n : Nat) (h : c.toNat ≠ 34) (hi : itemT c r = .bad i e) : textR (c :: r) acc n = .bad (n + i) e := by
  unfold textR textGo
  simp only
  rw [if_neg h, hi]
theorem textR_long {c b : UInt8} {r : List UInt8} {i : Nat} {acc : List UInt8} (n : Nat) (h : c.toNat ≠ 34) (hi : itemT c r = .ok b i) (hl : acc.length = 4095) : textR (c :: r) acc n = .bad 0 2 := by
  unfold textR textGo
  simp only
  rw [if_neg h, hi]
  simp only
  rw [if_pos hl]
theorem textR_more {c b : UInt8} {r : List UInt8} {i : Nat} {acc : List UInt8} (n : Nat) (h : c.toNat ≠ 34) (hi : itemT c r = .ok b i) (hl : acc.length ≠ 4095) : textR (c :: r) acc n = textR ((c :: r).drop i) (acc ++ [b]) (n + i) := by
  unfold textR
  conv => lhs; unfold textGo
  simp only
  rw [if_neg h, hi]
  simp only
  rw [if_neg hl]
  have := itemT_pos hi
  exact textGo_fuel _ _ _ _ _ (by rw [List.length_drop]; simp; omega) (by omega)
/-- A text, its quote ahead. -/
def textT (l : List UInt8) : Res := textR (l.drop 1) [] 1

/-- The signs, those of two bytes first. -/
def signs : List (List UInt8) := [[61, 61], [33, 61], [60, 61], [40], [41], [123], [125], [91], [93], [44], [61], [60], [43], [45], [42], [47], [37]]
/-- No token begins here. -/
def noneT : List UInt8 → Res
  | [] => .bad 0 9
  | c :: r => if c.toNat ≠ 33 then .bad 0 9 else if r = [] then .bad 1 4 else .bad 1 9
def signGo : List (List UInt8) → List UInt8 → Res
  | [], l => noneT l
  | s :: ss, l => if s.isPrefixOf l then .ok 4 s 0 s.length else signGo ss l
def signT (l : List UInt8) : Res := signGo signs l

/-- The token that a byte begins, that is no blank and no #. -/
def tokT : List UInt8 → Res
  | [] => .bad 0 9
  | c :: r => if lowC c then wordT (c :: r) else if digC c then numT (c :: r) else if c.toNat = 34 then textT (c :: r) else signT (c :: r)

/-- A token. -/
structure Tk where
  kind : Nat
  text : List UInt8
  num : Nat
  at_ : Nat
  deriving DecidableEq
/-- What All answers. -/
structure Ans where
  toks : List Tk
  at_ : Nat
  code : Nat
  deriving DecidableEq

/-- Behind a #: what is left from the next byte 10 on. -/
def toLine : List UInt8 → List UInt8
  | [] => []
  | c :: l => if c.toNat = 10 then c :: l else toLine l
theorem toLine_le : ∀ l, (toLine l).length ≤ l.length
  | [] => Nat.le_refl _
  | c :: l => by
    unfold toLine
    split
    · exact Nat.le_refl _
    · have := toLine_le l; simp; omega
def allGo : Nat → List UInt8 → Nat → List Tk → Ans
  | 0, _, _, ts => ⟨ts, 0, 0⟩
  | k + 1, l, n, ts => match l with
    | [] => ⟨ts, 0, 0⟩
    | c :: r => if c.toNat = 32 ∨ c.toNat = 10 then allGo k r (n + 1) ts
      else if c.toNat = 35 then allGo k (toLine r) (n + 1 + (r.length - (toLine r).length)) ts
      else match tokT (c :: r) with
        | .bad i e => ⟨[], n + i, e⟩
        | .ok kd tx x i => allGo k ((c :: r).drop i) (n + i) (ts ++ [⟨kd, tx, x, n⟩])
/-- What a token takes. -/
theorem span_pos {p : UInt8 → Bool} {c : UInt8} (r : List UInt8) (h : p c = true) : 0 < span p (c :: r) := by
  unfold span; rw [if_pos h]; omega
theorem low_word {c : UInt8} (h : lowC c = true) : wordC c = true := by simp [wordC, h]
theorem dig_word {c : UInt8} (h : digC c = true) : wordC c = true := by simp [wordC, h]
theorem textGo_pos : ∀ (k : Nat) (l acc : List UInt8) (n : Nat) {kd : Nat} {tx : List UInt8} {x i : Nat}, textGo k l acc n = .ok kd tx x i → n < i
  | 0, _, _, _, _, _, _, _, h => by unfold textGo at h; cases h
  | k + 1, l, acc, n, kd, tx, x, i, h => by
    unfold textGo at h
    match l, h with
    | [], h => cases h
    | c :: r, h =>
      dsimp only at h
      split at h
      · injection h; omega
      · cases hi : itemT c r with
        | bad j e => rw [hi] at h; cases h
        | ok b j =>
          rw [hi] at h
          dsimp only at h
          split at h
          · cases h
          · have := textGo_pos k _ _ _ h; omega
theorem noneT_bad (l : List UInt8) {kd : Nat} {tx : List UInt8} {x i : Nat} (h : noneT l = .ok kd tx x i) : False := by
  unfold noneT at h
  repeat' split at h
  all_goals cases h
theorem signGo_pos : ∀ (ss : List (List UInt8)) (l : List UInt8) {kd : Nat} {tx : List UInt8} {x i : Nat}, (∀ s ∈ ss, 0 < s.length) → signGo ss l = .ok kd tx x i → 0 < i
  | [], l, _, _, _, _, _, h => (noneT_bad l h).elim
  | s :: ss, l, _, _, _, _, hs, h => by
    unfold signGo at h
    split at h
    · cases h; exact hs s (by simp)
    · exact signGo_pos ss l (fun s hs' => hs s (by simp [hs'])) h
theorem tokT_cons (c : UInt8) (r : List UInt8) : tokT (c :: r) = if lowC c then wordT (c :: r) else if digC c then numT (c :: r) else if c.toNat = 34 then textT (c :: r) else signT (c :: r) := rfl
theorem tokT_pos {c : UInt8} {r : List UInt8} {kd : Nat} {tx : List UInt8} {x i : Nat} (h : tokT (c :: r) = .ok kd tx x i) : 0 < i := by
  rw [tokT_cons] at h
  by_cases h1 : lowC c = true
  · rw [if_pos h1] at h
    unfold wordT at h
    split at h
    · cases h
    · injection h; subst_vars; exact span_pos r (low_word h1)
  · rw [if_neg h1] at h
    by_cases h2 : digC c = true
    · rw [if_pos h2] at h
      unfold numT at h
      have hp : 0 < numN (c :: r) := by
        show 0 < if c.toNat = 48 then 1 else span digC (c :: r)
        split
        · omega
        · exact span_pos r h2
      repeat' split at h
      all_goals first
        | (cases h; exact hp)
        | (cases h)
    · rw [if_neg h2] at h
      by_cases h3 : c.toNat = 34
      · rw [if_pos h3] at h
        have := textGo_pos _ _ _ _ h; omega
      · rw [if_neg h3] at h
        exact signGo_pos signs _ (by decide) h
theorem allGo_fuel : ∀ (k m : Nat) (l : List UInt8) (n : Nat) (ts : List Tk), l.length < k → l.length < m → allGo k l n ts = allGo m l n ts
  | 0, _, _, _, _, h, _ => by omega
  | _ + 1, 0, _, _, _, _, h => by omega
  | k + 1, m + 1, l, n, ts, hk, hm => by
    unfold allGo
    match l with
    | [] => rfl
    | c :: r =>
      simp only [List.length_cons] at hk hm
      dsimp only
      split
      · exact allGo_fuel k m _ _ _ (by omega) (by omega)
      · split
        · have := toLine_le r
          exact allGo_fuel k m _ _ _ (by omega) (by omega)
        · cases hi : tokT (c :: r) with
          | bad i e => rfl
          | ok kd tx x i =>
            have := tokT_pos hi
            dsimp only
            exact allGo_fuel k m _ _ _ (by rw [List.length_drop]; simp; omega) (by rw [List.length_drop]; simp; omega)
def allR (l : List UInt8) (n : Nat) (ts : List Tk) : Ans := allGo (l.length + 1) l n ts
theorem allR_nil (n : Nat) (ts : List Tk) : allR [] n ts = ⟨ts, 0, 0⟩ := rfl
theorem allR_blank {c : UInt8} (r : List UInt8) (n : Nat) (ts : List Tk) (h : c.toNat = 32 ∨ c.toNat = 10) : allR (c :: r) n ts = allR r (n + 1) ts := by
  unfold allR
  conv => lhs; unfold allGo
  dsimp only
  rw [if_pos h]
  exact allGo_fuel _ _ _ _ _ (by simp) (by omega)
theorem allR_remark {c : UInt8} (r : List UInt8) (n : Nat) (ts : List Tk) (h : c.toNat = 35) : allR (c :: r) n ts = allR (toLine r) (n + 1 + (r.length - (toLine r).length)) ts := by
  unfold allR
  conv => lhs; unfold allGo
  dsimp only
  rw [if_neg (by omega), if_pos h]
  have := toLine_le r
  exact allGo_fuel _ _ _ _ _ (by simp; omega) (by omega)
theorem allR_bad {c : UInt8} {r : List UInt8} {i e : Nat} (n : Nat) (ts : List Tk) (h1 : ¬ (c.toNat = 32 ∨ c.toNat = 10)) (h2 : c.toNat ≠ 35) (h : tokT (c :: r) = .bad i e) : allR (c :: r) n ts = ⟨[], n + i, e⟩ := by
  unfold allR allGo
  dsimp only
  rw [if_neg h1, if_neg h2, h]
theorem allR_tok {c : UInt8} {r : List UInt8} {kd : Nat} {tx : List UInt8} {x i : Nat} (n : Nat) (ts : List Tk) (h1 : ¬ (c.toNat = 32 ∨ c.toNat = 10)) (h2 : c.toNat ≠ 35) (h : tokT (c :: r) = .ok kd tx x i) : allR (c :: r) n ts = allR ((c :: r).drop i) (n + i) (ts ++ [⟨kd, tx, x, n⟩]) := by
  unfold allR
  conv => lhs; unfold allGo
  dsimp only
  rw [if_neg h1, if_neg h2, h]
  dsimp only
  have := tokT_pos h
  exact allGo_fuel _ _ _ _ _ (by rw [List.length_drop]; simp; omega) (by omega)
/-- A source's tokens, or its first fault. -/
def allT (s : List UInt8) : Ans := if 16384 < s.length then ⟨[], 0, 2⟩ else allR s 0 []
end Go.Proofs.YtkmhdhnoghbkgaaGreatDoor.Tok
/- Plain facts on numbers that are held within 64 bits: no program stands in them, no condition. -/
namespace Go.Proofs.YtkmhdhnoghbkgaaGreatDoor
open Go.RowKit

/-- A whole number of any size, held. -/
def held (x : Int) : Int := if x < -9223372036854775808 then -9223372036854775808 else if 9223372036854775807 < x then 9223372036854775807 else x

theorem held_lo {x : Int} (h : x < -9223372036854775808) : held x = -9223372036854775808 := by unfold held; rw [if_pos h]
theorem held_hi {x : Int} (h : 9223372036854775807 < x) : held x = 9223372036854775807 := by unfold held; rw [if_neg (by omega), if_pos h]
theorem held_in {x : Int} (h1 : -9223372036854775808 ≤ x) (h2 : x ≤ 9223372036854775807) : held x = x := by unfold held; rw [if_neg (by omega), if_neg (by omega)]
theorem held_range (x : Int) : -9223372036854775808 ≤ held x ∧ held x ≤ 9223372036854775807 := by unfold held; split <;> (try split) <;> omega

/-- A number is of 64 bits, with a sign. -/
def I64 (x : Int) : Prop := -9223372036854775808 ≤ x ∧ x ≤ 9223372036854775807
/-- A number is of 64 bits, without a sign. -/
def U64 (x : Int) : Prop := 0 ≤ x ∧ x ≤ 18446744073709551615

theorem i64_of_wf {a : Int} (h : (Lit.int .i64 a).wf = true) : I64 a := by
  simp [Lit.wf, IntKind.min, IntKind.max, IntKind.signed, IntKind.bits] at h
  exact h
theorem ret_int {k : IntKind} {a b : Int} (h : a = b) : Ending.returned (.int k a) = .returned (.int k b) := by rw [h]
theorem ret_bool {a b : Bool} (h : a = b) : Ending.returned (.bool a) = .returned (.bool b) := by rw [h]

theorem exHid {α : Sort _} (x : α) : ∃ s, Hid (x = s) := ⟨x, rfl⟩
theorem below_next {w W w' : World} (h : Below w.heap.size w W) (hb : Below W.heap.size W w') : Below w.heap.size w w' := h.trans (hb.mono h.size)

/-- What lay below reads as it did: two rules for the walk. -/
theorem below_cells {W W' : World} (hb : Below W.heap.size W W') :
    (∀ b o, b < W.heap.size → W'.cell? ⟨b, o, none⟩ = W.cell? ⟨b, o, none⟩) ∧ (∀ b o, b < W.heap.size → W'.frozen? ⟨b, o, none⟩ = W.frozen? ⟨b, o, none⟩) :=
  ⟨fun b o h => hb.cell (p := ⟨b, o, none⟩) h, fun b o h => hb.frozen (p := ⟨b, o, none⟩) h⟩

/-- A block that was laid reads on as it was laid, behind a call that keeps it and behind one new block more. -/
theorem cell_kept {w1 w2 : World} {c : Array Value} {t : TypeId} (hb : Below (w1.alloc (.cells c t)).heap.size (w1.alloc (.cells c t)) w2) (o2 : Obj) (j : Nat) :
    (w2.alloc o2).cell? ⟨w1.heap.size, j, none⟩ = c[j]? := by
  have h0 : w1.heap.size < (w1.alloc (.cells c t)).heap.size := by simp
  have h1 : (w2.alloc o2).heap[w1.heap.size]? = w2.heap[w1.heap.size]? := Below.heap_alloc w2 o2 _ (Nat.lt_of_lt_of_le h0 hb.size)
  have h2 : (w2.alloc o2).heap[w1.heap.size]? = (w1.alloc (.cells c t)).heap[w1.heap.size]? := h1.trans (hb.block _ h0)
  rw [World.cell?_of_block (w := w1.alloc (.cells c t)) (a := ⟨w1.heap.size, j, none⟩) h2, World.cell?_alloc_new]

theorem wrap64_eq (x : Int) : ∃ t : Int, wrap64 x = x - t * 18446744073709551616 := by
  refine ⟨(x + 9223372036854775808) / 18446744073709551616, ?_⟩
  simp only [wrap64]
  omega
theorem wrap64_range (x : Int) : -9223372036854775808 ≤ wrap64 x ∧ wrap64 x ≤ 9223372036854775807 := by
  simp only [wrap64]
  omega

/-- What is moved up and, moved down again, is what it was, has not wrapped: at most 63 places. -/
theorem moved_back {a : Int} {m : Nat} (hm : m ≤ 63) (h : wrap64 (a * 2 ^ m) / 2 ^ m = a) : wrap64 (a * 2 ^ m) = a * 2 ^ m := by
  obtain ⟨t, ht⟩ := wrap64_eq (a * 2 ^ m)
  have hq : (0 : Int) < 2 ^ m := Int.pow_pos (by decide)
  have h64 : (18446744073709551616 : Int) = 2 ^ m * 2 ^ (64 - m) := by
    rw [← Int.pow_add, show m + (64 - m) = 64 by omega]; decide
  have e : wrap64 (a * 2 ^ m) = 2 ^ m * (a - t * 2 ^ (64 - m)) := by
    rw [ht, h64, Int.mul_sub, Int.mul_comm a, ← Int.mul_assoc, ← Int.mul_assoc, Int.mul_comm t]
  rw [e, Int.mul_ediv_cancel_left _ (by omega)] at h
  rw [e, h, Int.mul_comm]

theorem pow_big {m : Nat} (h : 64 ≤ m) : (18446744073709551616 : Int) ≤ 2 ^ m := by
  have h1 : (2 : Nat) ^ 64 ≤ 2 ^ m := Nat.pow_le_pow_right (by decide) h
  have h2 : ((2 ^ m : Nat) : Int) = 2 ^ m := by simp
  rw [← h2]
  have h3 : (2 : Nat) ^ 64 = 18446744073709551616 := by decide
  omega

theorem held_big {a : Int} {q : Int} (hq : 18446744073709551616 ≤ q) : held (a * q) = if a < 0 then -9223372036854775808 else if a = 0 then 0 else 9223372036854775807 := by
  by_cases h1 : a < 0
  · rw [if_pos h1]
    have : a * q ≤ -1 * q := Int.mul_le_mul_of_nonneg_right (by omega) (by omega)
    rw [held_lo (by omega)]
  · rw [if_neg h1]
    by_cases h2 : a = 0
    · rw [if_pos h2, h2, Int.zero_mul]; rfl
    · rw [if_neg h2]
      have : 1 * q ≤ a * q := Int.mul_le_mul_of_nonneg_right (by omega) (by omega)
      rw [held_hi (by omega)]

theorem shifted_yes {a : Int} {m : Nat} (h : wrap64 (a * 2 ^ min m 64) / 2 ^ min m 64 = a) : held (a * 2 ^ m) = wrap64 (a * 2 ^ min m 64) := by
  by_cases hm : m ≤ 63
  · rw [show min m 64 = m by omega] at h ⊢
    have e := moved_back hm h
    have r := wrap64_range (a * 2 ^ m)
    rw [e] at r ⊢
    exact held_in r.1 r.2
  · rw [show min m 64 = 64 by omega] at h ⊢
    have z : wrap64 (a * 2 ^ 64) = 0 := by
      have : (2 : Int) ^ 64 = 18446744073709551616 := by decide
      simp only [wrap64, this]
      omega
    rw [z] at h ⊢
    have : a = 0 := by rw [← h]; decide
    rw [held_big (pow_big (by omega)), if_neg (by omega), if_pos this]

theorem shifted_no {a : Int} {m : Nat} (ha : I64 a) (h : wrap64 (a * 2 ^ min m 64) / 2 ^ min m 64 ≠ a) : held (a * 2 ^ m) = if a < 0 then -9223372036854775808 else 9223372036854775807 := by
  have hne : a ≠ 0 := by
    rintro rfl
    apply h
    rw [Int.zero_mul]
    have : wrap64 0 = 0 := by simp only [wrap64]; omega
    rw [this, Int.zero_ediv]
  by_cases hm : m ≤ 63
  · rw [show min m 64 = m by omega] at h
    have hq : (0 : Int) < 2 ^ m := Int.pow_pos (by decide)
    by_cases h1 : a * 2 ^ m < -9223372036854775808
    · rw [held_lo h1]
      have : a < 0 := by
        apply Int.not_le.1
        intro h2
        have := Int.mul_nonneg h2 (Int.le_of_lt hq)
        omega
      rw [if_pos this]
    · by_cases h2 : 9223372036854775807 < a * 2 ^ m
      · rw [held_hi h2]
        have : ¬ a < 0 := by
          intro h3
          have := Int.mul_nonpos_of_nonpos_of_nonneg (Int.le_of_lt h3) (Int.le_of_lt hq)
          omega
        rw [if_neg this]
      · exfalso
        apply h
        have e : wrap64 (a * 2 ^ m) = a * 2 ^ m := IntWalk.wrap64_in _ ⟨by omega, by omega⟩
        rw [e, Int.mul_ediv_cancel _ (by omega)]
  · rw [held_big (pow_big (by omega)), if_neg hne]

end Go.Proofs.YtkmhdhnoghbkgaaGreatDoor
/- The language's words (layer 7): token.Keyword (cut out of TWords, which holds the law TokenWords too). No condition. -/
namespace Go.Proofs.YtkmhdhnoghbkgaaGreatDoor
open Go.RowKit

/-- The words, as bytes. -/
def kwL : List (List UInt8) := [
  [102, 108, 111, 119],
  [108, 101, 116],
  [105, 102],
  [101, 108, 115, 101],
  [119, 104, 105, 108, 101],
  [114, 101, 116, 117, 114, 110],
  [102, 97, 105, 108],
  [115, 108, 101, 101, 112],
  [100, 111],
  [110, 111, 110, 101],
  [116, 114, 117, 101],
  [102, 97, 108, 115, 101],
  [111, 114],
  [97, 110, 100],
  [110, 111, 116],
  [108, 101, 110],
  [110, 117, 109],
  [114, 101],
  [105, 109],
  [99, 111, 110, 106],
  [99, 97, 108, 108],
  [99, 104, 105, 108, 100],
  [116, 105, 109, 101, 114],
  [102, 111, 114, 107],
  [97, 119, 97, 105, 116],
  [115, 101, 116, 116, 108, 101],
  [116, 97, 107, 101],
  [118, 101, 114, 115, 105, 111, 110]]
def kwAt (i : Nat) : ByteArray := ⟨(kwL.getD i []).toArray⟩
def kwB (l : List UInt8) : Bool := kwL.any fun k => l == k

set_option maxRecDepth 20000 in
set_option maxHeartbeats 2000000 in
theorem keyword_any (s : ByteArray) (w : World) :
    Calls Tryz.prog 85 #[.string s] w fun e w' => e = .returned (.bool (kwB s.toList)) ∧ w = w' := by
  go_enter Tryz.func85, Tryz.ntmps85
  go_wp2
  all_goals first
    | (exfalso; simp_all; done)
    | (go_ret; exact ⟨ret_bool (by simp [kwB, kwL, *]), rfl⟩)

end Go.Proofs.YtkmhdhnoghbkgaaGreatDoor
/- What a call may have turned: 'Only F w w'': of what was there, the blocks in F alone; and lists of structs laid out in cells. No program stands in it, no condition. -/
namespace Go.Proofs.YtkmhdhnoghbkgaaGreatDoor
open Go.RowKit

/-- Of the blocks that were there, those in F alone may have turned; new ones may be there. -/
structure Only (F : Nat → Prop) (w w' : World) : Prop where
  os : w'.os = w.os
  tape : w'.tape = w.tape
  output : w'.output = w.output
  size : w.heap.size ≤ w'.heap.size
  block : ∀ k, k < w.heap.size → ¬ F k → w'.heap[k]? = w.heap[k]?

theorem Only.refl (F : Nat → Prop) (w : World) : Only F w w := ⟨rfl, rfl, rfl, Nat.le_refl _, fun _ _ _ => rfl⟩
theorem Only.mono {F G : Nat → Prop} {w w' : World} (h : Only F w w') (hFG : ∀ k, k < w.heap.size → F k → G k) : Only G w w' :=
  ⟨h.os, h.tape, h.output, h.size, fun k hk hn => h.block k hk (fun hf => hn (hFG k hk hf))⟩
theorem Only.trans {F G K : Nat → Prop} {a b c : World} (h : Only F a b) (g : Only G b c) (hF : ∀ k, k < a.heap.size → F k → K k) (hG : ∀ k, k < a.heap.size → G k → K k) : Only K a c :=
  ⟨g.os.trans h.os, g.tape.trans h.tape, g.output.trans h.output, Nat.le_trans h.size g.size, fun k hk hn =>
    (g.block k (Nat.lt_of_lt_of_le hk h.size) (fun e => hn (hG k hk e))).trans (h.block k hk (fun e => hn (hF k hk e)))⟩
theorem Only.then {F : Nat → Prop} {a b c : World} (h : Only F a b) (g : Only F b c) : Only F a c := h.trans g (fun _ _ e => e) (fun _ _ e => e)
theorem Only.drew {F : Nat → Prop} {a w : World} (h : Only F a w) : Only F a w.drew := ⟨h.os, h.tape, h.output, h.size, h.block⟩
theorem Only.drew0 {F : Nat → Prop} {a w : World} (h : Only F a.drew w) : Only F a w := ⟨h.os, h.tape, h.output, h.size, h.block⟩
theorem Only.of_below {F : Nat → Prop} {w w' : World} (h : Below w.heap.size w w') : Only F w w' := ⟨h.os, h.tape, h.output, h.size, fun k hk _ => h.block k hk⟩
theorem Only.of_grown {F : Nat → Prop} {w w' : World} {row : Option Nat} (h : w.grownBy w' row) (hr : ∀ k, row = some k → F k) : Only F w w' :=
  ⟨h.os, h.tape, h.output, h.size, fun k hk hn => h.block k hk (fun e => hn (hr k e.symm))⟩
theorem Only.alloc {F : Nat → Prop} {a w : World} (h : Only F a w) (o : Obj) : Only F a (w.alloc o) :=
  h.then ⟨rfl, rfl, rfl, by simp, fun k hk _ => Below.heap_alloc _ _ _ hk⟩
theorem Only.setCell {F : Nat → Prop} {a w : World} (h : Only F a w) {p : Addr} (hp : F p.block ∨ a.heap.size ≤ p.block) (u : Value) : Only F a (w.setCell p u) :=
  ⟨h.os, h.tape, h.output, Nat.le_trans h.size (by simp [World.setCell]), fun k hk hn => (Below.heap_setCell _ _ _ _ (by intro e; subst e; rcases hp with hp | hp; exact hn hp; omega)).trans (h.block k hk hn)⟩
theorem Only.below {F : Nat → Prop} {B : Nat} {w w' : World} (h : Only F w w') (hB : B ≤ w.heap.size) (hF : ∀ k, k < B → ¬ F k) : Below B w w' :=
  ⟨h.os, h.tape, h.output, h.size, fun k hk => h.block k (by omega) (hF k hk)⟩
theorem Only.cell {F : Nat → Prop} {w w' : World} (h : Only F w w') {p : Addr} (hp : p.block < w.heap.size) (hn : ¬ F p.block) : w'.cell? p = w.cell? p := World.cell?_of_block (w := w) (h.block p.block hp hn)

theorem below_drew {w w' : World} (hb : Below w.drew.heap.size w.drew w') : Below w.heap.size w w' := ⟨hb.os, hb.tape, hb.output, hb.size, hb.block⟩
theorem Below.keeps {w w' : World} (h : Below w.heap.size w w') {p : Addr} {v : Value} (hc : w.cell? p = some v) : w'.cell? p = some v :=
  (h.cell (World.block_lt_of_cell? w p hc)).trans hc

/-! ### structs in a row -/
section
variable {α : Type}
/-- The cells of a list of structs, one behind the other. -/
def rowOf (enc : α → List Value) : List α → List Value
  | [] => []
  | x :: r => enc x ++ rowOf enc r

theorem rowOf_append (enc : α → List Value) : ∀ (a b : List α), rowOf enc (a ++ b) = rowOf enc a ++ rowOf enc b
  | [], _ => rfl
  | x :: r, b => by show enc x ++ rowOf enc (r ++ b) = (enc x ++ rowOf enc r) ++ rowOf enc b; rw [rowOf_append enc r b, List.append_assoc]
theorem rowOf_snoc (enc : α → List Value) (a : List α) (x : α) : rowOf enc (a ++ [x]) = rowOf enc a ++ enc x := by
  rw [rowOf_append]; show _ ++ (enc x ++ []) = _; rw [List.append_nil]
theorem rowOf_length {enc : α → List Value} {k : Nat} (hk : ∀ x, (enc x).length = k) : ∀ d : List α, (rowOf enc d).length = d.length * k
  | [] => by simp [rowOf]
  | x :: r => by show (enc x ++ rowOf enc r).length = _; rw [List.length_append, hk, rowOf_length hk r, List.length_cons, Nat.add_mul]; omega
theorem rowOf_get {enc : α → List Value} {k : Nat} (hk : ∀ x, (enc x).length = k) : ∀ (d : List α) (i j : Nat) (hi : i < d.length), j < k → (rowOf enc d)[i * k + j]? = (enc d[i])[j]?
  | [], i, _, hi, _ => by simp at hi
  | x :: r, 0, j, _, hj => by
    show (enc x ++ rowOf enc r)[0 * k + j]? = _
    rw [List.getElem?_append_left (by rw [hk]; omega)]
    simp
  | x :: r, i + 1, j, hi, hj => by
    show (enc x ++ rowOf enc r)[(i + 1) * k + j]? = _
    rw [List.getElem?_append_right (by rw [hk, Nat.add_mul]; omega), hk]
    have := rowOf_get hk r i j (by simpa using hi) hj
    rw [show (i + 1) * k + j - k = i * k + j by rw [Nat.add_mul]; omega, this]
    simp
theorem rowOf_take {enc : α → List Value} {k : Nat} (hk : ∀ x, (enc x).length = k) : ∀ (d : List α) (n : Nat), n ≤ d.length → (rowOf enc d).take (n * k) = rowOf enc (d.take n)
  | [], n, hn => by simp [rowOf]
  | x :: r, 0, _ => by simp [rowOf]
  | x :: r, n + 1, hn => by
    show (enc x ++ rowOf enc r).take ((n + 1) * k) = enc x ++ rowOf enc (r.take n)
    have h1 : (enc x).length = k := hk x
    rw [List.take_append, h1, List.take_of_length_le (by rw [h1, Nat.add_mul]; omega), show (n + 1) * k - k = n * k by rw [Nat.add_mul]; omega, rowOf_take hk r n (by simpa using hn)]
theorem rowOf_set3 {enc : α → List Value} (hk : ∀ x, (enc x).length = 3) (d : List α) (i : Nat) (hi : i < d.length) (x : α) {a b c : Value} (he : enc x = [a, b, c]) :
    (((rowOf enc d).set (i * 3) a).set (i * 3 + 1) b).set (i * 3 + 2) c = rowOf enc (d.set i x) := by
  apply List.ext_getElem?
  intro p
  have hlen : (rowOf enc d).length = d.length * 3 := rowOf_length hk d
  have hlen2 : (rowOf enc (d.set i x)).length = d.length * 3 := by rw [rowOf_length hk]; simp
  by_cases hp : p < d.length * 3
  · have hq : p / 3 < d.length := by omega
    have e0 := rowOf_get hk d (p / 3) (p % 3) hq (by omega)
    have e1 := rowOf_get hk (d.set i x) (p / 3) (p % 3) (by simpa using hq) (by omega)
    rw [show p / 3 * 3 + p % 3 = p by omega] at e0 e1
    rw [e1]
    simp only [List.getElem?_set, List.length_set, hlen]
    by_cases hpi : p / 3 = i
    · have : (d.set i x)[p / 3]'(by simpa using hq) = x := by subst hpi; simp
      rw [this, he]
      by_cases j0 : p = i * 3
      · have h0 : p % 3 = 0 := by omega
        rw [if_neg (by omega), if_neg (by omega), if_pos (by omega), if_pos (by omega), h0]; rfl
      · by_cases j1 : p = i * 3 + 1
        · have h0 : p % 3 = 1 := by omega
          rw [if_neg (by omega), if_pos (by omega), if_pos (by omega), h0]; rfl
        · have h0 : p % 3 = 2 := by omega
          rw [if_pos (by omega), if_pos (by omega), h0]; rfl
    · have : (d.set i x)[p / 3]'(by simpa using hq) = d[p / 3] := by rw [List.getElem_set_ne (fun e => hpi e.symm)]
      rw [this, if_neg (by omega), if_neg (by omega), if_neg (by omega), e0]
  · rw [List.getElem?_eq_none (by simp; omega), List.getElem?_eq_none (by omega)]
end

section
variable {w : World} {base : Nat} {e : TypeId} {k g cap : Nat}
/-- A row of the call's own, resliced to fewer. -/
theorem ownsRow_cut {n m : Nat} {xs : List Value} (h : w.ownsRow base e k (.slice (some ⟨g, 0, none⟩) n cap) n xs) (hm : m ≤ n) :
    w.ownsRow base e k (.slice (some ⟨g, 0, none⟩) m cap) m (xs.take (m * k)) := by
  obtain ⟨h1, h2⟩ := h
  rcases h2 with ⟨h', _⟩ | ⟨g', cap', cur, h', hb, hg, hnc, hcm, hcs, htake⟩
  · simp at h'
  · simp only [Value.slice.injEq, Option.some.injEq, Addr.mk.injEq, and_true, true_and] at h'
    obtain ⟨rfl, rfl⟩ := h'
    have hmk : m * k ≤ n * k := Nat.mul_le_mul_right k hm
    refine ⟨by rw [List.length_take, h1]; omega, .inr ⟨g, cap, cur, rfl, hb, hg, by omega, hcm, hcs, ?_⟩⟩
    rw [← htake, List.take_take, Nat.min_eq_left hmk]

/-- A row of the call's own that is not empty: its head. -/
theorem ownsRow_head {n : Nat} {v : Value} {xs : List Value} (h : w.ownsRow base e k v n xs) (hn : 1 ≤ n) :
    ∃ g cap, v = .slice (some ⟨g, 0, none⟩) n cap ∧ base ≤ g ∧ g < w.heap.size ∧ n ≤ cap ∧ cap ≤ 9223372036854775807 ∧ ∃ cur, w.heap[g]? = some (.cells cur e (0, 0)) ∧ cur.size = cap * k := by
  obtain ⟨_, hcase⟩ := h
  rcases hcase with ⟨_, h0⟩ | ⟨g, cap, cur, hv, hg, hh, hnc, hcm, hsz, _⟩
  · omega
  · exact ⟨g, cap, hv, hg, (Array.getElem?_eq_some_iff.1 hh).1, hnc, hcm, cur, hh, hsz⟩
theorem ownsRow_shape {n : Nat} {v : Value} {xs : List Value} (h : w.ownsRow base e k v n xs) : ∃ a cap, v = .slice a n cap ∧ n ≤ cap ∧ cap ≤ 9223372036854775807 := by
  obtain ⟨_, hcase⟩ := h
  rcases hcase with ⟨hv, h0⟩ | ⟨g, cap, cur, hv, hg, hh, hnc, hcm, hsz, _⟩
  · subst h0; exact ⟨_, _, hv, by omega, by omega⟩
  · exact ⟨_, _, hv, hnc, hcm⟩
theorem ownsRow_only {F : Nat → Prop} {w' : World} {v : Value} {n : Nat} {xs : List Value} (h : w.ownsRow base e k v n xs) (ho : Only F w w') (hne : ∀ g, v.ownBlock = some g → ¬ F g) : w'.ownsRow base e k v n xs := by
  refine ⟨h.1, ?_⟩
  rcases h.2 with hn | ⟨g, cap, cur, rfl, hb, hgg, rest⟩
  · exact .inl hn
  · exact .inr ⟨g, cap, cur, rfl, hb, (ho.block g (Array.getElem?_eq_some_iff.1 hgg).1 (hne g rfl)).trans hgg, rest⟩
theorem ownsRow_base {base' : Nat} {v : Value} {n : Nat} {xs : List Value} (h : w.ownsRow base e k v n xs) (hb : ∀ g, v.ownBlock = some g → base' ≤ g) : w.ownsRow base' e k v n xs := by
  refine ⟨h.1, ?_⟩
  rcases h.2 with hn | ⟨g, cap, cur, rfl, _, rest⟩
  · exact .inl hn
  · exact .inr ⟨g, cap, cur, rfl, hb g rfl, rest⟩
end
end Go.Proofs.YtkmhdhnoghbkgaaGreatDoor
/- A map with keys of one byte that the call itself made, told as the list of its pairs, whatever the elements are: no program stands in it, no condition. -/
namespace Go.Proofs.YtkmhdhnoghbkgaaGreatDoor
open Go.RowKit Go.MapKept

/-- What the first pair of that key says. -/
def lookL : List (Nat × Value) → Nat → Option Value
  | [], _ => none
  | p :: r, k => if p.1 = k then some p.2 else lookL r k
/-- Block b is a map with these pairs, in the order in which they came. -/
def KMap (w : World) (b : Nat) (L : List (Nat × Value)) : Prop :=
  ∃ es clock, w.heap[b]? = some (.map es clock) ∧ es.toList.map (fun e => (e.key, e.val)) = L.map fun p => (Value.int .u8 (p.1 : Int), p.2)
theorem find_look (k : Nat) : ∀ (es : List MapEntry) (L : List (Nat × Value)) (i : Nat), es.map (fun e => (e.key, e.val)) = L.map (fun p => (Value.int .u8 (p.1 : Int), p.2)) →
    match lookL L k with
    | none => Instr.findNow (.int .u8) (.int .u8 (k : Int)) es i = some none
    | some v => ∃ j, Instr.findNow (.int .u8) (.int .u8 (k : Int)) es i = some (some (j, v))
  | [], [], _, _ => rfl
  | [], _ :: _, _, h => by simp at h
  | _ :: _, [], _, h => by simp at h
  | e :: es, p :: L, i, h => by
    simp only [List.map_cons, List.cons.injEq, Prod.mk.injEq] at h
    obtain ⟨⟨hk, hv⟩, hr⟩ := h
    have ih := find_look k es L (i + 1) hr
    unfold lookL
    by_cases hp : p.1 = k
    · rw [if_pos hp]
      refine ⟨i, ?_⟩
      simp [Instr.findNow, Instr.sameNow, hk, hv, hp]
    · rw [if_neg hp]
      have hne : ((k : Int) == (p.1 : Int)) = false := beq_eq_false_iff_ne.2 (by omega)
      simp only [Instr.findNow, Instr.sameNow, hk, hne]
      exact ih
section
variable {P : Program} {w : World} {b : Nat} {L : List (Nat × Value)}
theorem KMap.made (w : World) : KMap (w.alloc (.map #[] 0)) w.heap.size [] := ⟨#[], 0, heap_alloc_new w _, rfl⟩
theorem KMap.lt (h : KMap w b L) : b < w.heap.size := by obtain ⟨es, c, h, _⟩ := h; exact (Array.getElem?_eq_some_iff.1 h).1
theorem KMap.below {W : World} {B : Nat} (h : KMap w b L) (hb : Below B w W) (hB : b < B) : KMap W b L := by
  obtain ⟨es, c, h1, h2⟩ := h
  exact ⟨es, c, (hb.block b hB).trans h1, h2⟩
theorem KMap.only {W : World} {F : Nat → Prop} (h : KMap w b L) (ho : Only F w W) (hF : ¬ F b) : KMap W b L := by
  obtain ⟨es, c, h1, h2⟩ := h
  exact ⟨es, c, (ho.block b (Array.getElem?_eq_some_iff.1 h1).1 hF).trans h1, h2⟩
/-- 'v, ok := m[x]'. -/
theorem KMap.look {k e t : TypeId} {z : Value} (h : KMap w b L) (hk : P.underlying k = some (.int .u8)) (ht : P.underlying t = some (.map k e)) (hz : (zeroValue e).run P w = .ok z w) (x : Nat) :
    (Instr.lookup t (.map (some b)) (.int .u8 (x : Int)) true).run P w = .ok (.tuple #[(lookL L x).getD z, .bool (lookL L x).isSome]) w := by
  obtain ⟨es, clock, hb, he⟩ := h
  have hf := find_look x es.toList L 0 he
  have hc := fun e => Go.MapKept.run_checkKey (P := P) (w := w) (k := .int .u8 (x : Int)) hk (by simp [IsKey]) e 9999
  cases hl : lookL L x with
  | none =>
    rw [hl] at hf
    have h2 := Go.MapKept.run_findKey (w := w) hk hf
    simp [Instr.lookup, run_underlying ht, Go.MapKept.run_getObj_map hb, hc, h2, hz, Result.andThen]
  | some v =>
    rw [hl] at hf
    obtain ⟨j, hf⟩ := hf
    have h2 := Go.MapKept.run_findKey (w := w) hk hf
    simp [Instr.lookup, run_underlying ht, Go.MapKept.run_getObj_map hb, hc, h2, Result.andThen]
/-- 'm[x] = v' of a new key. -/
theorem KMap.put {k e t : TypeId} (h : KMap w b L) (hk : P.underlying k = some (.int .u8)) (ht : P.underlying t = some (.map k e)) (x : Nat) (v : Value) (hn : lookL L x = none) :
    ∃ w', (Instr.mapUpdate t (.map (some b)) (.int .u8 (x : Int)) v).run P w = .ok () w' ∧ KMap w' b (L ++ [(x, v)]) ∧ Only (fun k => k = b) w w' := by
  obtain ⟨es, clock, hb, he⟩ := h
  have hf := find_look x es.toList L 0 he
  rw [hn] at hf
  have hc := fun e => Go.MapKept.run_checkKey (P := P) (w := w) (k := .int .u8 (x : Int)) hk (by simp [IsKey]) e 9999
  have h2 := Go.MapKept.run_findKey (w := w) hk hf
  have hlt := (Array.getElem?_eq_some_iff.1 hb).1
  refine ⟨_, by simp [Instr.mapUpdate, run_underlying ht, Go.MapKept.run_getObj_map hb, hc, h2, Go.MapKept.run_setObj_map _ hb, Result.andThen]; rfl, ⟨es.push { key := .int .u8 (x : Int), val := v, born := clock }, clock + 1, ?_, ?_⟩, ?_⟩
  · simp [hlt]
  · simp [he]
  · exact ⟨rfl, rfl, rfl, by simp, fun j hj hne => by simp [Ne.symm hne]⟩
end
/-! ### at the operation, for the walk -/
section
variable {P : Program} {w : World} {ops : Array Oper} {rest : List Oper} {o : Oper} {a : Act} {Q : Exit → Act → World → Prop} {b : Nat} {L : List (Nat × Value)}
theorem wpList_put_k (hg : o.guard = none) (m x v : Operand) (t k e : TypeId) (hop : o.op = Op.mapUpdate t m x v ∨ o.op = Op.insert t m x v)
    (hk : P.underlying k = some (.int .u8)) (ht : P.underlying t = some (.map k e)) (h : KMap w b L) (key : Nat) (u : Value) (hm : a.eval m = .map (some b)) (hx : a.eval x = .int .u8 (key : Int)) (hv : a.eval v = u) (hn : lookL L key = none)
    (hK : ∀ w', KMap w' b (L ++ [(key, u)]) → Only (fun k => k = b) w w' → wpList P ops Q rest (a.put o.dst undef) w') :
    wpList P ops Q (o :: rest) a w := by
  refine wpList_plain hg fun K' hK' => ?_
  obtain ⟨w', hrun, r1, r2⟩ := h.put hk ht key u hn
  unfold Oper.wp
  rcases hop with hop | hop
  all_goals
    simp [execOp, hop, hm, hx, hv, hrun, Result.andThen]
    exact hK' _ _ (hK w' r1 r2)
end
end Go.Proofs.YtkmhdhnoghbkgaaGreatDoor
