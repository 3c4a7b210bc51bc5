/- Plain: a source as tokens (layer 7), on lists of bytes. No program stands in it, no condition. -/
import Derived.WalkKit
namespace Go.Proofs.YtmgbebpkkidooaaDoor.Tok

def lowC (c : UInt8) : Bool := decide (97 ≤ c.toNat ∧ c.toNat ≤ 122)
def digC (c : UInt8) : Bool := decide (48 ≤ c.toNat ∧ c.toNat ≤ 57)
/-- A word goes on. -/
def wordC (c : UInt8) : Bool := lowC c || digC c || decide (c.toNat = 95)
/-- A byte may stand in a text. -/
def plainC (c : UInt8) : Bool := decide (32 ≤ c.toNat ∧ c.toNat ≤ 126)
/-- How many bytes at the beginning are such. -/
def span (p : UInt8 → Bool) : List UInt8 → Nat
  | [] => 0
  | c :: l => if p c then span p l + 1 else 0

/-- What stands at the beginning: a thing and how many bytes it takes; or how many bytes ahead of the fault there are, and the fault. -/
inductive Res where
  | ok (kind : Nat) (text : List UInt8) (num : Nat) (n : Nat)
  | bad (n code : Nat)
  deriving DecidableEq

def wordT (l : List UInt8) : Res := if 24 < span wordC l then .bad 0 2 else .ok 1 (l.take (span wordC l)) 0 (span wordC l)
/-- The number that digits say. -/
def numV (l : List UInt8) : Nat := l.foldl (fun x c => 10 * x + (c.toNat - 48)) 0
/-- How many digits a number has. -/
def numN : List UInt8 → Nat
  | [] => 0
  | c :: l => if c.toNat = 48 then 1 else span digC (c :: l)
def numT (l : List UInt8) : Res :=
  if 9223372036854775807 < numV (l.take (numN l)) then .bad 0 2
  else match l.drop (numN l) with
    | [] => .ok 2 [] (numV (l.take (numN l))) (numN l)
    | c :: _ => if wordC c then .bad (numN l) 9 else .ok 2 [] (numV (l.take (numN l))) (numN l)
/-- A digit of an escape. -/
def hexV (c : UInt8) : Option Nat := if digC c then some (c.toNat - 48) else if 97 ≤ c.toNat ∧ c.toNat ≤ 102 then some (c.toNat - 87) else none
inductive Item where
  | ok (c : UInt8) (n : Nat)
  | bad (n code : Nat)
  deriving DecidableEq
/-- Behind a \\x. -/
def hexT : List UInt8 → Item
  | [] => .bad 2 4
  | e :: r => match hexV e with
    | none => .bad 2 9
    | some x => match r with
      | [] => .bad 3 4
      | f :: _ => match hexV f with
        | none => .bad 3 9
        | some y => .ok (16 * x + y).toUInt8 4
theorem hexT_pos {r : List UInt8} {b : UInt8} {n : Nat} (h : hexT r = .ok b n) : 0 < n := by
  unfold hexT at h
  repeat' split at h
  all_goals first
    | (cases h; omega)
    | (cases h)
/-- A byte as it stands in a text, from a byte on. -/
def itemT (c : UInt8) (r : List UInt8) : Item :=
  if plainC c = false then .bad 0 9
  else if c.toNat ≠ 92 then .ok c 1
  else match r with
    | [] => .bad 1 4
    | d :: r => if d.toNat = 34 ∨ d.toNat = 92 then .ok d 2
      else if d.toNat = 110 then .ok 10 2
      else if d.toNat = 120 then hexT r
      else .bad 1 9
theorem itemT_pos {c : UInt8} {r : List UInt8} {b : UInt8} {n : Nat} (h : itemT c r = .ok b n) : 0 < n := by
  unfold itemT at h
  repeat' split at h
  all_goals first
    | (cases h; omega)
    | (cases h; done)
    | (exact hexT_pos h)
/-- Behind the quote that begins a text: acc has been said, n bytes taken. -/
def textGo : Nat → List UInt8 → List UInt8 → Nat → Res
  | 0, _, _, n => .bad n 4
  | k + 1, l, acc, n => match l with
    | [] => .bad n 4
    | c :: r => if c.toNat = 34 then .ok 3 acc 0 (n + 1)
      else match itemT c r with
        | .bad i e => .bad (n + i) e
        | .ok b i => if acc.length = 4095 then .bad 0 2 else textGo k ((c :: r).drop i) (acc ++ [b]) (n + i)
theorem textGo_fuel : ∀ (k m : Nat) (l acc : List UInt8) (n : Nat), l.length < k → l.length < m → textGo k l acc n = textGo m l acc n
  | 0, _, _, _, _, h, _ => by omega
  | _ + 1, 0, _, _, _, _, h => by omega
  | k + 1, m + 1, l, acc, n, hk, hm => by
    unfold textGo
    match l with
    | [] => rfl
    | c :: r =>
      dsimp only
      split
      · rfl
      · cases hi : itemT c r with
        | bad i e => rfl
        | ok b i =>
          dsimp only
          split
          · rfl
          · have := itemT_pos hi
            have hl : ((c :: r).drop i).length < (c :: r).length := by rw [List.length_drop]; simp; omega
            simp only [List.length_cons] at *
            exact textGo_fuel k m _ _ _ (by omega) (by omega)
def textR (l acc : List UInt8) (n : Nat) : Res := textGo (l.length + 1) l acc n
theorem textR_nil (acc : List UInt8) (n : Nat) : textR [] acc n = .bad n 4 := rfl
theorem textR_end {c : UInt8} (r acc : List UInt8) (n : Nat) (h : c.toNat = 34) : textR (c :: r) acc n = .ok 3 acc 0 (n + 1) := by
  unfold textR textGo
  simp only
  rw [if_pos h]
theorem textR_bad {c : UInt8} {r : List UInt8} {i e : Nat} (acc : List UInt8) (n : Nat) (h : c.toNat ≠ 34) (hi : itemT c r = .bad i e) : textR (c :: r) acc n = .bad (n + i) e := by
  unfold textR textGo
  simp only
  rw [if_neg h, hi]
theorem textR_long {c b : UInt8} {r : List UInt8} {i : Nat} {acc : List UInt8} (n : Nat) (h : c.toNat ≠ 34) (hi : itemT c r = .ok b i) (hl : acc.length = 4095) : textR (c :: r) acc n = .bad 0 2 := by
  unfold textR textGo
  simp only
  rw [if_neg h, hi]
  simp only
  rw [if_pos hl]
theorem textR_more {c b : UInt8} {r : List UInt8} {i : Nat} {acc : List UInt8} (n : Nat) (h : c.toNat ≠ 34) (hi : itemT c r = .ok b i) (hl : acc.length ≠ 4095) : textR (c :: r) acc n = textR ((c :: r).drop i) (acc ++ [b]) (n + i) := by
  unfold textR
  conv => lhs; unfold textGo
  simp only
  rw [if_neg h, hi]
  simp only
  rw [if_neg hl]
  have := itemT_pos hi
  exact textGo_fuel _ _ _ _ _ (by rw [List.length_drop]; simp; omega) (by omega)
/-- A text, its quote ahead. -/
def textT (l : List UInt8) : Res := textR (l.drop 1) [] 1

/-- The signs, those of two bytes first. -/
def signs : List (List UInt8) := [[61, 61], [33, 61], [60, 61], [40], [41], [123], [125], [91], [93], [44], [61], [60], [43], [45], [42], [47], [37]]
/-- No token begins here. -/
def noneT : List UInt8 → Res
  | [] => .bad 0 9
  | c :: r => if c.toNat ≠ 33 then .bad 0 9 else if r = [] then .bad 1 4 else .bad 1 9
def signGo : List (List UInt8) → List UInt8 → Res
  | [], l => noneT l
  | s :: ss, l => if s.isPrefixOf l then .ok 4 s 0 s.length else signGo ss l
def signT (l : List UInt8) : Res := signGo signs l

/-- The token that a byte begins, that is no blank and no #. -/
def tokT : List UInt8 → Res
  | [] => .bad 0 9
  | c :: r => if lowC c then wordT (c :: r) else if digC c then numT (c :: r) else if c.toNat = 34 then textT (c :: r) else signT (c :: r)

/-- A token. -/
structure Tk where
  kind : Nat
  text : List UInt8
  num : Nat
  at_ : Nat
  deriving DecidableEq
/-- What All answers. -/
structure Ans where
  toks : List Tk
  at_ : Nat
  code : Nat
  deriving DecidableEq

/-- Behind a #: what is left from the next byte 10 on. -/
def toLine : List UInt8 → List UInt8
  | [] => []
  | c :: l => if c.toNat = 10 then c :: l else toLine l
theorem toLine_le : ∀ l, (toLine l).length ≤ l.length
  | [] => Nat.le_refl _
  | c :: l => by
    unfold toLine
    split
    · exact Nat.le_refl _
    · have := toLine_le l; simp; omega
def allGo : Nat → List UInt8 → Nat → List Tk → Ans
  | 0, _, _, ts => ⟨ts, 0, 0⟩
  | k + 1, l, n, ts => match l with
    | [] => ⟨ts, 0, 0⟩
    | c :: r => if c.toNat = 32 ∨ c.toNat = 10 then allGo k r (n + 1) ts
      else if c.toNat = 35 then allGo k (toLine r) (n + 1 + (r.length - (toLine r).length)) ts
      else match tokT (c :: r) with
        | .bad i e => ⟨[], n + i, e⟩
        | .ok kd tx x i => allGo k ((c :: r).drop i) (n + i) (ts ++ [⟨kd, tx, x, n⟩])
/-- What a token takes. -/
theorem span_pos {p : UInt8 → Bool} {c : UInt8} (r : List UInt8) (h : p c = true) : 0 < span p (c :: r) := by
  unfold span; rw [if_pos h]; omega
theorem low_word {c : UInt8} (h : lowC c = true) : wordC c = true := by simp [wordC, h]
theorem dig_word {c : UInt8} (h : digC c = true) : wordC c = true := by simp [wordC, h]
theorem textGo_pos : ∀ (k : Nat) (l acc : List UInt8) (n : Nat) {kd : Nat} {tx : List UInt8} {x i : Nat}, textGo k l acc n = .ok kd tx x i → n < i
  | 0, _, _, _, _, _, _, _, h => by unfold textGo at h; cases h
  | k + 1, l, acc, n, kd, tx, x, i, h => by
    unfold textGo at h
    match l, h with
    | [], h => cases h
    | c :: r, h =>
      dsimp only at h
      split at h
      · injection h; omega
      · cases hi : itemT c r with
        | bad j e => rw [hi] at h; cases h
        | ok b j =>
          rw [hi] at h
          dsimp only at h
          split at h
          · cases h
          · have := textGo_pos k _ _ _ h; omega
theorem noneT_bad (l : List UInt8) {kd : Nat} {tx : List UInt8} {x i : Nat} (h : noneT l = .ok kd tx x i) : False := by
  unfold noneT at h
  repeat' split at h
  all_goals cases h
theorem signGo_pos : ∀ (ss : List (List UInt8)) (l : List UInt8) {kd : Nat} {tx : List UInt8} {x i : Nat}, (∀ s ∈ ss, 0 < s.length) → signGo ss l = .ok kd tx x i → 0 < i
  | [], l, _, _, _, _, _, h => (noneT_bad l h).elim
  | s :: ss, l, _, _, _, _, hs, h => by
    unfold signGo at h
    split at h
    · cases h; exact hs s (by simp)
    · exact signGo_pos ss l (fun s hs' => hs s (by simp [hs'])) h
theorem tokT_cons (c : UInt8) (r : List UInt8) : tokT (c :: r) = if lowC c then wordT (c :: r) else if digC c then numT (c :: r) else if c.toNat = 34 then textT (c :: r) else signT (c :: r) := rfl
theorem tokT_pos {c : UInt8} {r : List UInt8} {kd : Nat} {tx : List UInt8} {x i : Nat} (h : tokT (c :: r) = .ok kd tx x i) : 0 < i := by
  rw [tokT_cons] at h
  by_cases h1 : lowC c = true
  · rw [if_pos h1] at h
    unfold wordT at h
    split at h
    · cases h
    · injection h; subst_vars; exact span_pos r (low_word h1)
  · rw [if_neg h1] at h
    by_cases h2 : digC c = true
    · rw [if_pos h2] at h
      unfold numT at h
      have hp : 0 < numN (c :: r) := by
        show 0 < if c.toNat = 48 then 1 else span digC (c :: r)
        split
        · omega
        · exact span_pos r h2
      repeat' split at h
      all_goals first
        | (cases h; exact hp)
        | (cases h)
    · rw [if_neg h2] at h
      by_cases h3 : c.toNat = 34
      · rw [if_pos h3] at h
        have := textGo_pos _ _ _ _ h; omega
      · rw [if_neg h3] at h
        exact signGo_pos signs _ (by decide) h
theorem allGo_fuel : ∀ (k m : Nat) (l : List UInt8) (n : Nat) (ts : List Tk), l.length < k → l.length < m → allGo k l n ts = allGo m l n ts
  | 0, _, _, _, _, h, _ => by omega
  | _ + 1, 0, _, _, _, _, h => by omega
  | k + 1, m + 1, l, n, ts, hk, hm => by
    unfold allGo
    match l with
    | [] => rfl
    | c :: r =>
      simp only [List.length_cons] at hk hm
      dsimp only
      split
      · exact allGo_fuel k m _ _ _ (by omega) (by omega)
      · split
        · have := toLine_le r
          exact allGo_fuel k m _ _ _ (by omega) (by omega)
        · cases hi : tokT (c :: r) with
          | bad i e => rfl
          | ok kd tx x i =>
            have := tokT_pos hi
            dsimp only
            exact allGo_fuel k m _ _ _ (by rw [List.length_drop]; simp; omega) (by rw [List.length_drop]; simp; omega)
def allR (l : List UInt8) (n : Nat) (ts : List Tk) : Ans := allGo (l.length + 1) l n ts
theorem allR_nil (n : Nat) (ts : List Tk) : allR [] n ts = ⟨ts, 0, 0⟩ := rfl
theorem allR_blank {c : UInt8} (r : List UInt8) (n : Nat) (ts : List Tk) (h : c.toNat = 32 ∨ c.toNat = 10) : allR (c :: r) n ts = allR r (n + 1) ts := by
  unfold allR
  conv => lhs; unfold allGo
  dsimp only
  rw [if_pos h]
  exact allGo_fuel _ _ _ _ _ (by simp) (by omega)
theorem allR_remark {c : UInt8} (r : List UInt8) (n : Nat) (ts : List Tk) (h : c.toNat = 35) : allR (c :: r) n ts = allR (toLine r) (n + 1 + (r.length - (toLine r).length)) ts := by
  unfold allR
  conv => lhs; unfold allGo
  dsimp only
  rw [if_neg (by omega), if_pos h]
  have := toLine_le r
  exact allGo_fuel _ _ _ _ _ (by simp; omega) (by omega)
theorem allR_bad {c : UInt8} {r : List UInt8} {i e : Nat} (n : Nat) (ts : List Tk) (h1 : ¬ (c.toNat = 32 ∨ c.toNat = 10)) (h2 : c.toNat ≠ 35) (h : tokT (c :: r) = .bad i e) : allR (c :: r) n ts = ⟨[], n + i, e⟩ := by
  unfold allR allGo
  dsimp only
  rw [if_neg h1, if_neg h2, h]
theorem allR_tok {c : UInt8} {r : List UInt8} {kd : Nat} {tx : List UInt8} {x i : Nat} (n : Nat) (ts : List Tk) (h1 : ¬ (c.toNat = 32 ∨ c.toNat = 10)) (h2 : c.toNat ≠ 35) (h : tokT (c :: r) = .ok kd tx x i) : allR (c :: r) n ts = allR ((c :: r).drop i) (n + i) (ts ++ [⟨kd, tx, x, n⟩]) := by
  unfold allR
  conv => lhs; unfold allGo
  dsimp only
  rw [if_neg h1, if_neg h2, h]
  dsimp only
  have := tokT_pos h
  exact allGo_fuel _ _ _ _ _ (by rw [List.length_drop]; simp; omega) (by omega)
/-- A source's tokens, or its first fault. -/
def allT (s : List UInt8) : Ans := if 16384 < s.length then ⟨[], 0, 2⟩ else allR s 0 []
end Go.Proofs.YtmgbebpkkidooaaDoor.Tok
