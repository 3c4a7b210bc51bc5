/- Plain: how bytes are spelled in a text (layer 7), and that they are read again. -/
import Derived.Test.YtmgbebpkkidooaaDoorTBlankP
namespace Go.Proofs.YtmgbebpkkidooaaDoor.Tok
open Go.Proofs.YtmgbebpkkidooaaDoor

def hexD (x : Nat) : UInt8 := if x < 10 then (48 + x).toUInt8 else (87 + x).toUInt8
/-- A byte as it is spelled in a text. -/
def escL (c : UInt8) : List UInt8 :=
  if c.toNat = 34 ∨ c.toNat = 92 then [92, c]
  else if c.toNat = 10 then [92, 110]
  else if plainC c then [c]
  else [92, 120, hexD (c.toNat / 16), hexD (c.toNat % 16)]
theorem hexV_hexD : ∀ x, x < 16 → hexV (hexD x) = some x := by decide +kernel
theorem esc_item (c : UInt8) (r : List UInt8) : ∃ d t, escL c = d :: t ∧ d.toNat ≠ 34 ∧ itemT d (t ++ r) = .ok c (escL c).length := by
  unfold escL
  by_cases h1 : c.toNat = 34 ∨ c.toNat = 92
  · rw [if_pos h1]
    refine ⟨92, [c], rfl, by decide, ?_⟩
    show (if plainC 92 = false then Tok.Item.bad 0 9 else _) = _
    rw [if_neg (by decide), if_neg (by decide)]
    show (if c.toNat = 34 ∨ c.toNat = 92 then Tok.Item.ok c 2 else _) = _
    rw [if_pos h1]
    rfl
  · rw [if_neg h1]
    by_cases h2 : c.toNat = 10
    · rw [if_pos h2]
      refine ⟨92, [110], rfl, by decide, ?_⟩
      have hc : c = 10 := UInt8.toNat.inj h2
      subst hc
      rfl
    · rw [if_neg h2]
      by_cases h3 : plainC c = true
      · rw [if_pos h3]
        refine ⟨c, [], rfl, by omega, ?_⟩
        unfold itemT
        rw [if_neg (by rw [h3]; simp), if_pos (by omega)]
        rfl
      · rw [if_neg h3]
        refine ⟨92, [120, hexD (c.toNat / 16), hexD (c.toNat % 16)], rfl, by decide, ?_⟩
        have hc := UInt8.toNat_lt c
        have e1 := hexV_hexD (c.toNat / 16) (by omega)
        have e2 := hexV_hexD (c.toNat % 16) (by omega)
        show hexT (hexD (c.toNat / 16) :: hexD (c.toNat % 16) :: r) = _
        simp only [hexT, e1, e2]
        rw [show 16 * (c.toNat / 16) + c.toNat % 16 = c.toNat by omega]
        simp
theorem textR_esc (r : List UInt8) : ∀ (tx acc : List UInt8) (n : Nat), acc.length + tx.length ≤ 4095 → textR (tx.flatMap escL ++ 34 :: r) acc n = .ok 3 (acc ++ tx) 0 (n + (tx.flatMap escL).length + 1)
  | [], acc, n, _ => by
    show textR (34 :: r) acc n = _
    rw [textR_end _ _ _ (by rfl)]
    simp
  | c :: tx, acc, n, h => by
    simp only [List.length_cons] at h
    obtain ⟨d, t, he, hd, hi⟩ := esc_item c (tx.flatMap escL ++ 34 :: r)
    rw [List.flatMap_cons, List.append_assoc, he, List.cons_append, textR_more n hd hi (by omega)]
    have hdrop : (d :: (t ++ (tx.flatMap escL ++ 34 :: r))).drop (escL c).length = tx.flatMap escL ++ 34 :: r := by
      rw [← List.cons_append, ← he]
      exact List.drop_left
    rw [hdrop, textR_esc r tx (acc ++ [c]) _ (by simp; omega), he]
    simp
    omega
/-- A text as it is spelled. -/
def textL (tx : List UInt8) : List UInt8 := 34 :: (tx.flatMap escL ++ [34])
theorem text_back (r tx : List UInt8) (h : tx.length ≤ 4095) : tokT (textL tx ++ r) = .ok 3 tx 0 (textL tx).length := by
  have e : textL tx ++ r = 34 :: (tx.flatMap escL ++ 34 :: r) := by simp [textL]
  rw [e, tokT_cons, if_neg (by decide), if_neg (by decide), if_pos (by rfl)]
  show textR (tx.flatMap escL ++ 34 :: r) [] 1 = _
  rw [textR_esc r tx [] 1 (by simpa using h)]
  simp [textL]
  omega
end Go.Proofs.YtmgbebpkkidooaaDoor.Tok
