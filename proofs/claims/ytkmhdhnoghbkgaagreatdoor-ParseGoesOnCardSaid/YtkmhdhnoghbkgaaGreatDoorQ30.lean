/- The grammar of layer 9, plain: the twigs that are read fit into memory. Conditions: the tokens do. -/
import Derived.Test.YtkmhdhnoghbkgaaGreatDoorQ13
import Derived.Test.YtkmhdhnoghbkgaaGreatDoorQ10
import Derived.Test.YtkmhdhnoghbkgaaGreatDoorQ09
import Derived.Deep.AppendLies
import Derived.Deep.RegionLaw
import Derived.Test.YtkmhdhnoghbkgaaGreatDoorQ07
import Derived.Test.YtkmhdhnoghbkgaaGreatDoorQ02
set_option linter.unusedVariables false
/- The grammar of layer 9, plain: the twigs that are read fit into memory. Conditions: the tokens do. -/
namespace Go.Proofs.YtkmhdhnoghbkgaaGreatDoor
open Go.RowKit Go.Shelf Tok

def FitK (ks : List Tk) : Prop := ks.length ≤ 1000000 ∧ ∀ x ∈ ks, x.text.length ≤ 4095 ∧ x.num ≤ 9223372036854775807
def FitC (c : Ch) : Prop := ∀ x ∈ c.ts, FitT x
theorem opOfT_lt (m : List UInt8) : opOfT m < 256 := by
  have h : ∀ l : List (List UInt8 × Nat), (∀ x ∈ l, x.2 < 256) → opGo l m < 256 := by
    intro l
    induction l with
    | nil => intro _; exact Nat.succ_pos _
    | cons x r ih =>
      intro h
      unfold opGo
      split
      · exact h x List.mem_cons_self
      · exact ih (fun y hy => h y (List.mem_cons_of_mem _ hy))
  exact h makesL (by decide)
theorem FitC.none : FitC Ch.none := fun x hx => by cases hx
theorem FitC.then {c d : Ch} (h : FitC c) (h' : FitC d) : FitC (c.then d) := fun x hx => by
  rcases List.mem_append.1 hx with hx | hx
  · exact h x hx
  · exact h' x hx
theorem FitC.under {c : Ch} (h : FitC c) (hn : c.n ≤ 3000000) {op num : Nat} {text : List UInt8} (ho : op < 256) (hm : num ≤ 9223372036854775807) (ht : text.length ≤ 4095) : FitC (c.under op num text) := by
  intro x hx
  rcases List.mem_cons.1 hx with rfl | hx
  · refine ⟨by dsimp only; omega, ?_, ?_, ho⟩
    · unfold I64; dsimp only; omega
    · unfold I64; dsimp only; omega
  · exact h x hx
theorem own_fit {ks : List Tk} (hk : FitK ks) {i j : Nat} {nm : List UInt8} (h : ownT ks i = .ok nm j) : nm.length ≤ 4095 := by
  unfold ownT at h
  split at h
  · rename_i x hx
    split at h
    · cases h
      exact (hk.2 x (List.mem_of_getElem? hx)).1
    · cases h
  · cases h
def NT.fits : NT → Prop
  | .stmtsGo a | .listGo _ _ a => FitC a
  | .rowGo _ _ a | .postGo a => FitC a ∧ a.n ≤ 1000000
  | .set op => op < 256
  | _ => True
section
variable {ks : List Tk} (hk : FitK ks)
include hk
theorem few_of {f i j : Nat} {q : NT} {c : Ch} (hw : q.wf) (hh : q.had = 0) (h : gP ks f q i = .ok c j) : c.n ≤ 1000000 := gP_few hk.1 hw hh h
theorem gP_fit : ∀ f q i c j, q.wf → q.fits → gP ks f q i = .ok c j → FitC c
  | 0, q, i, c, j, _, _, h => by cases h
  | f + 1, q, i, c, j, hw, hb, h => by
    have ih := gP_fit f
    have few : ∀ {i j : Nat} {q : NT} {c : Ch}, q.wf → q.had = 0 → gP ks f q i = .ok c j → c.n ≤ 1000000 := fun hw hh h => few_of hk hw hh h
    have hM : ∀ m c j, gM ks (gP ks f) m i = .ok c j → FitC c := by
      intro m c j h
      unfold gM at h
      split at h
      · obtain ⟨a, k, h1, h2⟩ := st_ok h
        obtain ⟨rfl, rfl⟩ := ok_eq h2
        have hw : (NT.list B.lsq .expr B.rsq).wf := ⟨by decide, by decide, .inr rfl⟩
        exact (ih _ _ _ _ hw trivial h1).under (by have := few hw rfl h1; omega) (by decide) (by decide) (by decide)
      split at h
      · exact ih (.between B.opn .expr B.cls) _ _ _ ⟨by decide, by decide, .inr (.inl rfl)⟩ trivial h
      split at h
      · obtain ⟨a, k, h1, h2⟩ := st_ok h
        obtain ⟨rfl, rfl⟩ := ok_eq h2
        exact FitC.none.under (by decide) (opOfT_lt _) (by decide) (by decide)
      split at h
      · obtain ⟨_, k, _, h⟩ := st_ok h
        obtain ⟨a, k, h1, h2⟩ := st_ok h
        obtain ⟨rfl, rfl⟩ := ok_eq h2
        have hw : (NT.between B.opn .expr B.cls).wf := ⟨by decide, by decide, .inr (.inl rfl)⟩
        exact (ih _ _ _ _ hw trivial h1).under (by have := few hw rfl h1; omega) (opOfT_lt _) (by decide) (by decide)
      split at h
      · obtain ⟨_, k, _, h⟩ := st_ok h
        obtain ⟨a, k, h1, h2⟩ := st_ok h
        obtain ⟨rfl, rfl⟩ := ok_eq h2
        have hw : (NT.between B.opn .two B.cls).wf := ⟨by decide, by decide, .inr (.inr rfl)⟩
        exact (ih _ _ _ _ hw trivial h1).under (by have := few hw rfl h1; omega) (by decide) (by decide) (by decide)
      split at h
      · obtain ⟨_, k, _, h⟩ := st_ok h
        obtain ⟨nm, k, h0, h⟩ := st_ok h
        obtain ⟨a, k, h1, h2⟩ := st_ok h
        obtain ⟨rfl, rfl⟩ := ok_eq h2
        have hw : (NT.list B.opn .expr B.cls).wf := ⟨by decide, by decide, .inr rfl⟩
        exact (ih _ _ _ _ hw trivial h1).under (by have := few hw rfl h1; omega) (opOfT_lt _) (by decide) (own_fit hk h0)
      split at h
      · obtain ⟨_, k, _, h⟩ := st_ok h
        obtain ⟨a, k, h1, h2⟩ := st_ok h
        obtain ⟨rfl, rfl⟩ := ok_eq h2
        exact (ih .block _ _ _ trivial trivial h1).under (by have := few (q := .block) trivial rfl h1; omega) (by decide) (by decide) (by decide)
      split at h
      · obtain ⟨_, k, _, h⟩ := st_ok h
        obtain ⟨nm, k, h0, h2⟩ := st_ok h
        obtain ⟨rfl, rfl⟩ := ok_eq h2
        exact FitC.none.under (by decide) (by decide) (by decide) (own_fit hk h0)
      · obtain ⟨nm, k, h0, h2⟩ := st_ok h
        obtain ⟨rfl, rfl⟩ := ok_eq h2
        exact FitC.none.under (by decide) (by decide) (by decide) (own_fit hk h0)
    cases q with
    | flow =>
      obtain ⟨_, k, _, h⟩ := st_ok h
      obtain ⟨nm, k, h0, h⟩ := st_ok h
      obtain ⟨ps, k, h1, h⟩ := st_ok h
      obtain ⟨b, k, h2, h⟩ := st_ok h
      obtain ⟨rfl, rfl⟩ := ok_eq h
      have hw1 : (NT.list B.opn .param B.cls).wf := ⟨by decide, by decide, .inl rfl⟩
      exact ((ih _ _ _ _ hw1 trivial h1).then (ih .block _ _ _ trivial trivial h2)).under (by have := few hw1 rfl h1; have := few (q := .block) trivial rfl h2; simp only [Ch.then]; omega) (by decide) (by decide) (own_fit hk h0)
    | param =>
      obtain ⟨nm, k, h0, h⟩ := st_ok h
      obtain ⟨rfl, rfl⟩ := ok_eq h
      exact FitC.none.under (by decide) (by decide) (by decide) (own_fit hk h0)
    | block =>
      obtain ⟨a, k, h1, h⟩ := st_ok h
      obtain ⟨rfl, rfl⟩ := ok_eq h
      have hw1 : (NT.between B.lbr .stmts B.rbr).wf := ⟨by decide, by decide, .inl rfl⟩
      exact (ih _ _ _ _ hw1 trivial h1).under (by have := few hw1 rfl h1; omega) (by decide) (by decide) (by decide)
    | stmts => exact ih (.stmtsGo Ch.none) _ _ _ trivial FitC.none h
    | stmtsGo a =>
      have ha : FitC a := hb
      unfold gP at h
      dsimp only at h
      split at h
      · obtain ⟨rfl, rfl⟩ := ok_eq h; exact ha
      · obtain ⟨x, k, h1, h⟩ := st_ok h
        exact ih (.stmtsGo (a.then x)) _ _ _ trivial (ha.then (ih .stmt _ _ _ trivial trivial h1)) h
    | stmt =>
      unfold gP at h
      dsimp only at h
      split at h
      · obtain ⟨_, k, _, h⟩ := st_ok h
        exact ih (.set 4) _ _ _ trivial (show 4 < 256 by decide) h
      split at h
      · exact ih .choice _ _ _ trivial trivial h
      split at h
      · obtain ⟨_, k, _, h⟩ := st_ok h
        obtain ⟨x, k, h1, h⟩ := st_ok h
        obtain ⟨b, k, h2, h⟩ := st_ok h
        obtain ⟨rfl, rfl⟩ := ok_eq h
        exact ((ih .expr _ _ _ trivial trivial h1).then (ih .block _ _ _ trivial trivial h2)).under (by have := few (q := .expr) trivial rfl h1; have := few (q := .block) trivial rfl h2; simp only [Ch.then]; omega) (by decide) (by decide) (by decide)
      split at h
      · obtain ⟨_, k, _, h⟩ := st_ok h
        obtain ⟨x, k, h1, h⟩ := st_ok h
        obtain ⟨rfl, rfl⟩ := ok_eq h
        exact (ih .expr _ _ _ trivial trivial h1).under (by have := few (q := .expr) trivial rfl h1; omega) (opOfT_lt _) (by decide) (by decide)
      · exact ih (.set 5) _ _ _ trivial (show 5 < 256 by decide) h
    | choice =>
      obtain ⟨_, k, _, h⟩ := st_ok h
      obtain ⟨x, k, h1, h⟩ := st_ok h
      obtain ⟨b, k, h2, h⟩ := st_ok h
      have hx := ih .expr _ _ _ trivial trivial h1
      have hbb := ih .block _ _ _ trivial trivial h2
      have n1 := few (q := .expr) trivial rfl h1
      have n2 := few (q := .block) trivial rfl h2
      split at h
      · obtain ⟨_, k, _, h⟩ := st_ok h
        obtain ⟨d, k, h3, h⟩ := st_ok h
        obtain ⟨rfl, rfl⟩ := ok_eq h
        have n3 := few (q := .block) trivial rfl h3
        exact ((hx.then hbb).then (ih .block _ _ _ trivial trivial h3)).under (by simp only [Ch.then]; omega) (by decide) (by decide) (by decide)
      · obtain ⟨rfl, rfl⟩ := ok_eq h
        exact (hx.then hbb).under (by simp only [Ch.then]; omega) (by decide) (by decide) (by decide)
    | expr => exact ih (.row .and [B.or]) _ _ _ ⟨.inr (.inr (.inr rfl)), by decide⟩ trivial h
    | and => exact ih (.row .not [B.and]) _ _ _ ⟨.inr (.inr (.inl rfl)), by decide⟩ trivial h
    | not =>
      unfold gP at h
      dsimp only at h
      split at h
      · obtain ⟨_, k, _, h⟩ := st_ok h
        obtain ⟨x, k, h1, h⟩ := st_ok h
        obtain ⟨rfl, rfl⟩ := ok_eq h
        exact (ih .not _ _ _ trivial trivial h1).under (by have := few (q := .not) trivial rfl h1; omega) (by decide) (by decide) (by decide)
      · exact ih .cmp _ _ _ trivial trivial h
    | cmp =>
      obtain ⟨x, k, h1, h⟩ := st_ok h
      have hx := ih .sum _ _ _ trivial trivial h1
      split at h
      · obtain ⟨_, l, _, h⟩ := st_ok h
        obtain ⟨y, l, h2, h⟩ := st_ok h
        obtain ⟨rfl, rfl⟩ := ok_eq h
        exact (hx.then (ih .sum _ _ _ trivial trivial h2)).under (by have := few (q := .sum) trivial rfl h1; have := few (q := .sum) trivial rfl h2; simp only [Ch.then]; omega) (opOfT_lt _) (by decide) (by decide)
      · obtain ⟨rfl, rfl⟩ := ok_eq h; exact hx
    | sum => exact ih (.row .term addS) _ _ _ ⟨.inr (.inl rfl), by decide⟩ trivial h
    | term => exact ih (.row .pre mulS) _ _ _ ⟨.inl rfl, by decide⟩ trivial h
    | pre =>
      unfold gP at h
      dsimp only at h
      split at h
      · obtain ⟨_, k, _, h⟩ := st_ok h
        obtain ⟨x, k, h1, h⟩ := st_ok h
        obtain ⟨rfl, rfl⟩ := ok_eq h
        exact (ih .pre _ _ _ trivial trivial h1).under (by have := few (q := .pre) trivial rfl h1; omega) (by decide) (by decide) (by decide)
      split at h
      · obtain ⟨_, k, _, h⟩ := st_ok h
        obtain ⟨x, k, h1, h⟩ := st_ok h
        obtain ⟨rfl, rfl⟩ := ok_eq h
        exact (ih .pre _ _ _ trivial trivial h1).under (by have := few (q := .pre) trivial rfl h1; omega) (opOfT_lt _) (by decide) (by decide)
      · exact ih .post _ _ _ trivial trivial h
    | post =>
      obtain ⟨x, k, h1, h⟩ := st_ok h
      exact ih (.postGo x) _ _ _ trivial ⟨ih .prim _ _ _ trivial trivial h1, few (q := .prim) trivial rfl h1⟩ h
    | postGo a =>
      obtain ⟨ha, hn⟩ := hb
      unfold gP at h
      dsimp only at h
      split at h
      · obtain ⟨x, k, h1, h⟩ := st_ok h
        have hw1 : (NT.between B.lsq .expr B.rsq).wf := ⟨by decide, by decide, .inr (.inl rfl)⟩
        exact ih (.postGo ((a.then x).under 42 0 [])) _ _ _ trivial ⟨(ha.then (ih _ _ _ _ hw1 trivial h1)).under (by have := few hw1 rfl h1; simp only [Ch.then]; omega) (by decide) (by decide) (by decide), by show 1 ≤ 1000000; omega⟩ h
      · obtain ⟨rfl, rfl⟩ := ok_eq h; exact ha
    | prim =>
      unfold gP at h
      dsimp only at h
      split at h
      · rename_i x hx
        have hf := hk.2 x (List.mem_of_getElem? hx)
        split at h
        · obtain ⟨rfl, rfl⟩ := ok_eq h
          exact FitC.none.under (by decide) (by decide) hf.2 (by decide)
        split at h
        · obtain ⟨rfl, rfl⟩ := ok_eq h
          exact FitC.none.under (by decide) (by decide) (by decide) hf.1
        · exact hM _ _ _ h
      · exact hM _ _ _ h
    | two =>
      obtain ⟨x, k, h1, h⟩ := st_ok h
      obtain ⟨_, k, _, h⟩ := st_ok h
      obtain ⟨y, k, h2, h⟩ := st_ok h
      obtain ⟨rfl, rfl⟩ := ok_eq h
      exact (ih .expr _ _ _ trivial trivial h1).then (ih .expr _ _ _ trivial trivial h2)
    | set op =>
      obtain ⟨nm, k, h0, h⟩ := st_ok h
      obtain ⟨_, k, _, h⟩ := st_ok h
      obtain ⟨x, k, h1, h⟩ := st_ok h
      obtain ⟨rfl, rfl⟩ := ok_eq h
      exact (ih .expr _ _ _ trivial trivial h1).under (by have := few (q := .expr) trivial rfl h1; omega) hb (by decide) (own_fit hk h0)
    | list o p e =>
      obtain ⟨ho, he, hp⟩ := hw
      obtain ⟨_, k, _, h⟩ := st_ok h
      split at h
      · obtain ⟨_, k, _, h⟩ := st_ok h
        obtain ⟨rfl, rfl⟩ := ok_eq h
        exact FitC.none
      · obtain ⟨x, k, h1, h⟩ := st_ok h
        have hpw : p.wf ∧ p.had = 0 ∧ p.fits := by rcases hp with rfl | rfl <;> exact ⟨trivial, rfl, trivial⟩
        exact ih (.listGo p e x) _ _ _ ⟨he, hp⟩ (ih p _ _ _ hpw.1 hpw.2.2 h1) h
    | listGo p e a =>
      obtain ⟨he, hp⟩ := hw
      have ha : FitC a := hb
      unfold gP at h
      dsimp only at h
      split at h
      · obtain ⟨_, k, _, h⟩ := st_ok h
        obtain ⟨x, k, h1, h⟩ := st_ok h
        have hpw : p.wf ∧ p.had = 0 ∧ p.fits := by rcases hp with rfl | rfl <;> exact ⟨trivial, rfl, trivial⟩
        exact ih (.listGo p e (a.then x)) _ _ _ ⟨he, hp⟩ (ha.then (ih p _ _ _ hpw.1 hpw.2.2 h1)) h
      · obtain ⟨_, k, _, h⟩ := st_ok h
        obtain ⟨rfl, rfl⟩ := ok_eq h
        exact ha
    | between o p e =>
      obtain ⟨ho, he, hp⟩ := hw
      obtain ⟨_, k, _, h⟩ := st_ok h
      obtain ⟨x, k, h1, h⟩ := st_ok h
      obtain ⟨_, k, _, h⟩ := st_ok h
      obtain ⟨rfl, rfl⟩ := ok_eq h
      rcases hp with rfl | rfl | rfl
      · exact ih .stmts _ _ _ trivial trivial h1
      · exact ih .expr _ _ _ trivial trivial h1
      · exact ih .two _ _ _ trivial trivial h1
    | row p ms =>
      obtain ⟨x, k, h1, h⟩ := st_ok h
      have hpw : p.wf ∧ p.had = 0 ∧ p.fits := by rcases hw.1 with rfl | rfl | rfl | rfl <;> exact ⟨trivial, rfl, trivial⟩
      exact ih (.rowGo p ms x) _ _ _ hw ⟨ih p _ _ _ hpw.1 hpw.2.2 h1, few hpw.1 hpw.2.1 h1⟩ h
    | rowGo p ms a =>
      obtain ⟨ha, hn⟩ := hb
      have hpw : p.wf ∧ p.had = 0 ∧ p.fits := by rcases hw.1 with rfl | rfl | rfl | rfl <;> exact ⟨trivial, rfl, trivial⟩
      unfold gP at h
      dsimp only at h
      split at h
      · obtain ⟨_, k, _, h⟩ := st_ok h
        obtain ⟨x, k, h1, h⟩ := st_ok h
        exact ih (.rowGo p ms ((a.then x).under (opOfT (markT ks i)) 0 [])) _ _ _ hw ⟨(ha.then (ih p _ _ _ hpw.1 hpw.2.2 h1)).under (by have := few hpw.1 hpw.2.1 h1; simp only [Ch.then]; omega) (opOfT_lt _) (by decide) (by decide), by show 1 ≤ 1000000; omega⟩ h
      · obtain ⟨rfl, rfl⟩ := ok_eq h; exact ha
end
end Go.Proofs.YtkmhdhnoghbkgaaGreatDoor
/- Plain: how bytes are spelled in a text (layer 7), and that they are read again. -/
namespace Go.Proofs.YtkmhdhnoghbkgaaGreatDoor.Tok
open Go.Proofs.YtkmhdhnoghbkgaaGreatDoor

def hexD (x : Nat) : UInt8 := if x < 10 then (48 + x).toUInt8 else (87 + x).toUInt8
/-- A byte as it is spelled in a text. -/
def escL (c : UInt8) : List UInt8 :=
  if c.toNat = 34 ∨ c.toNat = 92 then [92, c]
  else if c.toNat = 10 then [92, 110]
  else if plainC c then [c]
  else [92, 120, hexD (c.toNat / 16), hexD (c.toNat % 16)]
theorem hexV_hexD : ∀ x, x < 16 → hexV (hexD x) = some x := by decide +kernel
theorem esc_item (c : UInt8) (r : List UInt8) : ∃ d t, escL c = d :: t ∧ d.toNat ≠ 34 ∧ itemT d (t ++ r) = .ok c (escL c).length := by
  unfold escL
  by_cases h1 : c.toNat = 34 ∨ c.toNat = 92
  · rw [if_pos h1]
    refine ⟨92, [c], rfl, by decide, ?_⟩
    show (if plainC 92 = false then Tok.Item.bad 0 9 else _) = _
    rw [if_neg (by decide), if_neg (by decide)]
    show (if c.toNat = 34 ∨ c.toNat = 92 then Tok.Item.ok c 2 else _) = _
    rw [if_pos h1]
    rfl
  · rw [if_neg h1]
    by_cases h2 : c.toNat = 10
    · rw [if_pos h2]
      refine ⟨92, [110], rfl, by decide, ?_⟩
      have hc : c = 10 := UInt8.toNat.inj h2
      subst hc
      rfl
    · rw [if_neg h2]
      by_cases h3 : plainC c = true
      · rw [if_pos h3]
        refine ⟨c, [], rfl, by omega, ?_⟩
        unfold itemT
        rw [if_neg (by rw [h3]; simp), if_pos (by omega)]
        rfl
      · rw [if_neg h3]
        refine ⟨92, [120, hexD (c.toNat / 16), hexD (c.toNat % 16)], rfl, by decide, ?_⟩
        have hc := UInt8.toNat_lt c
        have e1 := hexV_hexD (c.toNat / 16) (by omega)
        have e2 := hexV_hexD (c.toNat % 16) (by omega)
        show hexT (hexD (c.toNat / 16) :: hexD (c.toNat % 16) :: r) = _
        simp only [hexT, e1, e2]
        rw [show 16 * (c.toNat / 16) + c.toNat % 16 = c.toNat by omega]
        simp
theorem textR_esc (r : List UInt8) : ∀ (tx acc : List UInt8) (n : Nat), acc.length + tx.length ≤ 4095 → textR (tx.flatMap escL ++ 34 :: r) acc n = .ok 3 (acc ++ tx) 0 (n + (tx.flatMap escL).length + 1)
  | [], acc, n, _ => by
    show textR (34 :: r) acc n = _
    rw [textR_end _ _ _ (by rfl)]
    simp
  | c :: tx, acc, n, h => by
    simp only [List.length_cons] at h
    obtain ⟨d, t, he, hd, hi⟩ := esc_item c (tx.flatMap escL ++ 34 :: r)
    rw [List.flatMap_cons, List.append_assoc, he, List.cons_append, textR_more n hd hi (by omega)]
    have hdrop : (d :: (t ++ (tx.flatMap escL ++ 34 :: r))).drop (escL c).length = tx.flatMap escL ++ 34 :: r := by
      rw [← List.cons_append, ← he]
      exact List.drop_left
    rw [hdrop, textR_esc r tx (acc ++ [c]) _ (by simp; omega), he]
    simp
    omega
/-- A text as it is spelled. -/
def textL (tx : List UInt8) : List UInt8 := 34 :: (tx.flatMap escL ++ [34])
theorem text_back (r tx : List UInt8) (h : tx.length ≤ 4095) : tokT (textL tx ++ r) = .ok 3 tx 0 (textL tx).length := by
  have e : textL tx ++ r = 34 :: (tx.flatMap escL ++ 34 :: r) := by simp [textL]
  rw [e, tokT_cons, if_neg (by decide), if_neg (by decide), if_pos (by rfl)]
  show textR (tx.flatMap escL ++ 34 :: r) [] 1 = _
  rw [textR_esc r tx [] 1 (by simpa using h)]
  simp [textL]
  omega
end Go.Proofs.YtkmhdhnoghbkgaaGreatDoor.Tok

/- token's putByte writes what TSpellP.escL says: all four ways walked (the fourth by go_region_law and step_append_lies). -/
namespace Go.Proofs.YtkmhdhnoghbkgaaGreatDoor
open Go.RowKit Tok
section
variable {w W : World} {base : Nat} {v : Value} {l : List UInt8}
/-- append(b, ..) of bytes that lie in a new block: at the operation. -/
theorem wpList_append_us {ops : Array Oper} {rest : List Oper} {o : Oper} {a : Act} {Q : Exit → Act → World → Prop} (hgd : o.guard = none) (s x : Operand)
    (ho : o.op = .call { callee := .builtin .append, args := #[s, x], argTypes := #[69, 69] })
    (hs : a.eval s = v) (hown : BufU w base v l) (m : List UInt8) {w2 : World} (hw : w = w2.alloc (.cells (Lib.byteCells m).toArray 5)) (hx : a.eval x = .slice (some ⟨w2.heap.size, 0, none⟩) m.length m.length)
    (hk : l.length + m.length ≤ 1000000000) (hbase : base ≤ w.heap.size)
    (h : ∀ a' cap w', BufU w' base (.slice a' (l.length + m.length) cap) (l ++ m) → Below base w w' → wpList Tryz.prog ops Q rest (a.put o.dst (.slice a' (l.length + m.length) cap)) w') : wpList Tryz.prog ops Q (o :: rest) a w := by
  obtain ⟨i0, hi, hz0, hz1, hz2⟩ := u8_parts
  subst hw
  refine wpList_append_own_at _ hgd s x 69 ho base 5 i0 (.int .u8 0) 1 1 Tryz.underlying69 hi hz0 hz1 hz2 rfl (by decide) v l.length (Lib.byteCells l) hs hown ⟨w2.heap.size, 0, none⟩ m.length m.length (Lib.byteCells m) hx (by rw [Lib.byteCells_length]; omega) (fun j u hj => cells_new w2 (Lib.byteCells m) _ j u hj) (byteCells_one m) (by unfold maxLen; omega) (by omega) hbase ?_
  intro v' w' h2 h3 _ _
  obtain ⟨a', cap, rfl, _⟩ := ownsRow_shape h2
  refine h a' cap w' ?_ ((Below.refl base _).grown h3 hbase (fun k hk => (World.ownsRow.lt hown k hk).1))
  unfold BufU
  rw [List.length_append, show Lib.byteCells (l ++ m) = Lib.byteCells l ++ Lib.byteCells m by simp [Lib.byteCells]]
  exact h2
/-- What a call that puts bytes behind b answers. -/
def PutU (w : World) (base : Nat) (l : List UInt8) (e : Ending) (w' : World) : Prop := ∃ v', e = .returned v' ∧ BufU w' base v' l ∧ Below base w w'

/-- A digit of the constant, as the walk reads it. -/
def hxV (x : Int) (h0 : 0 ≤ x) (h1 : x < 16) : Value := .int .u8 (((⟨#[48, 49, 50, 51, 52, 53, 54, 55, 56, 57, 97, 98, 99, 100, 101, 102]⟩ : ByteArray)[x.toNat]'(by show x.toNat < 16; omega)).toNat : Int)
theorem hx_eq (n : Nat) (x : Int) (h0 : 0 ≤ x) (h1 : x < 16) (hn : x = (n : Int)) : hxV x h0 h1 = .int .u8 ((hexD n).toNat : Int) := by
  subst hn
  have key : ∀ m, (h : m < 16) → (⟨#[48, 49, 50, 51, 52, 53, 54, 55, 56, 57, 97, 98, 99, 100, 101, 102]⟩ : ByteArray)[m]'h = hexD m := by decide +kernel
  unfold hxV
  simp only [Int.toNat_natCast]
  rw [key n (by omega)]
theorem hx_one (x y : Int) (h0 : 0 ≤ x) (h1 : x < 16) (h2 : 0 ≤ y) (h3 : y < 16) : ∀ u ∈ [Value.int .u8 92, .int .u8 120, hxV x h0 h1, hxV y h2 h3], u.oneCell' = true := by
  intro u hu
  simp only [List.mem_cons, List.not_mem_nil, or_false] at hu
  rcases hu with rfl | rfl | rfl | rfl <;> rfl
theorem and_all (c : UInt8) : bits BinOp.and IntKind.u8 (c.toNat : Int) 15 = (c.toNat : Int) % 16 := by
  revert c
  refine byte_all ?_
  decide +kernel
set_option maxRecDepth 20000 in
set_option maxHeartbeats 2000000 in
theorem putByte_any (h : BufU w base v l) (hb : base ≤ w.heap.size) (hl : l.length ≤ 100000000) (c : UInt8) :
    Calls Tryz.prog 110 #[v, .int .u8 (c.toNat : Int)] w (PutU w base (l ++ escL c)) := by
  have hsh := h.shape
  have hB := Lib.hid (fun (m : List UInt8) => BufU.below h ((Below.refl w.heap.size w).alloc (Nat.le_refl _) (.cells (Lib.byteCells m).toArray 5)))
  by_cases h1 : c.toNat = 34 ∨ c.toNat = 92
  · have he : escL c = [92, c] := if_pos h1
    rw [he]
    have hq : (((c.toNat : Int) == 34) = true) ∨ ((((c.toNat : Int) == 34) = false) ∧ (((c.toNat : Int) == 92) = true)) := by
      rcases h1 with h1 | h1
      · left; rw [h1]; rfl
      · right; rw [h1]; exact ⟨rfl, rfl⟩
    clear h1 he
    rcases hq with q1 | ⟨q1, q2⟩
    all_goals
      go_enter Tryz.func110, Tryz.ntmps110
      go_wp2_with (at_builtin; (refine wpList_append_us rfl _ _ rfl rfl (hB.out [92, c]) [92, c] rfl rfl (by simp; omega) (by simp; omega) ?_; intro a' cap' w3 hB3 hO3))
      go_ret
      exact ⟨_, rfl, hB3, ((Below.refl base w).alloc hb _).trans hO3⟩
  · have n1 : ((c.toNat : Int) == 34) = false := beq_eq_false_iff_ne.2 (by omega)
    have n2 : ((c.toNat : Int) == 92) = false := beq_eq_false_iff_ne.2 (by omega)
    by_cases h2 : c.toNat = 10
    · have he : escL c = [92, 110] := by unfold escL; rw [if_neg h1, if_pos h2]
      rw [he]
      have q1 : ((c.toNat : Int) == 10) = true := by rw [h2]; rfl
      clear h1 he
      replace h2 := Lib.hid h2
      go_enter Tryz.func110, Tryz.ntmps110
      go_wp2_with (at_builtin; (refine wpList_append_us rfl _ _ rfl rfl (hB.out [92, 110]) [92, 110] rfl rfl (by simp; omega) (by simp; omega) ?_; intro a' cap' w3 hB3 hO3))
      go_ret
      exact ⟨_, rfl, hB3, ((Below.refl base w).alloc hb _).trans hO3⟩
    · have q1 : ((c.toNat : Int) == 10) = false := beq_eq_false_iff_ne.2 (by omega)
      rcases hp : plainC c with _ | _
      · have k1 := Lib.hid (fun W => calls_at (isPlain_any c W) hp)
        have he : escL c = [92, 120, hexD (c.toNat / 16), hexD (c.toNat % 16)] := by unfold escL; rw [if_neg h1, if_neg h2, if_neg (by rw [hp]; simp)]
        rw [he]
        clear h1 h2 hp he
        go_enter Tryz.func110, Tryz.ntmps110
        go_wp2_with fail
        refine (k1.out _).mono ?_
        rintro e w2 ⟨rfl, rfl⟩
        obtain ⟨i0, hi, hz0, hz1, hz2⟩ := u8_parts
        have b1 : (0 : Int) ≤ (c.toNat : Int) / 16 := by omega
        have b2 : (c.toNat : Int) / 16 < 16 := by have := UInt8.toNat_lt c; omega
        have hand : bits BinOp.and IntKind.u8 (c.toNat : Int) 15 = (c.toNat : Int) % 16 := and_all c
        have b3 : (0 : Int) ≤ (c.toNat : Int) % 16 := by omega
        have b4 : (c.toNat : Int) % 16 < 16 := by omega
        have hown := Lib.hid (fun W (hW : Below w2.heap.size w2 W) => BufU.below h hW)
        go_wp2_with fail
        go_region_law ((refine step_append_lies (w2.drew.alloc (.cells #[.int .u8 92, .int .u8 120, hxV ((c.toNat : Int) / 16) b1 b2, hxV ((c.toNat : Int) % 16) b3 b4] 5)) rfl (.tmp 26) (.tmp 33) 69 rfl base 5 i0 (.int .u8 0) 1 1 Tryz.underlying69 hi hz0 hz1 hz2 rfl (by decide) v l.length (Lib.byteCells l) rfl (hown.out _ ((Below.refl _ w2).drew.alloc (Nat.le_refl _) _)) ⟨w2.heap.size, 0, none⟩ 4 4 [.int .u8 92, .int .u8 120, hxV ((c.toNat : Int) / 16) b1 b2, hxV ((c.toNat : Int) % 16) b3 b4] rfl rfl (fun j u hj => cells_new w2.drew _ _ j u hj) (hx_one _ _ _ _ _ _) (by omega) (by unfold maxLen; omega) (by omega) (by simp; omega) _ rfl ?_; intro g cap w3 h2 h3 _ _))
        all_goals
          go_wp2_with fail
          go_ret
          refine ⟨_, rfl, ?_, ((Below.refl base w2).drew.alloc hb _).grown h3 (by simp; omega) (fun k hk => (World.ownsRow.lt h k hk).1)⟩
          rw [hx_eq (c.toNat / 16) _ b1 b2 (by omega), hx_eq (c.toNat % 16) _ b3 b4 (by omega)] at h2
          unfold BufU
          rw [List.length_append, show Lib.byteCells (l ++ [92, 120, hexD (c.toNat / 16), hexD (c.toNat % 16)]) = Lib.byteCells l ++ Lib.byteCells [92, 120, hexD (c.toNat / 16), hexD (c.toNat % 16)] by simp [Lib.byteCells]]
          exact h2
      · have k1 := Lib.hid (fun W => calls_at (isPlain_any c W) hp)
        have he : escL c = [c] := by unfold escL; rw [if_neg h1, if_neg h2, if_pos hp]
        rw [he]
        clear h1 h2 hp he
        go_enter Tryz.func110, Tryz.ntmps110
        go_wp2_with fail
        refine (k1.out _).mono ?_
        rintro e w2 ⟨rfl, rfl⟩
        go_wp2_with (at_builtin; (refine wpList_append_us rfl _ _ rfl rfl (hB.out [c]) [c] rfl rfl (by simp; omega) (by simp; omega) ?_; intro a' cap' w3 hB3 hO3))
        go_ret
        exact ⟨_, rfl, hB3, ((Below.refl base _).alloc hb _).trans hO3⟩
end
end Go.Proofs.YtkmhdhnoghbkgaaGreatDoor

/- token's putText writes what TSpellP.textL says. -/
namespace Go.Proofs.YtkmhdhnoghbkgaaGreatDoor
open Go.RowKit Tok
theorem escL_len (c : UInt8) : (escL c).length ≤ 4 := by
  unfold escL
  repeat' split
  all_goals simp
theorem esc_take {s : ByteArray} {i : Nat} (h : i < s.size) : (s.data.toList.take (i + 1)).flatMap escL = (s.data.toList.take i).flatMap escL ++ escL s[i] := by
  rw [List.take_succ_eq_append_getElem (by simpa using h), List.flatMap_append]
  simp
  rfl
theorem esc_len : ∀ tx : List UInt8, (tx.flatMap escL).length ≤ 4 * tx.length
  | [] => by simp
  | c :: tx => by
    have h1 := escL_len c
    have h2 := esc_len tx
    rw [List.flatMap_cons, List.length_append, List.length_cons]
    omega
section
variable {w W : World} {base : Nat} {v : Value} {l : List UInt8}
set_option maxRecDepth 20000 in
set_option maxHeartbeats 2000000 in
theorem putText_any (h : BufU w base v l) (hb : base ≤ w.heap.size) (s : ByteArray) (hl : l.length + 4 * s.size ≤ 90000000) :
    Calls Tryz.prog 76 #[v, .string s] w (PutU w base (l ++ textL s.data.toList)) := by
  have hsh := h.shape
  have hB := Lib.hid (BufU.below h ((Below.refl w.heap.size w).alloc (Nat.le_refl _) (.cells (Lib.byteCells [34]).toArray 5)))
  go_enter Tryz.func76, Tryz.ntmps76
  go_wp2_with (at_builtin; (refine wpList_append_us rfl _ _ rfl rfl hB.out [34] rfl rfl (by simp; omega) (by simp; omega) ?_; intro a' cap' w3 hB3 hO3))
  replace hB3 := Lib.hid hB3
  have hO4 := Lib.hid (((Below.refl base w).alloc hb (.cells (Lib.byteCells [34]).toArray 5)).trans hO3)
  clear hO3
  go_loopw [0, 5, 11] (fun t0 _ t11 wr => ∃ i : Nat, i ≤ s.size ∧ t11 = .int .i64 i ∧ Hid (BufU wr base t0 (l ++ 34 :: (s.data.toList.take i).flatMap escL)) ∧ Hid (Below base w wr)) (fun _ _ t11 _ => s.size - (intOf t11).toNat)
  case atStart => exact ⟨0, by omega, rfl, by simpa using hB3, hO4⟩
  case round =>
    obtain ⟨i, hi, rfl, hBi, hOi⟩ := hrel
    have hbr : base ≤ wr.heap.size := Nat.le_trans hb hOi.out.size
    have hlen := esc_len (s.data.toList.take i)
    rw [List.length_take, size_list, Nat.min_eq_left hi] at hlen
    have hX : (l ++ 34 :: (s.data.toList.take i).flatMap escL).length ≤ l.length + 1 + 4 * i := by
      rw [List.length_append, List.length_cons]
      omega
    rcases Nat.lt_or_ge i s.size with hlt | hge
    · have hlti : ((i : Int) < (s.size : Int)) := by omega
      have hn : (l ++ 34 :: (s.data.toList.take (i + 1)).flatMap escL) = (l ++ 34 :: (s.data.toList.take i).flatMap escL) ++ escL s[i] := by
        rw [esc_take hlt]
        simp
      generalize l ++ 34 :: (s.data.toList.take i).flatMap escL = X at hBi hX hn
      replace hn := Lib.hid hn
      have k1 := Lib.hid (putByte_any hBi.out hbr (by omega) s[i])
      obtain ⟨a0, c0, rfl, _, _⟩ := hBi.out.shape
      go_wp2_with fail
      refine k1.out.mono ?_
      rintro e w2 ⟨v2, rfl, hB2, hO2⟩
      replace hB2 := Lib.hid hB2
      replace hO2 := Lib.hid hO2
      clear k1 hlen
      go_wp2
      go_roundw
      case rel => exact ⟨i + 1, by omega, by simp, by rw [hn.out]; exact hB2, hOi.out.trans hO2.out⟩
      case measure => simp [intOf]; omega
    · obtain rfl : i = s.size := by omega
      have hfull : s.data.toList.take s.size = s.data.toList := by rw [List.take_of_length_le]; simp
      have hn : l ++ textL s.data.toList = (l ++ 34 :: (s.data.toList.take s.size).flatMap escL) ++ [34] := by
        rw [hfull]
        simp [textL]
      replace hn := Lib.hid hn
      clear hlen hfull
      generalize l ++ 34 :: (s.data.toList.take s.size).flatMap escL = X at hBi hX hn
      have hB5 := Lib.hid (BufU.below hBi.out ((Below.refl wr.heap.size wr).alloc (Nat.le_refl _) (.cells (Lib.byteCells [34]).toArray 5)))
      obtain ⟨a0, c0, rfl, _, _⟩ := hBi.out.shape
      go_wp2_with (at_builtin; (refine wpList_append_us rfl _ _ rfl rfl hB5.out [34] rfl rfl (by simp; omega) (by simp; omega) ?_; intro a6 cap6 w6 hB6 hO6))
      go_ret
      refine ⟨_, rfl, ?_, hOi.out.trans (((Below.refl base wr).alloc hbr _).trans hO6)⟩
      rw [hn.out]
      exact hB6
end
end Go.Proofs.YtkmhdhnoghbkgaaGreatDoor
/- Tokens as they come in (layer 7): token.isSign, token.isTold, walked. Condition: token.signs holds the signs. -/
namespace Go.Proofs.YtkmhdhnoghbkgaaGreatDoor
open Go.RowKit Tok

/-- A token, whatever it holds. -/
structure Tg where
  kind : Nat
  text : List UInt8
  num : Int
  at_ : Int
  deriving DecidableEq
/-- All tells such a token. -/
def told (t : Tg) : Bool :=
  if t.kind = 1 then nameL t.text && decide (t.num = 0)
  else if t.kind = 2 then decide (0 ≤ t.num) && decide (t.text = [])
  else if t.kind = 3 then decide (t.text.length ≤ 4095) && decide (t.num = 0)
  else if t.kind = 4 then decide (t.text ∈ signs) && decide (t.num = 0)
  else false
def tgC (t : Tg) : List Value := [.int .u8 t.kind, .string ⟨t.text.toArray⟩, .int .i64 t.num, .int .i64 t.at_]
def tgV (t : Tg) : Value := .agg #[.int .u8 t.kind, .string ⟨t.text.toArray⟩, .int .i64 t.num, .int .i64 t.at_]
theorem bytes_self (s : ByteArray) : (⟨s.data.toList.toArray⟩ : ByteArray) = s := rfl
theorem bytes_eq {l m : List UInt8} : ((⟨l.toArray⟩ : ByteArray) = ⟨m.toArray⟩) ↔ l = m := by
  constructor
  · intro h
    have := congrArg (fun x : ByteArray => x.data.toList) h
    simpa using this
  · rintro rfl; rfl
theorem sign_from {j : Nat} (hj : j < 17) (S : List UInt8) : decide (S ∈ signs.drop j) = (decide (S = signs.getD j []) || decide (S ∈ signs.drop (j + 1))) := by
  have hl : j < signs.length := hj
  have e : signs.getD j [] = signs[j] := by rw [List.getD_eq_getElem?_getD, List.getElem?_eq_getElem hl]; rfl
  rw [List.drop_eq_getElem_cons hl, e]
  generalize signs[j] = T
  generalize List.drop (j + 1) signs = L
  by_cases h1 : S = T
  · rw [decide_eq_true h1, decide_eq_true (List.mem_cons.2 (.inl h1))]; rfl
  · rw [decide_eq_false h1, Bool.false_or]
    exact decide_eq_decide.2 ⟨fun h => (List.mem_cons.1 h).resolve_left h1, fun h => List.mem_cons.2 (.inr h)⟩

set_option maxRecDepth 20000 in
set_option maxHeartbeats 2000000 in
theorem isSign_any (S : List UInt8) (w : World) (hS : SignsOK w) :
    Calls Tryz.prog 74 #[.string ⟨S.toArray⟩] w fun e w' => e = .returned (.bool (decide (S ∈ signs))) ∧ w' = w := by
  obtain ⟨B, hB⟩ := exHid (decide (S ∈ signs))
  rw [hB.out]
  have s0 := hS 0 (by omega); have s1 := hS 1 (by omega); have s2 := hS 2 (by omega); have s3 := hS 3 (by omega); have s4 := hS 4 (by omega); have s5 := hS 5 (by omega); have s6 := hS 6 (by omega); have s7 := hS 7 (by omega); have s8 := hS 8 (by omega); have s9 := hS 9 (by omega); have s10 := hS 10 (by omega); have s11 := hS 11 (by omega); have s12 := hS 12 (by omega); have s13 := hS 13 (by omega); have s14 := hS 14 (by omega); have s15 := hS 15 (by omega); have s16 := hS 16 (by omega)
  simp only [signs, List.getD_cons_zero, List.getD_cons_succ] at s0 s1 s2 s3 s4 s5 s6 s7 s8 s9 s10 s11 s12 s13 s14 s15 s16
  clear hS
  go_enter Tryz.func74, Tryz.ntmps74
  go_wp2
  clear s0 s1 s2 s3 s4 s5 s6 s7 s8 s9 s10 s11 s12 s13 s14 s15 s16
  go_loop [4, 6] (fun t4 t6 => ∃ j : Nat, j ≤ 17 ∧ t6 = .int .i64 j ∧ Hid (decide (S ∈ signs.drop j) = B)) (fun _ t6 => 17 - (intOf t6).toNat)
  case atStart => exact ⟨0, by omega, rfl, by simpa using hB⟩
  case round =>
    obtain ⟨j, hj, rfl, hsg⟩ := hrel
    rcases Nat.lt_or_ge j 17 with hjl | hjg
    · have hjli : (j : Int) < 17 := by omega
      have hix := index_sign hjl w
      unfold signsV at hix
      have hst := sign_from hjl S
      rw [hsg.out] at hst
      generalize signs.getD j [] = T at *
      by_cases hq : S = T
      · have hv : B = true := by rw [hst, decide_eq_true hq]; rfl
        have e1 : (S == T) = true := beq_iff_eq.2 hq
        replace hv := Lib.hid hv
        replace hst := Lib.hid hst
        replace hq := Lib.hid hq
        go_wp2
        go_ret
        exact ⟨ret_bool (by rw [hv.out]), rfl⟩
      · have e1 : (S == T) = false := beq_eq_false_iff_ne.2 hq
        rw [decide_eq_false hq, Bool.false_or] at hst
        have hst' := Lib.hid hst.symm
        clear hst
        replace hq := Lib.hid hq
        go_wp2
        go_round
        case rel => exact ⟨j + 1, by omega, by go_num, hst'⟩
        case measure => simp [intOf]; omega
    · obtain rfl : j = 17 := by omega
      have hv : B = false := by
        rw [← hsg.out]
        exact decide_eq_false (by simp [signs])
      replace hv := Lib.hid hv
      go_wp2
      go_ret
      exact ⟨ret_bool (by rw [hv.out]), rfl⟩

end Go.Proofs.YtkmhdhnoghbkgaaGreatDoor
