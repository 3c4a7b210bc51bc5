/- Plain: the document's slots of a right tree (layer 11), and that they are the program's. No condition. -/
import Derived.Test.YtnghfjlmmmjekaaCkU
namespace Go.Proofs.Ytnghfjlmmmjekaa
open Go.RowKit Go.Shelf

/-- What the document knows on its way: the slots told, how many variables there are, the first fault. -/
structure D11 where
  l : List Int
  made : Nat
  at_ : Nat
  e : Int
def wrongD (S : D11) (i : Nat) (e : Int) : D11 := if S.e = 0 then ⟨S.l, S.made, i, e⟩ else S
def makeD (S : D11) (i : Nat) (seen : List (List UInt8 × Nat)) (s : List UInt8) : D11 :=
  ⟨(if 100 ≤ S.made then wrongD (if (findL seen s).isSome then wrongD S i 111 else S) i 2 else (if (findL seen s).isSome then wrongD S i 111 else S)).l.set i (S.made : Int), S.made + 1,
    (if 100 ≤ S.made then wrongD (if (findL seen s).isSome then wrongD S i 111 else S) i 2 else (if (findL seen s).isSome then wrongD S i 111 else S)).at_,
    (if 100 ≤ S.made then wrongD (if (findL seen s).isSome then wrongD S i 111 else S) i 2 else (if (findL seen s).isSome then wrongD S i 111 else S)).e⟩
def useD (x : Tw) (i : Nat) (seen : List (List UInt8 × Nat)) (S : D11) : D11 :=
  if x.op = 5 ∨ x.op = 26 then (match findL seen x.text with
    | some v => ⟨S.l.set i (v : Int), S.made, S.at_, S.e⟩
    | none => wrongD ⟨S.l.set i (-1), S.made, S.at_, S.e⟩ i 110) else S
/-- Trees one behind the other, from place i on; in a block (bl) a let is seen by what stands behind it. -/
def dF : Bool → Fs → Nat → List (List UInt8 × Nat) → D11 → D11
  | _, .nil, _, _, S => S
  | bl, .cons x k r, i, seen, S =>
    if bl = true ∧ x.op = 4 then dF bl r (i + 1 + k.flat.length) (seen ++ [(x.text, S.made)]) (dF false k (i + 1) seen (makeD S i seen x.text))
    else dF bl r (i + 1 + k.flat.length) seen (dF (decide (x.op = 3)) k (i + 1) seen (useD x i seen S))
theorem wrong_keep {S : D11} (h : S.e ≠ 0) (i : Nat) (e : Int) : wrongD S i e = S := by unfold wrongD; rw [if_neg h]
theorem make_keep {S : D11} (h : S.e ≠ 0) (i : Nat) (seen : List (List UInt8 × Nat)) (s : List UInt8) : (makeD S i seen s).e = S.e ∧ (makeD S i seen s).at_ = S.at_ := by
  unfold makeD
  dsimp only
  have h1 : (if (findL seen s).isSome = true then wrongD S i 111 else S) = S := by rw [wrong_keep h]; split <;> rfl
  rw [h1, wrong_keep h]
  have h2 : (if 100 ≤ S.made then S else S) = S := by split <;> rfl
  rw [h2]
  exact ⟨rfl, rfl⟩
theorem use_keep {S : D11} (h : S.e ≠ 0) (x : Tw) (i : Nat) (seen : List (List UInt8 × Nat)) : (useD x i seen S).e = S.e ∧ (useD x i seen S).at_ = S.at_ := by
  unfold useD
  split
  · split
    · exact ⟨rfl, rfl⟩
    · rw [wrong_keep (by exact h)]
      exact ⟨rfl, rfl⟩
  · exact ⟨rfl, rfl⟩
theorem dF_keep : ∀ (F : Fs) (bl : Bool) (i : Nat) (seen : List (List UInt8 × Nat)) (S : D11), S.e ≠ 0 → (dF bl F i seen S).e = S.e ∧ (dF bl F i seen S).at_ = S.at_
  | .nil, _, _, _, _, _ => ⟨rfl, rfl⟩
  | .cons x k r, bl, i, seen, S, h => by
    unfold dF
    split
    · obtain ⟨a1, a2⟩ := make_keep h i seen x.text
      obtain ⟨b1, b2⟩ := dF_keep k false (i + 1) seen _ (by rw [a1]; exact h)
      obtain ⟨c1, c2⟩ := dF_keep r bl (i + 1 + k.flat.length) (seen ++ [(x.text, S.made)]) _ (by rw [b1, a1]; exact h)
      exact ⟨by rw [c1, b1, a1], by rw [c2, b2, a2]⟩
    · obtain ⟨a1, a2⟩ := use_keep h x i seen
      obtain ⟨b1, b2⟩ := dF_keep k (decide (x.op = 3)) (i + 1) seen _ (by rw [a1]; exact h)
      obtain ⟨c1, c2⟩ := dF_keep r bl (i + 1 + k.flat.length) seen _ (by rw [b1, a1]; exact h)
      exact ⟨by rw [c1, b1, a1], by rw [c2, b2, a2]⟩
/-- The slots so far, and the others not told. -/
def tailD (n : Nat) (l : List Int) : List Int := l ++ List.replicate (n - l.length) (-1)
def okD (n : Nat) (st : CSt) : D11 := ⟨tailD n st.l, st.made, 0, 0⟩
theorem tail_set {l : List Int} {n : Nat} (h : l.length < n) (v : Int) : (tailD n l).set l.length v = tailD n (l ++ [v]) := by
  obtain ⟨m, hm⟩ : ∃ m, n - l.length = m + 1 := ⟨n - l.length - 1, by omega⟩
  unfold tailD
  rw [hm, List.replicate_succ, List.set_append, if_neg (by omega), Nat.sub_self, List.set_cons_zero, List.append_assoc, List.length_append, List.length_singleton, show n - (l.length + 1) = m by omega]
  rfl
theorem tail_none {l : List Int} {n : Nat} (h : l.length < n) : tailD n l = tailD n (l ++ [-1]) := by
  obtain ⟨m, hm⟩ : ∃ m, n - l.length = m + 1 := ⟨n - l.length - 1, by omega⟩
  unfold tailD
  rw [hm, List.replicate_succ, List.append_assoc, List.length_append, List.length_singleton, show n - (l.length + 1) = m by omega]
  rfl
theorem slot_make {st : CSt} {x : Tw} {n : Nat} (hg : GoodC st) (hn : st.l.length < n) (h : x.op = 2 ∨ x.op = 4) :
    ((slotC st x).2.2 ≠ 0 → (makeD (okD n st) st.l.length st.seen x.text).e = (slotC st x).2.2 ∧ (makeD (okD n st) st.l.length st.seen x.text).at_ = st.l.length) ∧
    ((slotC st x).2.2 = 0 → makeD (okD n st) st.l.length st.seen x.text = okD n ⟨st.l ++ [(slotC st x).1], st.seen, (slotC st x).2.1⟩) := by
  have hf := hg.few
  unfold slotC
  rw [if_pos h]
  unfold makeD okD
  dsimp only
  cases hF : (findL st.seen x.text).isSome with
  | true =>
    simp only [↓reduceIte, wrongD]
    refine ⟨fun _ => ?_, fun h => absurd h (by decide)⟩
    split <;> simp
  | false =>
    simp only [Bool.false_eq_true, ↓reduceIte]
    by_cases h1 : st.made = 100
    · rw [if_pos h1, if_pos (show 100 ≤ st.made by omega)]
      exact ⟨fun _ => ⟨rfl, rfl⟩, fun h => absurd h (show ¬ (2 : Int) = 0 by decide)⟩
    · rw [if_neg h1, if_neg (show ¬ 100 ≤ st.made by omega)]
      refine ⟨fun h => absurd rfl h, fun _ => ?_⟩
      dsimp only
      rw [tail_set hn]
theorem slot_use {st : CSt} {x : Tw} {n : Nat} (hn : st.l.length < n) (h : ¬ (x.op = 2 ∨ x.op = 4)) :
    ((slotC st x).2.2 ≠ 0 → (useD x st.l.length st.seen (okD n st)).e = (slotC st x).2.2 ∧ (useD x st.l.length st.seen (okD n st)).at_ = st.l.length) ∧
    ((slotC st x).2.2 = 0 → useD x st.l.length st.seen (okD n st) = okD n ⟨st.l ++ [(slotC st x).1], st.seen, (slotC st x).2.1⟩) := by
  unfold slotC
  rw [if_neg h]
  unfold useD okD
  by_cases h1 : x.op = 5 ∨ x.op = 26
  · rw [if_pos h1, if_pos h1]
    cases hF : findL st.seen x.text with
    | some v =>
      refine ⟨fun h => absurd rfl h, fun _ => ?_⟩
      dsimp only
      rw [tail_set hn]
    | none =>
      refine ⟨fun _ => ?_, fun h => absurd h (show ¬ (110 : Int) = 0 by decide)⟩
      unfold wrongD
      exact ⟨rfl, rfl⟩
  · rw [if_neg h1, if_neg h1]
    refine ⟨fun h => absurd rfl h, fun _ => ?_⟩
    dsimp only
    rw [← tail_none hn]
/-- None of them is a flow or a parameter. -/
def Fs.stm : Fs → Prop
  | .nil => True
  | .cons x _ r => x.op ≠ 1 ∧ x.op ≠ 2 ∧ r.stm
theorem stmt_ops {op : Nat} (h : stmtB op = true) : op ≠ 1 ∧ op ≠ 2 := by
  refine ⟨?_, ?_⟩ <;> (rintro rfl; revert h; decide)
theorem parts_stm (n : Int) : ∀ (F : Fs) (p : Nat), F.part 3 n p → F.stm
  | .nil, _, _ => trivial
  | .cons x k r, p, ⟨a, b⟩ => by
    have ha : stmtB ((x.op : Int).toNat) = true := a
    rw [Int.toNat_natCast] at ha
    exact ⟨(stmt_ops ha).1, (stmt_ops ha).2, parts_stm n r (p + 1) b⟩
theorem plain_stm : ∀ {F : Fs}, F.plain → F.stm
  | .nil, _ => trivial
  | .cons _ _ _, ⟨a, b, _, d⟩ => ⟨a, b, plain_stm d⟩
/-- What is seen behind a tree. -/
theorem tree_seen {x : Tw} {k : Fs} {st : CSt} (hok : (Fs.cons x k .nil).ok) (hg : GoodC st) (h1 : x.op ≠ 1) (h : (treeC x k st).2 = 0) :
    GoodC (treeC x k st).1 ∧ (treeC x k st).1.seen = if x.op = 2 ∨ x.op = 4 then st.seen ++ [(x.text, st.made)] else st.seen := by
  have hG := trees_good (.cons x k .nil) st hok hg (by rw [tree_one]; exact h)
  rw [tree_one] at hG
  refine ⟨hG.1, ?_⟩
  by_cases c : x.op = 2 ∨ x.op = 4
  · rw [if_pos c]
    obtain ⟨⟨kd, hk, ha, hp⟩, hn, hko, _⟩ := hok
    unfold treeC at h ⊢
    by_cases e1 : (slotC st x).2.2 ≠ 0
    · rw [if_pos e1] at h; exact absurd h e1
    · rw [if_neg e1] at h ⊢
      obtain ⟨s1, s2, s3⟩ := slot_ok hg e1
      have hg1 : GoodC ⟨st.l ++ [(slotC st x).1], st.seen, (slotC st x).2.1⟩ := ⟨hg.nd, s2, fun p hp => Nat.lt_of_lt_of_le (hg.lt p hp) s1, Nat.le_trans hg.len s1, hg.tl⟩
      by_cases e2 : (treesC k ⟨st.l ++ [(slotC st x).1], st.seen, (slotC st x).2.1⟩).2 ≠ 0
      · rw [if_pos e2] at h; exact absurd h e2
      · rw [if_neg e2]
        obtain ⟨_, _, ex, i3, i4⟩ := trees_good k _ hko hg1 (by omega)
        have hpl : ex = [] := i4 (kind_plain hk h1 (by omega) hp)
        subst hpl
        rw [List.append_nil] at i3
        obtain ⟨_, t2, _⟩ := s3 c
        unfold endC
        rw [if_pos c]
        show (treesC k ⟨st.l ++ [(slotC st x).1], st.seen, (slotC st x).2.1⟩).1.seen ++ [(x.text, (slotC st x).1.toNat)] = _
        rw [i3, t2, Int.toNat_natCast]
  · rw [if_neg c]
    obtain ⟨_, _, ex, i3, i4⟩ := hG
    rw [i4 ⟨h1, fun e => c (.inl e), fun e => c (.inr e), trivial⟩, List.append_nil] at i3
    exact i3
theorem end_l (x : Tw) (s : Int) (m : Nat) (st : CSt) : (endC x s m st).l = st.l ∧ (endC x s m st).made = st.made := by
  unfold endC
  split
  · exact ⟨rfl, rfl⟩
  · split <;> exact ⟨rfl, rfl⟩
theorem flat_len (x : Tw) (k r : Fs) : (Fs.cons x k r).flat.length = 1 + k.flat.length + r.flat.length := by
  show (x :: (k.flat ++ r.flat)).length = _
  rw [List.length_cons, List.length_append]
  omega
theorem dF_is (n : Nat) : ∀ (F : Fs) (bl : Bool) (st : CSt), F.ok → (if bl = true then F.stm else F.plain) → GoodC st → st.l.length + F.flat.length ≤ n →
    ((treesC F st).2 ≠ 0 → (dF bl F st.l.length st.seen (okD n st)).e = (treesC F st).2 ∧ (dF bl F st.l.length st.seen (okD n st)).at_ = (treesC F st).1.l.length) ∧
    ((treesC F st).2 = 0 → dF bl F st.l.length st.seen (okD n st) = okD n (treesC F st).1 ∧ (treesC F st).1.l.length = st.l.length + F.flat.length)
  | .nil, bl, st, _, _, _, _ => ⟨fun h => absurd rfl h, fun _ => ⟨rfl, rfl⟩⟩
  | .cons x k r, bl, st, hok, hst, hg, hl => by
    have ⟨⟨kd, hk, ha, hp⟩, hn, hko, hro⟩ := hok
    have hlen := flat_len x k r
    have hx1 : x.op ≠ 1 := by cases bl <;> exact hst.1
    have hx2 : x.op ≠ 2 := by cases bl <;> exact hst.2.1
    have hr' : if bl = true then r.stm else r.plain := by
      cases bl
      · exact hst.2.2.2
      · exact hst.2.2
    have key : ∀ (mk : Bool) (S1 : D11) (seen' : List (List UInt8 × Nat)), ((slotC st x).2.2 ≠ 0 → S1.e = (slotC st x).2.2 ∧ S1.at_ = st.l.length) →
        ((slotC st x).2.2 = 0 → S1 = okD n ⟨st.l ++ [(slotC st x).1], st.seen, (slotC st x).2.1⟩) → (if mk = true then k.stm else k.plain) → ((treeC x k st).2 = 0 → (treeC x k st).1.seen = seen') →
        ((treesC (.cons x k r) st).2 ≠ 0 → (dF bl r (st.l.length + 1 + k.flat.length) seen' (dF mk k (st.l.length + 1) st.seen S1)).e = (treesC (.cons x k r) st).2 ∧ (dF bl r (st.l.length + 1 + k.flat.length) seen' (dF mk k (st.l.length + 1) st.seen S1)).at_ = (treesC (.cons x k r) st).1.l.length) ∧
        ((treesC (.cons x k r) st).2 = 0 → dF bl r (st.l.length + 1 + k.flat.length) seen' (dF mk k (st.l.length + 1) st.seen S1) = okD n (treesC (.cons x k r) st).1 ∧ (treesC (.cons x k r) st).1.l.length = st.l.length + (Fs.cons x k r).flat.length) := by
      intro mk S1 seen' h1 h2 h3 h4
      rw [trees_step]
      by_cases e1 : (slotC st x).2.2 ≠ 0
      · have hT : treeC x k st = (st, (slotC st x).2.2) := by unfold treeC; rw [if_pos e1]
        obtain ⟨a1, a2⟩ := h1 e1
        obtain ⟨b1, b2⟩ := dF_keep k mk (st.l.length + 1) st.seen S1 (by rw [a1]; exact e1)
        obtain ⟨c1, c2⟩ := dF_keep r bl (st.l.length + 1 + k.flat.length) seen' _ (by rw [b1, a1]; exact e1)
        rw [hT, if_pos e1]
        exact ⟨fun _ => ⟨by rw [c1, b1, a1], by rw [c2, b2, a2]⟩, fun h => absurd h e1⟩
      · have e1' : (slotC st x).2.2 = 0 := by omega
        obtain ⟨s1, s2, s3⟩ := slot_ok hg e1
        have hg1 : GoodC ⟨st.l ++ [(slotC st x).1], st.seen, (slotC st x).2.1⟩ := ⟨hg.nd, s2, fun p hp => Nat.lt_of_lt_of_le (hg.lt p hp) s1, Nat.le_trans hg.len s1, hg.tl⟩
        have hl1 : (st.l ++ [(slotC st x).1]).length = st.l.length + 1 := by rw [List.length_append]; rfl
        have hkk := dF_is n k mk ⟨st.l ++ [(slotC st x).1], st.seen, (slotC st x).2.1⟩ hko h3 hg1 (by dsimp only; rw [hl1]; omega)
        dsimp only at hkk
        rw [hl1] at hkk
        rw [h2 e1']
        by_cases e2 : (treesC k ⟨st.l ++ [(slotC st x).1], st.seen, (slotC st x).2.1⟩).2 ≠ 0
        · have hT : treeC x k st = treesC k ⟨st.l ++ [(slotC st x).1], st.seen, (slotC st x).2.1⟩ := by unfold treeC; rw [if_neg e1, if_pos e2]
          obtain ⟨a1, a2⟩ := hkk.1 e2
          obtain ⟨c1, c2⟩ := dF_keep r bl (st.l.length + 1 + k.flat.length) seen' _ (by rw [a1]; exact e2)
          rw [hT, if_pos e2]
          exact ⟨fun _ => ⟨by rw [c1, a1], by rw [c2, a2]⟩, fun h => absurd h e2⟩
        · have hT : treeC x k st = (endC x (slotC st x).1 st.seen.length (treesC k ⟨st.l ++ [(slotC st x).1], st.seen, (slotC st x).2.1⟩).1, 0) := by unfold treeC; rw [if_neg e1, if_neg e2]
          have hT2 : (treeC x k st).2 = 0 := by rw [hT]
          obtain ⟨a1, a2⟩ := hkk.2 (by omega)
          obtain ⟨hEl, hEm⟩ := end_l x (slotC st x).1 st.seen.length (treesC k ⟨st.l ++ [(slotC st x).1], st.seen, (slotC st x).2.1⟩).1
          have hok1 : okD n (treeC x k st).1 = okD n (treesC k ⟨st.l ++ [(slotC st x).1], st.seen, (slotC st x).2.1⟩).1 := by
            unfold okD
            rw [hT]
            dsimp only
            rw [hEl, hEm]
          have hgT := (tree_seen ⟨⟨kd, hk, ha, hp⟩, hn, hko, trivial⟩ hg hx1 hT2).1
          have hlT : (treeC x k st).1.l.length = st.l.length + 1 + k.flat.length := by
            rw [hT]
            dsimp only
            rw [hEl, a2]
          have hrr := dF_is n r bl (treeC x k st).1 hro hr' hgT (by omega)
          rw [hlT, h4 hT2, hok1, ← a1] at hrr
          rw [if_neg (by omega)]
          exact ⟨hrr.1, fun h => ⟨(hrr.2 h).1, by rw [(hrr.2 h).2]; omega⟩⟩
    have hlt : st.l.length < n := by omega
    unfold dF
    by_cases c4 : bl = true ∧ x.op = 4
    · rw [if_pos c4]
      have hS := slot_make hg hlt (x := x) (.inr c4.2)
      refine key false _ _ hS.1 hS.2 (by rw [if_neg (by decide)]; exact kind_plain hk hx1 (by omega) hp) (fun h => ?_)
      rw [(tree_seen ⟨⟨kd, hk, ha, hp⟩, hn, hko, trivial⟩ hg hx1 h).2, if_pos (.inr c4.2)]
      rfl
    · rw [if_neg c4]
      have h4 : x.op ≠ 4 := by
        cases bl
        · exact hst.2.2.1
        · exact fun e => c4 ⟨rfl, e⟩
      have h24 : ¬ (x.op = 2 ∨ x.op = 4) := by omega
      have hS := slot_use hlt (x := x) (st := st) h24
      refine key (decide (x.op = 3)) _ _ hS.1 hS.2 ?_ (fun h => ?_)
      · by_cases h3 : x.op = 3
        · rw [if_pos (decide_eq_true h3)]
          have : kd.part = 3 := by
            rcases kind_parts hk with e | ⟨e, _⟩ | ⟨e, e2⟩ | ⟨e, _⟩ | ⟨e, _⟩ | ⟨e, _⟩
            · rw [h3] at hk
              have h2 : (kindOf 3).map (·.part) = some 3 := by decide
              rw [hk] at h2
              simp at h2
              exact h2
            all_goals omega
          rw [this] at hp
          exact parts_stm _ k 0 hp
        · rw [if_neg (by simpa using h3)]
          exact kind_plain hk hx1 h3 hp
      · rw [(tree_seen ⟨⟨kd, hk, ha, hp⟩, hn, hko, trivial⟩ hg hx1 h).2, if_neg h24]
/-- A flow's parts: what makes variables, and the block. -/
def dP : Fs → Nat → List (List UInt8 × Nat) → D11 → D11
  | .nil, _, _, S => S
  | .cons x k .nil, i, seen, S => dF false (.cons x k .nil) i seen S
  | .cons x k (.cons y k2 r), i, seen, S => dP (.cons y k2 r) (i + 1 + k.flat.length) (seen ++ [(x.text, S.made)]) (makeD S i seen x.text)
theorem dP_keep : ∀ (F : Fs) (i : Nat) (seen : List (List UInt8 × Nat)) (S : D11), S.e ≠ 0 → (dP F i seen S).e = S.e ∧ (dP F i seen S).at_ = S.at_
  | .nil, _, _, _, _ => ⟨rfl, rfl⟩
  | .cons x k .nil, i, seen, S, h => by
    unfold dP
    exact dF_keep _ _ _ _ _ h
  | .cons x k (.cons y k2 r), i, seen, S, h => by
    unfold dP
    obtain ⟨a1, a2⟩ := make_keep h i seen x.text
    obtain ⟨c1, c2⟩ := dP_keep (.cons y k2 r) (i + 1 + k.flat.length) (seen ++ [(x.text, S.made)]) _ (by rw [a1]; exact h)
    exact ⟨by rw [c1, a1], by rw [c2, a2]⟩
theorem param_nil {x : Tw} {k : Fs} {kd : Kind} (hk : kindOf x.op = some kd) (ha : allowsB kd x = true) (h2 : x.op = 2) (hn : x.kids = (k.count : Int)) : k = .nil := by
  have h : (kindOf 2).map (·.most) = some 0 := by decide
  rw [h2] at hk
  rw [hk] at h
  simp at h
  unfold allowsB at ha
  simp only [Bool.and_eq_true, decide_eq_true_eq] at ha
  have := ha.1.2
  rw [h, hn] at this
  cases k with
  | nil => rfl
  | cons a b c =>
    have : c.count + 1 ≤ 0 := by
      have e : ((Fs.cons a b c).count : Int) = (c.count : Int) + 1 := by show ((c.count + 1 : Nat) : Int) = _; omega
      omega
    omega
theorem dP_is (n : Nat) (m : Int) : ∀ (F : Fs) (p : Nat) (st : CSt), F ≠ .nil → F.ok → F.part 2 m p → (p : Int) + (F.count : Int) = m → GoodC st → st.l.length + F.flat.length ≤ n →
    ((treesC F st).2 ≠ 0 → (dP F st.l.length st.seen (okD n st)).e = (treesC F st).2 ∧ (dP F st.l.length st.seen (okD n st)).at_ = (treesC F st).1.l.length) ∧
    ((treesC F st).2 = 0 → dP F st.l.length st.seen (okD n st) = okD n (treesC F st).1 ∧ (treesC F st).1.l.length = st.l.length + F.flat.length)
  | .nil, _, _, h, _, _, _, _, _ => absurd rfl h
  | .cons x k .nil, p, st, _, hok, hp, hm, hg, hl => by
    unfold dP
    refine dF_is n (.cons x k .nil) false st hok ?_ hg hl
    have h3 : x.op = 3 := by
      have h := hp.1
      unfold partOK at h
      rw [if_neg (by decide), if_pos rfl, if_neg (by have : ((Fs.cons x k .nil).count : Int) = 1 := rfl; omega)] at h
      have : (x.op : Int) = 3 := by simpa using h
      omega
    rw [if_neg (by decide)]
    exact ⟨by omega, by omega, by omega, trivial⟩
  | .cons x k (.cons y k2 r), p, st, _, hok, hp, hm, hg, hl => by
    have ⟨⟨kd, hk, ha, hpk⟩, hn, hko, hro⟩ := hok
    have hcn : ((Fs.cons x k (.cons y k2 r)).count : Int) = ((Fs.cons y k2 r).count : Int) + 1 := by show ((Fs.count (.cons y k2 r) + 1 : Nat) : Int) = _; omega
    have hc1 : ((Fs.cons y k2 r).count : Int) = (r.count : Int) + 1 := by show ((Fs.count r + 1 : Nat) : Int) = _; omega
    have h2 : x.op = 2 := by
      have h := hp.1
      unfold partOK at h
      rw [if_neg (by decide), if_pos rfl, if_pos (by omega)] at h
      have : (x.op : Int) = 2 := by simpa using h
      omega
    obtain rfl := param_nil hk ha h2 hn
    have hlen := flat_len x .nil (.cons y k2 r)
    have hn0 : (Fs.nil).flat.length = 0 := rfl
    have hlt : st.l.length < n := by omega
    have hS := slot_make hg hlt (x := x) (.inl h2)
    unfold dP
    rw [trees_step]
    by_cases e1 : (slotC st x).2.2 ≠ 0
    · have hT : treeC x .nil st = (st, (slotC st x).2.2) := by unfold treeC; rw [if_pos e1]
      obtain ⟨a1, a2⟩ := hS.1 e1
      obtain ⟨c1, c2⟩ := dP_keep (.cons y k2 r) (st.l.length + 1 + (Fs.nil).flat.length) (st.seen ++ [(x.text, (okD n st).made)]) _ (by rw [a1]; exact e1)
      rw [hT, if_pos e1]
      exact ⟨fun _ => ⟨by rw [c1, a1], by rw [c2, a2]⟩, fun h => absurd h e1⟩
    · have hT : treeC x .nil st = (endC x (slotC st x).1 st.seen.length ⟨st.l ++ [(slotC st x).1], st.seen, (slotC st x).2.1⟩, 0) := by
        unfold treeC
        rw [if_neg e1]
        show (if (0 : Int) ≠ 0 then _ else _) = _
        rw [if_neg (by decide)]
        rfl
      have hT2 : (treeC x .nil st).2 = 0 := by rw [hT]
      obtain ⟨hEl, hEm⟩ := end_l x (slotC st x).1 st.seen.length ⟨st.l ++ [(slotC st x).1], st.seen, (slotC st x).2.1⟩
      have hok1 : okD n (treeC x .nil st).1 = okD n ⟨st.l ++ [(slotC st x).1], st.seen, (slotC st x).2.1⟩ := by
        unfold okD
        rw [hT]
        dsimp only
        rw [hEl, hEm]
      obtain ⟨hgT, hse⟩ := tree_seen ⟨⟨kd, hk, ha, hpk⟩, hn, hko, trivial⟩ hg (by omega) hT2
      rw [if_pos (.inl h2)] at hse
      have hlT : (treeC x .nil st).1.l.length = st.l.length + 1 := by
        rw [hT]
        dsimp only
        rw [hEl]
        simp
      have hrr := dP_is n m (.cons y k2 r) (p + 1) (treeC x .nil st).1 (by simp) hro hp.2 (by omega) hgT (by omega)
      rw [hlT, hse, hok1, ← hS.2 (by omega)] at hrr
      rw [if_neg (by omega), hn0]
      exact ⟨hrr.1, fun h => ⟨(hrr.2 h).1, by rw [(hrr.2 h).2]; omega⟩⟩
/-- What the document's way comes to is what the program finds. -/
theorem doc_is {x : Tw} {K : Fs} (h1 : x.op = 1) (hok : (Fs.cons x K .nil).ok) :
    ((dP K 1 [] ⟨List.replicate (1 + K.flat.length) (-1), 0, 0, 0⟩).e ≠ 0 → slotsF x K = ([], ((dP K 1 [] ⟨List.replicate (1 + K.flat.length) (-1), 0, 0, 0⟩).at_ : Int), (dP K 1 [] ⟨List.replicate (1 + K.flat.length) (-1), 0, 0, 0⟩).e)) ∧
    ((dP K 1 [] ⟨List.replicate (1 + K.flat.length) (-1), 0, 0, 0⟩).e = 0 → slotsF x K = ((dP K 1 [] ⟨List.replicate (1 + K.flat.length) (-1), 0, 0, 0⟩).l, 0, 0)) := by
  obtain ⟨⟨kd, hk, ha, hp⟩, hn, hko, _⟩ := hok
  have hkk : (kindOf 1).map (fun k => (k.part, k.least)) = some (2, 1) := by decide
  rw [h1] at hk
  rw [hk] at hkk
  simp at hkk
  obtain ⟨hk2, hkl⟩ := hkk
  rw [hk2] at hp
  have hne : K ≠ .nil := by
    rintro rfl
    unfold allowsB at ha
    simp only [Bool.and_eq_true, decide_eq_true_eq] at ha
    have := ha.1.1.2
    rw [hkl, hn] at this
    exact absurd this (by decide)
  have hs0 : slotC st0 x = (-1, 0, 0) := by
    unfold slotC
    rw [if_neg (by omega), if_neg (by omega)]
    rfl
  have hg1 : GoodC ⟨[-1], [], 0⟩ := ⟨List.nodup_nil, by decide, fun p h => (by cases h), by decide, fun p h => (by cases h)⟩
  have e0 : (⟨List.replicate (1 + K.flat.length) (-1), 0, 0, 0⟩ : D11) = okD (1 + K.flat.length) ⟨[-1], [], 0⟩ := by
    unfold okD tailD
    rw [List.length_singleton, show 1 + K.flat.length - 1 = K.flat.length by omega, show 1 + K.flat.length = K.flat.length + 1 by omega, List.replicate_succ]
    rfl
  have hm := dP_is (1 + K.flat.length) x.kids K 0 ⟨[-1], [], 0⟩ hne hko hp (by rw [hn]; simp) hg1 (Nat.le_refl _)
  rw [e0]
  have hT : treeC x K st0 = if (treesC K ⟨[-1], [], 0⟩).2 ≠ 0 then treesC K ⟨[-1], [], 0⟩ else (endC x (-1) 0 (treesC K ⟨[-1], [], 0⟩).1, 0) := by
    unfold treeC
    simp only [hs0]
    rw [if_neg (show ¬ (0 : Int) ≠ 0 by decide)]
    rfl
  have hl1 : ([-1] : List Int).length = 1 := rfl
  dsimp only at hm
  rw [hl1] at hm
  by_cases e2 : (treesC K ⟨[-1], [], 0⟩).2 ≠ 0
  · obtain ⟨a1, a2⟩ := hm.1 e2
    rw [if_pos e2] at hT
    unfold slotsF
    rw [if_neg (fun h => h h1), hT, if_pos e2, a1, a2]
    exact ⟨fun _ => rfl, fun h => absurd h e2⟩
  · obtain ⟨a1, a2⟩ := hm.2 (by omega)
    rw [if_neg e2] at hT
    unfold slotsF
    rw [if_neg (fun h => h h1), hT, if_neg (show ¬ (0 : Int) ≠ 0 by decide), a1]
    refine ⟨fun h => absurd rfl h, fun _ => ?_⟩
    unfold okD tailD
    dsimp only
    rw [(end_l x _ _ _).1, a2, Nat.sub_self]
    simp
end Go.Proofs.Ytnghfjlmmmjekaa
