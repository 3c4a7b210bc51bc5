/- Plain: the slots of a right tree's twigs, as the program of layer 11 (check) finds them. No condition. -/
import Derived.Test.YtefijbpbenmbgaaDoorFs
import Derived.Test.YtefijbpbenmbgaaDoorRKd
namespace Go.Proofs.YtefijbpbenmbgaaDoor
open Go.RowKit Go.Shelf

/-- Where it has come to: the slots so far, the variables that are seen, how many there are. -/
structure CSt where
  l : List Int
  seen : List (List UInt8 × Nat)
  made : Nat
/-- The slot of a name among variables that are seen, the last one's. -/
def findL : List (List UInt8 × Nat) → List UInt8 → Option Nat
  | [], _ => none
  | p :: r, s => match findL r s with
    | some v => some v
    | none => if p.1 = s then some p.2 else none
theorem findL_snoc (n : List UInt8) (v : Nat) (s : List UInt8) : ∀ L : List (List UInt8 × Nat), findL (L ++ [(n, v)]) s = if s = n then some v else findL L s
  | [] => by
    show (match findL [] s with | some v => some v | none => if n = s then some v else none) = _
    by_cases h : s = n
    · rw [if_pos h, show findL [] s = none from rfl]; dsimp only; rw [if_pos h.symm]
    · rw [if_neg h, show findL [] s = none from rfl]; dsimp only; rw [if_neg (fun e => h e.symm)]
  | p :: r => by
    show (match findL (r ++ [(n, v)]) s with | some v => some v | none => if p.1 = s then some p.2 else none) = _
    rw [findL_snoc n v s r]
    by_cases h : s = n
    · rw [if_pos h, if_pos h]
    · rw [if_neg h, if_neg h]; rfl
theorem findL_none {s : List UInt8} : ∀ {L : List (List UInt8 × Nat)}, findL L s = none ↔ s ∉ L.map Prod.fst
  | [] => by simp [findL]
  | p :: r => by
    have ih := findL_none (s := s) (L := r)
    unfold findL
    cases h : findL r s with
    | some v =>
      rw [h] at ih
      constructor
      · intro e; cases e
      · intro e
        exact absurd (ih.2 (fun hm => e (by simp only [List.map_cons, List.mem_cons]; exact .inr hm))) (by simp)
    | none =>
      have hr := ih.1 h
      dsimp only
      by_cases hp : p.1 = s
      · rw [if_pos hp]
        constructor
        · intro e; cases e
        · intro e; exact absurd (by simp [hp]) e
      · rw [if_neg hp]
        constructor
        · intro _ hm
          simp only [List.map_cons, List.mem_cons] at hm
          rcases hm with hm | hm
          · exact hp hm.symm
          · exact hr hm
        · intro _; rfl
theorem findL_mem {s : List UInt8} {v : Nat} : ∀ {L : List (List UInt8 × Nat)}, findL L s = some v → (s, v) ∈ L
  | [], h => by cases h
  | p :: r, h => by
    unfold findL at h
    cases hr : findL r s with
    | some u =>
      rw [hr] at h
      cases h
      exact List.mem_cons_of_mem _ (findL_mem hr)
    | none =>
      rw [hr] at h
      dsimp only at h
      by_cases hp : p.1 = s
      · rw [if_pos hp] at h
        cases h
        subst hp
        exact List.mem_cons_self
      · rw [if_neg hp] at h
        cases h
/-- What is left when the last ones are not seen any more: of names of which no two are the same. -/
theorem findL_take {L : List (List UInt8 × Nat)} (h : (L.map Prod.fst).Nodup) (n : Nat) (s : List UInt8) : findL (L.take n) s = if s ∈ (L.drop n).map Prod.fst then none else findL L s := by
  have hL : L = L.take n ++ L.drop n := (List.take_append_drop n L).symm
  by_cases hm : s ∈ (L.drop n).map Prod.fst
  · rw [if_pos hm]
    rw [findL_none]
    intro h2
    rw [hL, List.map_append, List.nodup_append] at h
    exact h.2.2 _ h2 _ hm rfl
  · rw [if_neg hm]
    have happ : ∀ A B : List (List UInt8 × Nat), s ∉ B.map Prod.fst → findL (A ++ B) s = findL A s := by
      intro A
      induction A with
      | nil =>
        intro B hB
        exact findL_none.2 hB
      | cons p r ih =>
        intro B hB
        show (match findL (r ++ B) s with | some v => some v | none => if p.1 = s then some p.2 else none) = _
        rw [ih B hB]
        rfl
    have := happ (L.take n) (L.drop n) hm
    rw [← hL] at this
    exact this.symm
/-- A twig's slot, how many variables there are then, what is wrong. -/
def slotC (st : CSt) (x : Tw) : Int × Nat × Int :=
  if x.op = 2 ∨ x.op = 4 then (if (findL st.seen x.text).isSome then (0, st.made, 111) else if st.made = 100 then (0, st.made, 2) else ((st.made : Int), st.made + 1, 0))
  else if x.op = 5 ∨ x.op = 26 then (match findL st.seen x.text with
    | some v => ((v : Int), st.made, 0)
    | none => (0, st.made, 110))
  else (-1, st.made, 0)
/-- Behind a twig's parts. -/
def endC (x : Tw) (slot : Int) (left : Nat) (st : CSt) : CSt :=
  if x.op = 2 ∨ x.op = 4 then ⟨st.l, st.seen ++ [(x.text, slot.toNat)], st.made⟩ else if x.op = 3 then ⟨st.l, st.seen.take left, st.made⟩ else st
def treesC : Fs → CSt → CSt × Int
  | .nil, st => (st, 0)
  | .cons x k r, st =>
    if (slotC st x).2.2 ≠ 0 then (st, (slotC st x).2.2) else
    if (treesC k ⟨st.l ++ [(slotC st x).1], st.seen, (slotC st x).2.1⟩).2 ≠ 0 then treesC k ⟨st.l ++ [(slotC st x).1], st.seen, (slotC st x).2.1⟩ else
    treesC r (endC x (slotC st x).1 st.seen.length (treesC k ⟨st.l ++ [(slotC st x).1], st.seen, (slotC st x).2.1⟩).1)
/-- One tree. -/
def treeC (x : Tw) (k : Fs) (st : CSt) : CSt × Int :=
  if (slotC st x).2.2 ≠ 0 then (st, (slotC st x).2.2) else
  if (treesC k ⟨st.l ++ [(slotC st x).1], st.seen, (slotC st x).2.1⟩).2 ≠ 0 then treesC k ⟨st.l ++ [(slotC st x).1], st.seen, (slotC st x).2.1⟩ else
  (endC x (slotC st x).1 st.seen.length (treesC k ⟨st.l ++ [(slotC st x).1], st.seen, (slotC st x).2.1⟩).1, 0)
theorem trees_step (x : Tw) (k r : Fs) (st : CSt) : treesC (.cons x k r) st = if (treeC x k st).2 ≠ 0 then treeC x k st else treesC r (treeC x k st).1 := by
  unfold treeC
  conv => lhs; unfold treesC
  by_cases h1 : (slotC st x).2.2 ≠ 0
  · rw [if_pos h1, if_pos h1, if_pos h1]
  · rw [if_neg h1, if_neg h1]
    by_cases h2 : (treesC k ⟨st.l ++ [(slotC st x).1], st.seen, (slotC st x).2.1⟩).2 ≠ 0
    · rw [if_pos h2, if_pos h2, if_pos h2]
    · rw [if_neg h2, if_neg h2, if_neg (by simp)]
theorem tree_one (x : Tw) (k : Fs) (st : CSt) : treesC (.cons x k .nil) st = treeC x k st := by
  rw [trees_step]
  by_cases h : (treeC x k st).2 ≠ 0
  · rw [if_pos h]
  · rw [if_neg h]
    have h0 : (treeC x k st).2 = 0 := by omega
    show ((treeC x k st).1, (0 : Int)) = _
    rw [← h0]
/-- No two names that are seen are the same; their slots are told already. -/
structure GoodC (st : CSt) : Prop where
  nd : (st.seen.map Prod.fst).Nodup
  few : st.made ≤ 100
  lt : ∀ p ∈ st.seen, p.2 < st.made
  len : st.seen.length ≤ st.made
  tl : ∀ p ∈ st.seen, p.1.length ≤ 24
/-- None of them makes a variable by itself. -/
def Fs.plain : Fs → Prop
  | .nil => True
  | .cons x _ r => x.op ≠ 1 ∧ x.op ≠ 2 ∧ x.op ≠ 4 ∧ r.plain
theorem expr_ops {op : Nat} (h : exprB op = true) : op ≠ 1 ∧ op ≠ 2 ∧ op ≠ 4 ∧ op ≠ 3 := by
  refine ⟨?_, ?_, ?_, ?_⟩ <;> (rintro rfl; revert h; decide)
theorem parts_plain {pk : Nat} (h2 : pk ≠ 2) (h3 : pk ≠ 3) (n : Int) : ∀ (F : Fs) (p : Nat), F.part pk n p → F.plain
  | .nil, _, _ => trivial
  | .cons x k r, p, h => by
    obtain ⟨a, b⟩ := h
    have hx : x.op ≠ 1 ∧ x.op ≠ 2 ∧ x.op ≠ 4 := by
      have hE : ∀ e, exprB ((x.op : Int).toNat) = e → e = true → x.op ≠ 1 ∧ x.op ≠ 2 ∧ x.op ≠ 4 := by
        intro e he ht
        rw [Int.toNat_natCast] at he
        obtain ⟨a1, a2, a3, _⟩ := expr_ops (he.trans ht)
        exact ⟨a1, a2, a3⟩
      have h3' : ((x.op : Int) == 3) = true → x.op ≠ 1 ∧ x.op ≠ 2 ∧ x.op ≠ 4 := by
        intro h
        have : (x.op : Int) = 3 := by simpa using h
        omega
      unfold partOK at a
      by_cases c1 : pk = 1
      · rw [if_pos c1] at a; exact hE _ rfl a
      · rw [if_neg c1, if_neg h2, if_neg h3] at a
        by_cases c4 : pk = 4
        · rw [if_pos c4] at a
          by_cases c0 : (p : Int) = 0
          · rw [if_pos c0] at a; exact hE _ rfl a
          · rw [if_neg c0] at a; exact h3' a
        · rw [if_neg c4] at a; exact h3' a
    exact ⟨hx.1, hx.2.1, hx.2.2, parts_plain h2 h3 n r (p + 1) b⟩
theorem kind_plain {op : Nat} {kd : Kind} (h : kindOf op = some kd) (h1 : op ≠ 1) (h3 : op ≠ 3) {n : Int} {F : Fs} {p : Nat} (hp : F.part kd.part n p) : F.plain := by
  refine parts_plain ?_ ?_ n F p hp
  · rcases kind_parts h with e | ⟨e, _⟩ | ⟨e, rfl⟩ | ⟨e, rfl⟩ | ⟨e, _⟩ | ⟨e, _⟩ <;> omega
  · rcases kind_parts h with e | ⟨e, _⟩ | ⟨e, rfl⟩ | ⟨e, rfl⟩ | ⟨e, _⟩ | ⟨e, _⟩ <;> omega
theorem slot_ok {st : CSt} {x : Tw} (hg : GoodC st) (h : ¬ (slotC st x).2.2 ≠ 0) : st.made ≤ (slotC st x).2.1 ∧ (slotC st x).2.1 ≤ 100 ∧ (x.op = 2 ∨ x.op = 4 → findL st.seen x.text = none ∧ (slotC st x).1 = st.made ∧ (slotC st x).2.1 = st.made + 1) := by
  have hf := hg.few
  unfold slotC at h ⊢
  by_cases h1 : x.op = 2 ∨ x.op = 4
  · rw [if_pos h1] at h ⊢
    cases hF : findL st.seen x.text with
    | some v => rw [hF] at h; exact absurd (by simp) h
    | none =>
      rw [hF] at h
      simp only [Option.isSome_none, Bool.false_eq_true, ↓reduceIte] at h ⊢
      by_cases h2 : st.made = 100
      · rw [if_pos h2] at h; exact absurd (by simp) h
      · rw [if_neg h2]
        exact ⟨by show st.made ≤ st.made + 1; omega, by show st.made + 1 ≤ 100; omega, fun _ => ⟨by first | trivial | exact hF, rfl, rfl⟩⟩
  · rw [if_neg h1] at h ⊢
    by_cases h2 : x.op = 5 ∨ x.op = 26
    · rw [if_pos h2] at h ⊢
      cases hF : findL st.seen x.text with
      | some v => exact ⟨Nat.le_refl _, hf, fun h => absurd h h1⟩
      | none => rw [hF] at h; exact absurd (by simp) h
    · rw [if_neg h2]
      exact ⟨Nat.le_refl _, hf, fun h => absurd h h1⟩
theorem own_24 {s : List UInt8} (h : textOK 1 s = true) : s.length ≤ 24 := by
  have h1 : ownL s = true := h
  unfold ownL at h1
  rw [Bool.and_eq_true] at h1
  have h2 := h1.1
  unfold nameL at h2
  match s, h2 with
  | [], h2 => cases h2
  | c :: r, h2 =>
    rw [Bool.and_eq_true, Bool.and_eq_true] at h2
    have := of_decide_eq_true h2.1.1
    simp
    omega
theorem made_len {x : Tw} {kd : Kind} (hk : kindOf x.op = some kd) (ha : allowsB kd x = true) (c : x.op = 2 ∨ x.op = 4) : x.text.length ≤ 24 := by
  have ht : textOK kd.text x.text = true := by
    unfold allowsB at ha
    rw [Bool.and_eq_true] at ha
    exact ha.2
  have h1 : kd.text = 1 := by
    rcases c with c | c
    · rw [c] at hk
      have h2 : kindOf 2 = some ⟨1, 0, 0, 0⟩ := rfl
      rw [h2] at hk
      injection hk with hk
      rw [← hk]
    · rw [c] at hk
      have h2 : kindOf 4 = some ⟨1, 1, 1, 1⟩ := rfl
      rw [h2] at hk
      injection hk with hk
      rw [← hk]
  rw [h1] at ht
  exact own_24 ht
/-- What is seen behind trees: what was, and what these made. -/
theorem trees_good : ∀ (F : Fs) (st : CSt), F.ok → GoodC st → (treesC F st).2 = 0 → GoodC (treesC F st).1 ∧ st.made ≤ (treesC F st).1.made ∧ ∃ ex, (treesC F st).1.seen = st.seen ++ ex ∧ (F.plain → ex = [])
  | .nil, st, _, hg, _ => ⟨hg, Nat.le_refl _, [], by simp [treesC], fun _ => rfl⟩
  | .cons x k r, st, ⟨⟨kd, hk, ha, hp⟩, hn, hko, hro⟩, hg, h => by
    unfold treesC at h ⊢
    by_cases h1 : (slotC st x).2.2 ≠ 0
    · rw [if_pos h1] at h; exact absurd h h1
    · rw [if_neg h1] at h ⊢
      obtain ⟨s1, s2, s3⟩ := slot_ok hg h1
      have hg1 : GoodC ⟨st.l ++ [(slotC st x).1], st.seen, (slotC st x).2.1⟩ := ⟨hg.nd, s2, fun p hp => Nat.lt_of_lt_of_le (hg.lt p hp) s1, Nat.le_trans hg.len s1, hg.tl⟩
      have ih := trees_good k ⟨st.l ++ [(slotC st x).1], st.seen, (slotC st x).2.1⟩ hko hg1
      generalize treesC k ⟨st.l ++ [(slotC st x).1], st.seen, (slotC st x).2.1⟩ = R at *
      by_cases h2 : R.2 ≠ 0
      · rw [if_pos h2] at h; exact absurd h h2
      · rw [if_neg h2] at h ⊢
        obtain ⟨i1, i2, ex, i3, i4⟩ := ih (by omega)
        have i2' : (slotC st x).2.1 ≤ R.1.made := i2
        have i3' : R.1.seen = st.seen ++ ex := i3
        have hE : GoodC (endC x (slotC st x).1 st.seen.length R.1) ∧ (endC x (slotC st x).1 st.seen.length R.1).made = R.1.made ∧ ∃ ex, (endC x (slotC st x).1 st.seen.length R.1).seen = st.seen ++ ex ∧ (x.op ≠ 1 ∧ x.op ≠ 2 ∧ x.op ≠ 4 → ex = []) := by
          unfold endC
          by_cases c1 : x.op = 2 ∨ x.op = 4
          · rw [if_pos c1]
            have hpl : ex = [] := i4 (kind_plain hk (by omega) (by omega) hp)
            subst hpl
            rw [List.append_nil] at i3'
            obtain ⟨t1, t2, t3⟩ := s3 c1
            refine ⟨⟨?_, i1.few, ?_, ?_, ?_⟩, rfl, [(x.text, (slotC st x).1.toNat)], ?_, fun h => absurd c1 (by omega)⟩
            · show ((R.1.seen ++ [(x.text, (slotC st x).1.toNat)]).map Prod.fst).Nodup
              rw [i3', List.map_append, List.nodup_append]
              refine ⟨hg.nd, by simp, fun a ha b hb => ?_⟩
              simp at hb
              subst hb
              exact fun e => (findL_none.1 t1) (e ▸ ha)
            · intro p hp
              show p.2 < R.1.made
              rcases List.mem_append.1 (show p ∈ R.1.seen ++ [(x.text, (slotC st x).1.toNat)] from hp) with hp | hp
              · exact i1.lt p hp
              · simp at hp
                subst hp
                show (slotC st x).1.toNat < _
                rw [t2, Int.toNat_natCast]
                omega
            · show (R.1.seen ++ _).length ≤ R.1.made
              rw [i3', List.length_append, List.length_singleton]
              have := hg.len
              omega
            · intro p hp
              rcases List.mem_append.1 (show p ∈ R.1.seen ++ [(x.text, (slotC st x).1.toNat)] from hp) with hp | hp
              · exact i1.tl p hp
              · simp at hp
                subst hp
                exact made_len hk ha c1
            · show R.1.seen ++ _ = _
              rw [i3']
          · rw [if_neg c1]
            by_cases c3 : x.op = 3
            · rw [if_pos c3]
              have e : R.1.seen.take st.seen.length = st.seen := by rw [i3', List.take_left]
              refine ⟨⟨?_, i1.few, ?_, ?_, ?_⟩, rfl, [], ?_, fun _ => rfl⟩
              · show ((R.1.seen.take st.seen.length).map Prod.fst).Nodup
                rw [e]; exact hg.nd
              · intro p hp
                have hp' : p ∈ R.1.seen.take st.seen.length := hp
                rw [e] at hp'
                show p.2 < R.1.made
                have := hg.lt p hp'
                omega
              · show (R.1.seen.take st.seen.length).length ≤ R.1.made
                rw [e]
                have := hg.len
                omega
              · intro p hp
                have hp' : p ∈ R.1.seen.take st.seen.length := hp
                rw [e] at hp'
                exact hg.tl p hp'
              · show R.1.seen.take st.seen.length = _
                rw [e, List.append_nil]
            · rw [if_neg c3]
              refine ⟨i1, rfl, ex, i3', fun hc => i4 (kind_plain hk hc.1 c3 hp)⟩
        obtain ⟨e1, e2, ex2, e3, e4⟩ := hE
        obtain ⟨r1, r2, ex3, r3, r4⟩ := trees_good r _ hro e1 h
        refine ⟨r1, by omega, ex2 ++ ex3, by rw [r3, e3, List.append_assoc], fun hpl => ?_⟩
        obtain ⟨p1, p2, p3, p4⟩ := hpl
        rw [e4 ⟨p1, p2, p3⟩, r4 p4]
        rfl
end Go.Proofs.YtefijbpbenmbgaaDoor
