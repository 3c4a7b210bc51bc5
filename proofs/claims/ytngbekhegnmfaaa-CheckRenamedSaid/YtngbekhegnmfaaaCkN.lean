/- Plain: where all variables have other names, unlike ones unlike ones, all slots stay (layer 11, check). No condition. -/
import Derived.Test.YtngbekhegnmfaaaCkU
import Derived.Test.YtngbekhegnmfaaaCkB
namespace Go.Proofs.Ytngbekhegnmfaaa
open Go.RowKit Go.Shelf

/-- A letter is another one, by a shift. -/
def renC (b : Nat) (c : UInt8) : UInt8 := if 97 ≤ c.toNat ∧ c.toNat ≤ 122 then UInt8.ofNat (97 + (c.toNat - 97 + b % 26) % 26) else c
def renS (b : Nat) (s : List UInt8) : List UInt8 := s.map (renC b)
theorem renC_nat (b : Nat) (c : UInt8) : (renC b c).toNat = if 97 ≤ c.toNat ∧ c.toNat ≤ 122 then 97 + (c.toNat - 97 + b % 26) % 26 else c.toNat := by
  unfold renC
  split
  · rw [UInt8.toNat_ofNat']
    omega
  · rfl
theorem renC_inj (b : Nat) {c d : UInt8} (h : renC b c = renC b d) : c = d := by
  have h1 := congrArg UInt8.toNat h
  rw [renC_nat, renC_nat] at h1
  apply UInt8.toNat_inj.1
  split at h1 <;> split at h1 <;> omega
theorem renS_inj (b : Nat) : ∀ {s t : List UInt8}, renS b s = renS b t → s = t
  | [], [], _ => rfl
  | [], d :: t, h => by cases h
  | c :: s, [], h => by cases h
  | c :: s, d :: t, h => by
    injection h with h1 h2
    rw [renC_inj b h1, renS_inj b h2]
section
variable (ρ : List UInt8 → List UInt8)
def twR (x : Tw) : Tw := if makesB x || usesB x then ⟨x.op, x.kids, x.num, ρ x.text⟩ else x
theorem twR_op (x : Tw) : (twR ρ x).op = x.op ∧ (twR ρ x).kids = x.kids := by
  unfold twR
  split <;> exact ⟨rfl, rfl⟩
def Fs.ren : Fs → Fs
  | .nil => .nil
  | .cons x k r => .cons (twR ρ x) k.ren r.ren
theorem flat_ren : ∀ F : Fs, (F.ren ρ).flat = F.flat.map (twR ρ)
  | .nil => rfl
  | .cons x k r => by
    show twR ρ x :: ((k.ren ρ).flat ++ (r.ren ρ).flat) = (x :: (k.flat ++ r.flat)).map (twR ρ)
    rw [flat_ren k, flat_ren r, List.map_cons, List.map_append]
theorem count_ren : ∀ F : Fs, (F.ren ρ).count = F.count
  | .nil => rfl
  | .cons x k r => by
    show (r.ren ρ).count + 1 = r.count + 1
    rw [count_ren r]
/-- Every first twig's parts are as many as it says. -/
def Fs.cnt : Fs → Prop
  | .nil => True
  | .cons x k r => x.kids = (k.count : Int) ∧ k.cnt ∧ r.cnt
theorem ok_cnt : ∀ F : Fs, F.ok → F.cnt
  | .nil, _ => trivial
  | .cons _ k r, ⟨_, h2, h3, h4⟩ => ⟨h2, ok_cnt k h3, ok_cnt r h4⟩
theorem ren_cnt : ∀ F : Fs, F.cnt → (F.ren ρ).cnt
  | .nil, _ => trivial
  | .cons x k r, ⟨h2, h3, h4⟩ => ⟨by rw [(twR_op ρ x).2, count_ren]; exact h2, ren_cnt k h3, ren_cnt r h4⟩
theorem forest_one : ∀ (F G : Fs) (a b : List Tw), F.cnt → G.cnt → F.count = G.count → F.flat ++ a = G.flat ++ b → F = G ∧ a = b
  | .nil, .nil, a, b, _, _, _, h => ⟨rfl, h⟩
  | .nil, .cons _ _ _, _, _, _, _, h, _ => by cases h
  | .cons _ _ _, .nil, _, _, _, _, h, _ => by cases h
  | .cons x k r, .cons y l s, a, b, ⟨f1, f2, f3⟩, ⟨g1, g2, g3⟩, hc, h => by
    have h' : x :: (k.flat ++ (r.flat ++ a)) = y :: (l.flat ++ (s.flat ++ b)) := by
      have : x :: (k.flat ++ r.flat) ++ a = y :: (l.flat ++ s.flat) ++ b := h
      simpa using this
    injection h' with h1 h2
    subst h1
    obtain ⟨rfl, h3⟩ := forest_one k l _ _ f2 g2 (by omega) h2
    obtain ⟨rfl, h4⟩ := forest_one r s a b f3 g3 (by have : r.count + 1 = s.count + 1 := hc; omega) h3
    exact ⟨rfl, h4⟩
def stR (st : CSt) : CSt := ⟨st.l, st.seen.map (fun p => (ρ p.1, p.2)), st.made⟩
theorem findL_ren (hρ : ∀ s t, ρ s = ρ t → s = t) (s : List UInt8) : ∀ L : List (List UInt8 × Nat), findL (L.map (fun p => (ρ p.1, p.2))) (ρ s) = findL L s
  | [] => rfl
  | p :: r => by
    show (match findL (r.map _) (ρ s) with | some v => some v | none => if ρ p.1 = ρ s then some p.2 else none) = _
    rw [findL_ren hρ s r]
    conv => rhs; unfold findL
    by_cases h : p.1 = s
    · rw [if_pos h, if_pos (by rw [h])]
      cases findL r s <;> rfl
    · rw [if_neg h, if_neg (fun e => h (hρ _ _ e))]
      cases findL r s <;> rfl
theorem slot_ren (hρ : ∀ s t, ρ s = ρ t → s = t) (st : CSt) (x : Tw) : slotC (stR ρ st) (twR ρ x) = slotC st x := by
  unfold slotC
  rw [(twR_op ρ x).1]
  by_cases c : x.op = 2 ∨ x.op = 4
  · have hm : makesB x = true := by unfold makesB; rcases c with c | c <;> simp [c]
    have ht : (twR ρ x).text = ρ x.text := by unfold twR; rw [hm]; rfl
    rw [if_pos c, if_pos c, ht]
    show (if (findL (st.seen.map _) (ρ x.text)).isSome then _ else _) = _
    rw [findL_ren ρ hρ]
    rfl
  · rw [if_neg c, if_neg c]
    by_cases c2 : x.op = 5 ∨ x.op = 26
    · have hu : usesB x = true := by unfold usesB; rcases c2 with c2 | c2 <;> simp [c2]
      have ht : (twR ρ x).text = ρ x.text := by unfold twR; rw [hu, Bool.or_true]; rfl
      rw [if_pos c2, if_pos c2, ht]
      show (match findL (st.seen.map _) (ρ x.text) with | some v => _ | none => _) = _
      rw [findL_ren ρ hρ]
      rfl
    · rw [if_neg c2, if_neg c2]
      rfl
theorem end_ren (st : CSt) (x : Tw) (s : Int) (n : Nat) : endC (twR ρ x) s n (stR ρ st) = stR ρ (endC x s n st) := by
  unfold endC
  rw [(twR_op ρ x).1]
  by_cases c : x.op = 2 ∨ x.op = 4
  · have hm : makesB x = true := by unfold makesB; rcases c with c | c <;> simp [c]
    have ht : (twR ρ x).text = ρ x.text := by unfold twR; rw [hm]; rfl
    rw [if_pos c, if_pos c, ht]
    unfold stR
    simp
  · rw [if_neg c, if_neg c]
    by_cases c3 : x.op = 3
    · rw [if_pos c3, if_pos c3]
      unfold stR
      simp [List.map_take]
    · rw [if_neg c3, if_neg c3]
theorem trees_ren (hρ : ∀ s t, ρ s = ρ t → s = t) : ∀ (F : Fs) (st : CSt), treesC (F.ren ρ) (stR ρ st) = (stR ρ (treesC F st).1, (treesC F st).2)
  | .nil, st => rfl
  | .cons x k r, st => by
    show treesC (.cons (twR ρ x) (k.ren ρ) (r.ren ρ)) (stR ρ st) = _
    unfold treesC
    rw [slot_ren ρ hρ]
    have ih := trees_ren hρ k ⟨st.l ++ [(slotC st x).1], st.seen, (slotC st x).2.1⟩
    have e : (⟨(stR ρ st).l ++ [(slotC st x).1], (stR ρ st).seen, (slotC st x).2.1⟩ : CSt) = stR ρ ⟨st.l ++ [(slotC st x).1], st.seen, (slotC st x).2.1⟩ := rfl
    rw [e, ih]
    generalize treesC k ⟨st.l ++ [(slotC st x).1], st.seen, (slotC st x).2.1⟩ = R
    have hn : (stR ρ st).seen.length = st.seen.length := by unfold stR; simp
    by_cases h1 : (slotC st x).2.2 ≠ 0
    · rw [if_pos h1, if_pos h1]
    · rw [if_neg h1, if_neg h1]
      dsimp only
      by_cases h2 : R.2 ≠ 0
      · rw [if_pos h2, if_pos h2]
      · rw [if_neg h2, if_neg h2, hn, end_ren, trees_ren hρ r]
end
/-- Lists of twigs of the same kinds and numbers of parts. -/
def Alk (ts us : List Tw) : Prop := us.length = ts.length ∧ ∀ i, (twAt us i).op = (twAt ts i).op ∧ (twAt us i).kids = (twAt ts i).kids
theorem kids_same {ts us : List Tw} (hA : Alk ts us) (k : Kind) (kids : Int) (f g : PSt → Bool × PSt) (hf : ∀ s, (f s).1 = true → (g s).1 = true → (f s).2 = (g s).2) :
    ∀ (n p : Nat) (s : PSt), (kidsF f ts k kids n p s).1 = true → (kidsF g us k kids n p s).1 = true → (kidsF f ts k kids n p s).2 = (kidsF g us k kids n p s).2
  | 0, _, s, _, _ => rfl
  | n + 1, p, s, h1, h2 => by
    unfold kidsF at h1 h2 ⊢
    rw [hA.1, (hA.2 s.gone).1] at h2 ⊢
    by_cases c1 : s.gone = ts.length
    · rw [if_pos c1] at h1; cases h1
    · rw [if_neg c1] at h1 h2 ⊢
      rw [if_neg c1]
      by_cases c2 : partOK k.part (twAt ts s.gone).op p kids = false
      · rw [if_pos c2] at h1; cases h1
      · rw [if_neg c2] at h1 h2 ⊢
        rw [if_neg c2]
        by_cases c3 : (f s).1 = false
        · rw [if_pos c3] at h1; cases h1
        · rw [if_neg c3] at h1 ⊢
          by_cases c4 : (g s).1 = false
          · rw [if_pos c4] at h2; cases h2
          · rw [if_neg c4] at h2 ⊢
            have e := hf s (by simpa using c3) (by simpa using c4)
            rw [← e] at h2 ⊢
            exact kids_same hA k kids f g hf n (p + 1) _ h1 h2
theorem pass_same {ts us : List Tw} (hA : Alk ts us) : ∀ (fuel lies : Nat) (s : PSt), (passF fuel ts lies s).1 = true → (passF fuel us lies s).1 = true → (passF fuel ts lies s).2 = (passF fuel us lies s).2
  | 0, _, s, h, _ => by cases h
  | fuel + 1, lies, s, h1, h2 => by
    unfold passF at h1 h2 ⊢
    rw [(hA.2 s.gone).1] at h2 ⊢
    cases hk : kindOf (twAt ts s.gone).op with
    | none => exact absurd h1 (by rw [hk]; simp)
    | some k =>
      rw [hk] at h1 h2
      dsimp only at h1 h2 ⊢
      by_cases c1 : allowsB k (twAt ts s.gone) = false
      · rw [if_pos c1] at h1; cases h1
      · rw [if_neg c1] at h1 ⊢
        by_cases c2 : allowsB k (twAt us s.gone) = false
        · rw [if_pos c2] at h2; cases h2
        · rw [if_neg c2] at h2 ⊢
          rw [(hA.2 s.gone).2] at h2 ⊢
          exact kids_same hA k _ _ _ (fun s' a b => pass_same hA fuel (lies + 1) s' a b) _ 0 _ h1 h2
theorem look_same {ts us : List Tw} (hA : Alk ts us) (h1 : (lookF ts).2.2 ≠ 3) (h2 : (lookF us).2.2 ≠ 3) : lookF ts = lookF us := by
  unfold lookF at h1 h2 ⊢
  rw [hA.1] at h2 ⊢
  by_cases c1 : 2048 < ts.length
  · rw [if_pos c1, if_pos c1]
  · rw [if_neg c1] at h1 h2 ⊢
    rw [if_neg c1]
    by_cases c2 : ts.length = 0
    · rw [if_pos c2] at h1; exact absurd rfl h1
    · rw [if_neg c2] at h1 h2 ⊢
      rw [if_neg c2]
      by_cases c3 : (passF ts.length ts 1 ⟨0, 0, 0⟩).1 = false ∨ (passF ts.length ts 1 ⟨0, 0, 0⟩).2.gone < ts.length
      · rw [if_pos c3] at h1; exact absurd rfl h1
      · rw [if_neg c3] at h1 ⊢
        by_cases c4 : (passF ts.length us 1 ⟨0, 0, 0⟩).1 = false ∨ (passF ts.length us 1 ⟨0, 0, 0⟩).2.gone < ts.length
        · rw [if_pos c4] at h2; exact absurd rfl h2
        · rw [if_neg c4] at h2 ⊢
          have e := pass_same hA ts.length 1 ⟨0, 0, 0⟩ (by
            cases h : (passF ts.length ts 1 ⟨0, 0, 0⟩).1 with
            | true => rfl
            | false => exact absurd (.inl h) c3) (by
            cases h : (passF ts.length us 1 ⟨0, 0, 0⟩).1 with
            | true => rfl
            | false => exact absurd (.inl h) c4)
          rw [e]
theorem alk_ren (ρ : List UInt8 → List UInt8) (ts : List Tw) : Alk ts (ts.map (twR ρ)) := by
  refine ⟨List.length_map .., fun i => ?_⟩
  unfold twAt
  rw [List.getD_eq_getElem?_getD, List.getD_eq_getElem?_getD, List.getElem?_map]
  cases ts[i]? with
  | none => exact ⟨rfl, rfl⟩
  | some x => exact twR_op ρ x
/-- All slots stay. -/
theorem slots_ren {ρ : List UInt8 → List UInt8} (hρ : ∀ s t, ρ s = ρ t → s = t) {ts : List Tw} {r q : List Int × Int × Int} (hr : SlotsIs ts r) (hq : SlotsIs (ts.map (twR ρ)) q) (h1 : r.2.2 ≠ 3) (h2 : q.2.2 ≠ 3) : q = r := by
  have l1 : (lookF ts).2.2 ≠ 3 := by
    rcases hr with ⟨_, rfl⟩ | ⟨h, _⟩
    · exact h1
    · rw [h]; decide
  have l2 : (lookF (ts.map (twR ρ))).2.2 ≠ 3 := by
    rcases hq with ⟨_, rfl⟩ | ⟨h, _⟩
    · exact h2
    · rw [h]; decide
  have e := look_same (alk_ren ρ ts) l1 l2
  rcases hr with ⟨a1, rfl⟩ | ⟨a1, _, x, K, a3, a4, rfl⟩
  · rcases hq with ⟨b1, rfl⟩ | ⟨b1, _⟩
    · rw [e]
    · rw [← e] at b1; exact absurd b1 a1
  · rcases hq with ⟨b1, rfl⟩ | ⟨b1, _, y, G, b3, b4, rfl⟩
    · rw [← e] at b1; exact absurd a1 b1
    · have c1 : (Fs.cons y G .nil) = (Fs.cons x K .nil).ren ρ := by
        have h := forest_one (.cons y G .nil) ((Fs.cons x K .nil).ren ρ) [] [] (ok_cnt _ b3) (ren_cnt ρ _ (ok_cnt _ a3)) rfl (by
          rw [flat_ren]
          show y :: (G.flat ++ []) ++ [] = (x :: (K.flat ++ [])).map (twR ρ) ++ []
          rw [List.append_nil, List.append_nil, List.append_nil, List.append_nil, ← a4, ← b4])
        exact h.1
      have c2 : Fs.cons y G .nil = .cons (twR ρ x) (K.ren ρ) .nil := c1
      injection c2 with c3 c4 _
      subst c3 c4
      have ht := trees_ren ρ hρ (.cons x K .nil) st0
      have e0 : stR ρ st0 = st0 := rfl
      rw [e0, tree_one] at ht
      have ht2 : treeC (twR ρ x) (K.ren ρ) st0 = (stR ρ (treeC x K st0).1, (treeC x K st0).2) := by
        rw [← tree_one]
        exact ht
      unfold slotsF
      rw [(twR_op ρ x).1, ht2]
      rfl
end Go.Proofs.Ytngbekhegnmfaaa
