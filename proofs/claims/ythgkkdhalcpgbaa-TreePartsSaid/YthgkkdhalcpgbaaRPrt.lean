/- Plain: a right tree is its first twig and its parts, each a right tree, and one deeper than the deepest of them (layer 8). No condition. -/
import Derived.Test.YthgkkdhalcpgbaaREnd
import Derived.Test.YthgkkdhalcpgbaaRLook
namespace Go.Proofs.Ythgkkdhalcpgbaa
open Go.RowKit Go.Shelf

/-- What lies from g to g' in ts lies a places earlier in us. -/
def SameTw (ts us : List Tw) (a g g' : Nat) : Prop := ∀ i, g ≤ i + a → i + a < g' → i < us.length ∧ twAt us i = twAt ts (i + a)
theorem SameTw.sub {ts us : List Tw} {a g g' h h' : Nat} (s : SameTw ts us a g g') (h1 : g ≤ h) (h2 : h' ≤ g') : SameTw ts us a h h' := fun i h3 h4 => s i (by omega) (by omega)
/-- What a pass that ends well does, it does to the same twigs elsewhere, less deep. -/
def Shifts (ts : List Tw) (k0 lies : Nat) (s s1 : PSt) (go : Nat → List Tw → Nat → PSt → Bool × PSt) : Prop :=
  ∃ h, s.tooDeep = 0 ∧ s1.deepest = max s.deepest (lies + h) ∧ s.gone + k0 ≤ s1.gone ∧ s1.gone ≤ ts.length ∧ (∀ i, s.gone ≤ i → i < s1.gone → 0 ≤ (twAt ts i).kids ∧ (twAt ts i).kids ≤ 2048) ∧
    ∀ us a lies' fuel s', lies' ≤ lies → s'.gone + a = s.gone → s'.tooDeep = 0 → (k0 = 0 → lies' ≤ s'.deepest) → s1.gone - s.gone ≤ fuel → SameTw ts us a s.gone s1.gone → go fuel us lies' s' = (true, ⟨s1.gone - a, max s'.deepest (lies' + h), 0⟩)

theorem kids_low (ts : List Tw) (k : Kind) (kids : Int) (f : PSt → Bool × PSt) (lies : Nat) (hf : ∀ s s1, f s = (true, s1) → lies + 1 ≤ s1.deepest) :
    ∀ (n p : Nat) (s s1 : PSt), kidsF f ts k kids n p s = (true, s1) → lies ≤ s.deepest → lies ≤ s1.deepest
  | 0, p, s, s1, h, hd => by cases h; exact hd
  | n + 1, p, s, s1, h, hd => by
    unfold kidsF at h
    split at h
    · cases h
    · split at h
      · cases h
      · split at h
        · cases h
        · rename_i h1 h2 h3
          rcases hq : f s with ⟨b, s2⟩
          rw [hq] at h h3
          have hb : b = true := by cases b; exact absurd rfl h3; rfl
          subst hb
          have := hf s s2 hq
          exact kids_low ts k kids f lies hf n (p + 1) s2 s1 h (by omega)
theorem next_low (s : PSt) (lies : Nat) : lies ≤ (nextS s lies).deepest := by
  unfold nextS
  dsimp only
  split <;> omega
theorem pass_low (ts : List Tw) : ∀ (fuel lies : Nat) (s s1 : PSt), passF fuel ts lies s = (true, s1) → lies ≤ s1.deepest
  | 0, lies, s, s1, h => by cases h
  | fuel + 1, lies, s, s1, h => by
    unfold passF at h
    split at h
    · cases h
    · split at h
      · cases h
      · exact kids_low ts _ _ _ lies (fun s s1 e => pass_low ts fuel (lies + 1) s s1 e) _ _ _ _ h (next_low s lies)

theorem kids_shift (ts : List Tw) (k : Kind) (kids : Int) (f : PSt → Bool × PSt) (lies : Nat)
    (hm : ∀ s s1, f s = (true, s1) → s.gone < ts.length → lies + 1 ≤ s1.deepest ∧ s.gone ≤ s1.gone ∧ s1.gone ≤ ts.length)
    (hf : ∀ s s1, f s = (true, s1) → s.gone < ts.length → s1.tooDeep = 0 → 0 < s.gone → Shifts ts 1 (lies + 1) s s1 passF) :
    ∀ (n p : Nat) (s s1 : PSt), kidsF f ts k kids n p s = (true, s1) → s.gone ≤ ts.length → s1.tooDeep = 0 → 0 < s.gone → lies ≤ s.deepest →
      Shifts ts 0 lies s s1 (fun fuel us lies' s' => kidsF (passF fuel us (lies' + 1)) us k kids n p s')
  | 0, p, s, s1, h, hl, ht, h0, hd => by
    cases h
    refine ⟨0, ht, by omega, by omega, hl, fun i h1 h2 => by omega, fun us a lies' fuel s' h1 h2 h3 h4 h5 h6 => ?_⟩
    have := h4 rfl
    show (true, s') = _
    rcases s' with ⟨g, d, t⟩
    dsimp only at *
    subst h3
    rw [show s.gone - a = g by omega, show max d (lies' + 0) = d by omega]
  | n + 1, p, s, s1, h, hl, ht, h0, hd => by
    unfold kidsF at h
    split at h
    · cases h
    · split at h
      · cases h
      · split at h
        · cases h
        · rename_i h1 h2 h3
          rcases hq : f s with ⟨b, s2⟩
          rw [hq] at h h3
          have hb : b = true := by cases b; exact absurd rfl h3; rfl
          subst hb
          dsimp only at h
          have hlt : s.gone < ts.length := by omega
          obtain ⟨m1, m2, m3⟩ := hm s s2 hq hlt
          obtain ⟨e2, b1, b2, b3, b4, b5, b6⟩ := kids_shift ts k kids f lies hm hf n (p + 1) s2 s1 h m3 ht (by omega) (by omega)
          obtain ⟨e1, a1, a2, a3, a4, a5, a6⟩ := hf s s2 hq hlt b1 h0
          refine ⟨max (1 + e1) e2, a1, by omega, by omega, b4, fun i i1 i2 => ?_, fun us a lies' fuel s' h1' h2' h3' h4' h5' h6' => ?_⟩
          · rcases Nat.lt_or_ge i s2.gone with c | c
            · exact a5 i i1 c
            · exact b5 i c i2
          · have h4'' := h4' rfl
            obtain ⟨c1, c2⟩ := h6' s'.gone (by omega) (by omega)
            show kidsF (passF fuel us (lies' + 1)) us k kids (n + 1) p s' = _
            unfold kidsF
            rw [if_neg (by omega), c2, h2', if_neg h2, a6 us a (lies' + 1) fuel s' (by omega) h2' h3' (fun c => by cases c) (by omega) (h6'.sub (Nat.le_refl _) (by omega)), if_neg (by simp)]
            have := b6 us a lies' fuel ⟨s2.gone - a, max s'.deepest (lies' + 1 + e1), 0⟩ h1' (by show s2.gone - a + a = _; omega) rfl (fun _ => by show _ ≤ max _ _; omega) (by omega) (h6'.sub (by omega) (Nat.le_refl _))
            dsimp only at this ⊢
            rw [this]
            rw [show max (max s'.deepest (lies' + 1 + e1)) (lies' + e2) = max s'.deepest (lies' + max (1 + e1) e2) by omega]
theorem pass_shift (ts : List Tw) : ∀ (fuel lies : Nat) (s s1 : PSt), passF fuel ts lies s = (true, s1) → s.gone < ts.length → s1.tooDeep = 0 → 0 < s.gone ∨ lies ≤ 40 → Shifts ts 1 lies s s1 passF
  | 0, lies, s, s1, h, hl, ht, h0 => by cases h
  | fuel + 1, lies, s, s1, h, hl, ht, h0 => by
    unfold passF at h
    split at h
    · cases h
    · rename_i k hk
      split at h
      · cases h
      · rename_i ha
        have ha' : allowsB k (twAt ts s.gone) = true := by simpa using ha
        obtain ⟨hk0, hkm⟩ := allows_kids ha'
        have hkk := kind_most hk
        obtain ⟨e, b1, b2, b3, b4, b5, b6⟩ := kids_shift ts k _ (passF fuel ts (lies + 1)) lies
          (fun t t1 c d => ⟨pass_low ts fuel (lies + 1) t t1 c, (pass_end ts fuel (lies + 1) t t1 c d).1, (pass_end ts fuel (lies + 1) t t1 c d).2.1⟩)
          (fun t t1 c d f g => pass_shift ts fuel (lies + 1) t t1 c d f (.inl g)) _ 0 (nextS s lies) s1 h hl ht (by show 0 < s.gone + 1; omega) (next_low s lies)
        have hnd : ¬ (40 < lies ∧ s.tooDeep = 0) := by
          intro c
          have : (nextS s lies).tooDeep = s.gone := by unfold nextS; rw [if_pos c]
          omega
        have htd : (nextS s lies).tooDeep = s.tooDeep := by unfold nextS; rw [if_neg hnd]
        have hdd : (nextS s lies).deepest = max s.deepest lies := by
          unfold nextS
          dsimp only
          split <;> omega
        have hgg : (nextS s lies).gone = s.gone + 1 := rfl
        rw [htd] at b1
        rw [hdd] at b2
        rw [hgg] at b3 b5 b6
        refine ⟨e, b1, by omega, by omega, b4, fun i i1 i2 => ?_, fun us a lies' fuel' s' h1' h2' h3' h4' h5' h6' => ?_⟩
        · rcases Nat.lt_or_ge s.gone i with c | c
          · exact b5 i c i2
          · rw [show i = s.gone by omega]; exact ⟨hk0, by omega⟩
        · obtain ⟨c1, c2⟩ := h6' s'.gone (by omega) (by omega)
          obtain ⟨fuel', rfl⟩ : ∃ f, fuel' = f + 1 := ⟨fuel' - 1, by omega⟩
          unfold passF
          rw [c2, h2', hk]
          dsimp only
          rw [if_neg ha]
          have hnd' : ¬ (40 < lies' ∧ s'.tooDeep = 0) := by
            intro c
            exact hnd ⟨by omega, b1⟩
          have hs' : nextS s' lies' = ⟨s'.gone + 1, max s'.deepest lies', 0⟩ := by
            unfold nextS
            rw [if_neg hnd', h3']
            congr 1
            split <;> omega
          rw [hs']
          have := b6 us a lies' fuel' ⟨s'.gone + 1, max s'.deepest lies', 0⟩ h1' (by show s'.gone + 1 + a = _; omega) rfl (fun _ => by show _ ≤ max _ _; omega) (by omega) (h6'.sub (by omega) (Nat.le_refl _))
          dsimp only at this
          rw [this]
          rw [show max (max s'.deepest lies') (lies' + e) = max s'.deepest (lies' + e) by omega]

/-- A right tree, by the pass alone. -/
def RightP (p : List Tw) : Prop := 0 < p.length ∧ ∃ d, passF p.length p 1 ⟨0, 0, 0⟩ = (true, ⟨p.length, d, 0⟩)
def deepP (p : List Tw) : Nat := (passF p.length p 1 ⟨0, 0, 0⟩).2.deepest
theorem kids_parts (ts : List Tw) (k : Kind) (kids : Int) (fuel : Nat) : ∀ (n p : Nat) (s s1 : PSt), kidsF (passF fuel ts 2) ts k kids n p s = (true, s1) → s.gone ≤ ts.length → s1.tooDeep = 0 → 0 < s.gone → 1 ≤ s.deepest →
    ∃ ps : List (List Tw), ps.length = n ∧ ts.drop s.gone = ps.flatten ++ ts.drop s1.gone ∧ (∀ p ∈ ps, RightP p) ∧ s1.deepest = ps.foldl (fun m p => max m (1 + deepP p)) s.deepest ∧ s.tooDeep = 0 ∧ s.gone ≤ s1.gone ∧ s1.gone ≤ ts.length
  | 0, p, s, s1, h, hl, ht, h0, hd => by
    cases h
    exact ⟨[], rfl, rfl, by simp, rfl, ht, Nat.le_refl _, hl⟩
  | n + 1, p, s, s1, h, hl, ht, h0, hd => by
    unfold kidsF at h
    split at h
    · cases h
    · split at h
      · cases h
      · split at h
        · cases h
        · rename_i h1 h2 h3
          rcases hq : passF fuel ts 2 s with ⟨b, s2⟩
          rw [hq] at h h3
          have hb : b = true := by cases b; exact absurd rfl h3; rfl
          subst hb
          dsimp only at h
          have hlt : s.gone < ts.length := by omega
          have m1 := pass_low ts fuel 2 s s2 hq
          obtain ⟨m2, m3, _⟩ := pass_end ts fuel 2 s s2 hq hlt
          obtain ⟨ps, b1, b2, b3, b4, b5, b6, b7⟩ := kids_parts ts k kids fuel n (p + 1) s2 s1 h m3 ht (by omega) (by omega)
          obtain ⟨e1, a1, a2, a3, a4, a5, a6⟩ := pass_shift ts fuel 2 s s2 hq hlt b5 (.inr (by omega))
          have hlen : ((ts.drop s.gone).take (s2.gone - s.gone)).length = s2.gone - s.gone := by rw [List.length_take, List.length_drop]; omega
          have hp := a6 ((ts.drop s.gone).take (s2.gone - s.gone)) s.gone 1 (s2.gone - s.gone) ⟨0, 0, 0⟩ (by omega) (by show 0 + s.gone = _; omega) rfl (fun c => by cases c) (Nat.le_refl _) (by
            intro i i1 i2
            refine ⟨by omega, ?_⟩
            unfold twAt
            rw [List.getD_eq_getElem?_getD, List.getD_eq_getElem?_getD, List.getElem?_take_of_lt (by omega), List.getElem?_drop, Nat.add_comm])
          obtain ⟨P, hP⟩ : ∃ P, P = (ts.drop s.gone).take (s2.gone - s.gone) := ⟨_, rfl⟩
          rw [← hP] at hlen hp
          rw [← hlen] at hp
          refine ⟨P :: ps, by simp [b1], ?_, ?_, ?_, a1, by omega, b7⟩
          · rw [List.flatten_cons, List.append_assoc, ← b2, hP]
            conv => lhs; rw [← List.take_append_drop (s2.gone - s.gone) (ts.drop s.gone)]
            rw [List.drop_drop, show s.gone + (s2.gone - s.gone) = s2.gone by omega]
          · intro q hq'
            rcases List.mem_cons.1 hq' with rfl | hq'
            · exact ⟨by omega, _, hp⟩
            · exact b3 q hq'
          · rw [List.foldl_cons, b4, a2]
            have : deepP P = 1 + e1 := by
              unfold deepP
              rw [hp]
              show max 0 (1 + e1) = _
              omega
            rw [this, show 2 + e1 = 1 + (1 + e1) by omega]
theorem fold_deep (g : List Tw → Nat) : ∀ (ps : List (List Tw)) (a : Nat), ps.foldl (fun m p => max m (1 + g p)) (1 + a) = 1 + ps.foldl (fun m p => max m (g p)) a
  | [], a => rfl
  | p :: r, a => by
    rw [List.foldl_cons, List.foldl_cons, show max (1 + a) (1 + g p) = 1 + max a (g p) by omega]
    exact fold_deep g r _
/-- A right tree: nothing is wrong with it. -/
def Ok (ts : List Tw) : Prop := (lookF ts).2.2 = 0
theorem ok_iff (ts : List Tw) : Ok ts ↔ RightP ts ∧ ts.length ≤ 2048 := by
  unfold Ok lookF RightP
  by_cases h1 : 2048 < ts.length
  · rw [if_pos h1]
    exact ⟨fun h => (by cases h), fun h => (by omega)⟩
  · rw [if_neg h1]
    by_cases h0 : ts.length = 0
    · rw [if_pos h0]
      exact ⟨fun h => (by cases h), fun h => (by omega)⟩
    · rw [if_neg h0]
      rcases hq : passF ts.length ts 1 ⟨0, 0, 0⟩ with ⟨b, s⟩
      dsimp only
      constructor
      · intro h
        split at h
        · cases h
        · rename_i hx
          split at h
          · cases h
          · rename_i hy
            have hb : b = true := by cases b; exact absurd (.inl rfl) hx; rfl
            subst hb
            have := (pass_end ts _ _ _ _ hq (by show 0 < _; omega)).2.1
            refine ⟨⟨by omega, s.deepest, ?_⟩, by omega⟩
            have hg : s.gone = ts.length := by
              rcases Nat.lt_or_ge s.gone ts.length with c | c
              · exact absurd (.inr c) hx
              · omega
            rcases s with ⟨g, d, t⟩
            dsimp only at *
            rw [hg, show t = 0 by omega]
      · rintro ⟨⟨_, d, e⟩, _⟩
        cases e
        rw [if_neg (by simp), if_neg (by simp)]
theorem ok_deep {ts : List Tw} (h : Ok ts) : (lookF ts).2.1 = deepP ts := by
  obtain ⟨⟨h0, d, e⟩, h2⟩ := (ok_iff ts).1 h
  unfold lookF deepP
  rw [if_neg (by omega), if_neg (by omega), e]
  dsimp only
  rw [if_neg (by simp), if_neg (by simp)]
theorem ok_end {ts : List Tw} (h : Ok ts) : endL ts 1 = some ts.length := by
  obtain ⟨⟨h0, d, e⟩, h2⟩ := (ok_iff ts).1 h
  exact right_end h0 (by rw [e]) (by rw [e]; show ¬ ts.length < _; omega)
theorem ok_kids {ts : List Tw} (h : Ok ts) : ∀ x ∈ ts, 0 ≤ x.kids ∧ x.kids ≤ 2048 := by
  obtain ⟨⟨h0, d, e⟩, h2⟩ := (ok_iff ts).1 h
  obtain ⟨_, _, _, _, _, a5, _⟩ := pass_shift ts _ _ _ _ e h0 rfl (.inr (by omega))
  intro x hx
  obtain ⟨i, hi, rfl⟩ := List.getElem_of_mem hx
  have := a5 i (Nat.zero_le _) hi
  simpa [twAt, List.getD_eq_getElem?_getD, List.getElem?_eq_getElem hi] using this
/-- What a right tree's parts are. -/
theorem ok_parts {ts : List Tw} (h : Ok ts) : ∃ (x : Tw) (ps : List (List Tw)), ts = x :: ps.flatten ∧ x.kids = (ps.length : Int) ∧ (∀ p ∈ ps, Ok p) ∧ (lookF ts).2.1 = ps.foldl (fun m p => max m (lookF p).2.1) 0 + 1 ∧ ps.length ≤ 2048 ∧ ts.length ≤ 2048 := by
  have hd := ok_deep h
  obtain ⟨⟨h0, d, e⟩, h2⟩ := (ok_iff ts).1 h
  obtain ⟨x, r, rfl⟩ : ∃ x r, ts = x :: r := by cases ts with | nil => simp at h0 | cons x r => exact ⟨x, r, rfl⟩
  have e0 := e
  rw [List.length_cons] at e
  unfold passF at e
  split at e
  · cases e
  · rename_i k hk
    split at e
    · cases e
    · rename_i ha
      have ha' : allowsB k (twAt (x :: r) 0) = true := by simpa using ha
      obtain ⟨hk0, hkm⟩ := allows_kids ha'
      have hkk := kind_most hk
      obtain ⟨ps, b1, b2, b3, b4, b5, b6, b7⟩ := kids_parts _ k _ _ _ 0 (nextS ⟨0, 0, 0⟩ 1) _ e (by show 0 + 1 ≤ _; simp) rfl (by show 0 < 0 + 1; omega) (by decide)
      have hx : twAt (x :: r) 0 = x := rfl
      have b2' : r = ps.flatten ++ (x :: r).drop (r.length + 1) := b2
      rw [List.drop_eq_nil_of_le (by simp), List.append_nil] at b2'
      rw [hx] at hk0 hkm b1
      have hfl : ∀ p ∈ ps, p.length ≤ r.length := by
        intro p hp
        rw [b2']
        exact (List.sublist_flatten_of_mem hp).length_le
      have hok : ∀ p ∈ ps, Ok p := fun p hp => (ok_iff p).2 ⟨b3 p hp, by have := hfl p hp; simp at h2; omega⟩
      refine ⟨x, ps, by rw [← b2'], by omega, hok, ?_, by omega, h2⟩
      rw [hd]
      have e1 : deepP (x :: r) = d := by unfold deepP; rw [e0]
      have b4' : d = ps.foldl (fun m p => max m (1 + deepP p)) (1 + 0) := b4
      rw [e1, b4', fold_deep, Nat.add_comm]
      congr 1
      have : ∀ (qs : List (List Tw)) (a : Nat), (∀ p ∈ qs, Ok p) → qs.foldl (fun m p => max m (deepP p)) a = qs.foldl (fun m p => max m (lookF p).2.1) a := by
        intro qs
        induction qs with
        | nil => intro a _; rfl
        | cons q qs ih =>
          intro a hq
          rw [List.foldl_cons, List.foldl_cons, ok_deep (hq q (by simp))]
          exact ih _ (fun p hp => hq p (by simp [hp]))
      exact this ps 0 hok
theorem endL_append : ∀ (a b : List Tw) (m n : Nat), endL a m = some n → endL (a ++ b) m = some n
  | a, b, 0, n, h => by rw [endL_zero] at h ⊢; exact h
  | [], b, m + 1, n, h => by cases h
  | x :: r, b, m + 1, n, h => by
    rw [List.cons_append]
    unfold endL at h ⊢
    rcases hq : endL r (m + x.kids.toNat) with _ | q
    · rw [hq] at h; cases h
    · rw [hq] at h
      rw [endL_append r b _ _ hq]
      exact h
/-- Lists of right trees that are the same one behind the other are the same. -/
theorem flat_same : ∀ (ps qs : List (List Tw)), (∀ p ∈ ps, Ok p) → (∀ q ∈ qs, Ok q) → ps.flatten = qs.flatten → ps = qs
  | [], [], _, _, _ => rfl
  | [], q :: qs, _, hq, e => by
    have h0 := ((ok_iff q).1 (hq q (by simp))).1.1
    have : q = [] := by simpa using (List.append_eq_nil_iff.1 (show q ++ qs.flatten = [] from e.symm)).1
    rw [this] at h0; simp at h0
  | p :: ps, [], hp, _, e => by
    have h0 := ((ok_iff p).1 (hp p (by simp))).1.1
    have : p = [] := by simpa using (List.append_eq_nil_iff.1 (show p ++ ps.flatten = [] from e)).1
    rw [this] at h0; simp at h0
  | p :: ps, q :: qs, hp, hq, e => by
    have e1 := endL_append p ps.flatten 1 _ (ok_end (hp p (by simp)))
    have e2 := endL_append q qs.flatten 1 _ (ok_end (hq q (by simp)))
    rw [List.flatten_cons, List.flatten_cons] at e
    rw [e, e2] at e1
    injection e1 with e1
    obtain ⟨c1, c2⟩ := List.append_inj e e1.symm
    rw [c1, flat_same ps qs (fun x h => hp x (by simp [h])) (fun x h => hq x (by simp [h])) c2]
end Go.Proofs.Ythgkkdhalcpgbaa
