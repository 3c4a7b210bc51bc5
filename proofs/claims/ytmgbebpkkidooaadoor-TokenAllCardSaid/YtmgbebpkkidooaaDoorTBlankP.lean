/- Plain: a source, a gap and a source behind one another (layer 7). -/
import Derived.Test.YtmgbebpkkidooaaDoorTWake
namespace Go.Proofs.YtmgbebpkkidooaaDoor.Tok
open Go.Proofs.YtmgbebpkkidooaaDoor

theorem tokT_code {c : UInt8} {l : List UInt8} {i e : Nat} (h : tokT (c :: l) = .bad i e) : e ≠ 0 := by
  rw [tokT_cons] at h
  by_cases h1 : lowC c = true
  · rw [if_pos h1] at h
    unfold wordT at h
    split at h
    · injection h; omega
    · cases h
  · rw [if_neg h1] at h
    by_cases h2 : digC c = true
    · rw [if_pos h2] at h
      rcases num_res (c :: l) with ⟨k, e', hr, he, _⟩ | ⟨x, k, hr, _⟩
      · rw [hr] at h; injection h; omega
      · rw [hr] at h; cases h
    · rw [if_neg h2] at h
      by_cases h3 : c.toNat = 34
      · rw [if_pos h3] at h
        rcases text_res (c :: l) with ⟨k, e', hr, he⟩ | ⟨tx, k, hr⟩
        · rw [hr] at h; injection h; omega
        · rw [hr] at h; cases h
      · rw [if_neg h3] at h
        have hg : ∀ (ss : List (List UInt8)) (l : List UInt8) {i e : Nat}, signGo ss l = .bad i e → e ≠ 0 := by
          intro ss
          induction ss with
          | nil =>
            intro l i e h
            obtain ⟨i', e', hr, he, _⟩ := none_res l
            have h' : noneT l = .bad i e := h
            rw [hr] at h'; injection h'; omega
          | cons s ss ih =>
            intro l i e h
            unfold signGo at h
            split at h
            · cases h
            · exact ih l h
        exact hg signs _ h

theorem allR_ten (r : List UInt8) : ∀ (k : Nat) (l : List UInt8) (n : Nat) (ts : List Tk) {ts' : List Tk}, l.length ≤ k → allR l n ts = ⟨ts', 0, 0⟩ → allR (l ++ 10 :: r) n ts = allR (10 :: r) (n + l.length) ts'
  | k, [], n, ts, ts', _, h => by
    rw [allR_nil] at h
    injection h with h
    subst h
    rfl
  | 0, c :: l, _, _, _, hk, _ => by simp at hk
  | k + 1, c :: l, n, ts, ts', hk, h => by
    have hk' : l.length ≤ k := by simpa using hk
    rw [List.cons_append]
    by_cases hb : c.toNat = 32 ∨ c.toNat = 10
    · rw [allR_blank _ _ _ hb] at h ⊢
      rw [allR_ten r k l (n + 1) ts hk' h, List.length_cons]
      congr 1; omega
    · by_cases h35 : c.toNat = 35
      · rw [allR_remark _ _ _ h35] at h ⊢
        have hl := toLine_le l
        rw [toLine_ten, show n + 1 + ((l ++ 10 :: r).length - (toLine l ++ 10 :: r).length) = n + 1 + (l.length - (toLine l).length) by rw [List.length_append, List.length_append]; omega]
        rw [allR_ten r k (toLine l) _ ts (by omega) h, List.length_cons]
        congr 1; omega
      · cases ht : tokT (c :: l) with
        | bad i e =>
          rw [allR_bad _ _ hb h35 ht] at h
          injection h with _ _ h
          exact absurd h (tokT_code ht)
        | ok kd tx x i =>
          have hle := tokT_le (c :: l)
          rw [ht] at hle
          simp only at hle
          have hp := tokT_pos ht
          rw [allR_tok _ _ hb h35 ht] at h
          have ht2 : tokT (c :: (l ++ 10 :: r)) = .ok kd tx x i := tokT_ten r ht
          rw [allR_tok _ _ hb h35 ht2, ← List.cons_append, List.drop_append_of_le_length hle]
          rw [allR_ten r k _ _ _ (by rw [List.length_drop]; simp only [List.length_cons] at hle ⊢; omega) h, List.length_drop]
          congr 1; omega

/-- A token, so many bytes on. -/
def sh (N : Nat) (t : Tk) : Tk := { t with at_ := N + t.at_ }
theorem allR_shift (N : Nat) (us : List Tk) : ∀ (k : Nat) (l : List UInt8) (n : Nat) (ts : List Tk) {ms : List Tk}, l.length ≤ k → allR l n ts = ⟨ms, 0, 0⟩ → allR l (N + n) (us ++ ts.map (sh N)) = ⟨us ++ ms.map (sh N), 0, 0⟩
  | k, [], n, ts, ms, _, h => by
    rw [allR_nil] at h
    injection h with h
    subst h
    rfl
  | 0, c :: l, _, _, _, hk, _ => by simp at hk
  | k + 1, c :: l, n, ts, ms, hk, h => by
    have hk' : l.length ≤ k := by simpa using hk
    by_cases hb : c.toNat = 32 ∨ c.toNat = 10
    · rw [allR_blank _ _ _ hb] at h ⊢
      exact allR_shift N us k l (n + 1) ts hk' h
    · by_cases h35 : c.toNat = 35
      · rw [allR_remark _ _ _ h35] at h ⊢
        have hl := toLine_le l
        have := allR_shift N us k (toLine l) _ ts (by omega) h
        rw [show N + n + 1 + (l.length - (toLine l).length) = N + (n + 1 + (l.length - (toLine l).length)) by omega]
        exact this
      · cases ht : tokT (c :: l) with
        | bad i e =>
          rw [allR_bad _ _ hb h35 ht] at h
          injection h with _ _ h
          exact absurd h (tokT_code ht)
        | ok kd tx x i =>
          have hp := tokT_pos ht
          rw [allR_tok _ _ hb h35 ht] at h ⊢
          have := allR_shift N us k _ _ _ (by rw [List.length_drop]; simp; omega) h
          rw [show N + n + i = N + (n + i) by omega]
          rw [List.map_append, ← List.append_assoc] at this
          exact this

theorem allR_blanks (r : List UInt8) (ts : List Tk) : ∀ (k n : Nat), allR (List.replicate k 32 ++ r) n ts = allR r (n + k) ts
  | 0, n => rfl
  | k + 1, n => by
    rw [List.replicate_succ, List.cons_append, allR_blank _ _ _ (.inl rfl), allR_blanks r ts k]
    congr 1; omega
theorem toLine_none (r : List UInt8) : ∀ g : List UInt8, (∀ c ∈ g, c.toNat ≠ 10) → toLine (g ++ 10 :: r) = 10 :: r
  | [], _ => rfl
  | c :: g, h => by
    show (if c.toNat = 10 then _ else toLine (g ++ 10 :: r)) = _
    rw [if_neg (h c (by simp))]
    exact toLine_none r g (fun c hc => h c (by simp [hc]))
theorem allR_gone (r g : List UInt8) (n : Nat) (ts : List Tk) (h : ∀ c ∈ g, c.toNat ≠ 10) : allR (35 :: (g ++ 10 :: r)) n ts = allR r (n + 1 + g.length + 1) ts := by
  rw [allR_remark _ _ _ rfl, toLine_none r g h, allR_blank _ _ _ (.inr rfl)]
  congr 1
  rw [List.length_append]; omega

/-- The gap that the law puts between two sources. -/
def gapL (k m : Nat) : List UInt8 := 10 :: (List.replicate k 32 ++ (if 0 < m then 35 :: ((List.replicate m [97, 34]).flatten ++ [10]) else []))
theorem allR_gap (r : List UInt8) (k m n : Nat) (ts : List Tk) : allR (gapL k m ++ r) n ts = allR r (n + (gapL k m).length) ts := by
  unfold gapL
  rw [List.cons_append, allR_blank _ _ _ (.inr rfl), List.append_assoc, allR_blanks]
  by_cases hm : 0 < m
  · rw [if_pos hm]
    have hg : ∀ c ∈ (List.replicate m ([97, 34] : List UInt8)).flatten, c.toNat ≠ 10 := by
      intro c hc
      simp only [List.mem_flatten, List.mem_replicate] at hc
      obtain ⟨l, ⟨_, rfl⟩, hc⟩ := hc
      simp at hc
      rcases hc with rfl | rfl <;> decide
    have := allR_gone r _ (n + 1 + k) ts hg
    rw [List.cons_append, List.append_assoc, List.singleton_append]
    rw [this]
    congr 1
    simp
    omega
  · rw [if_neg hm]
    simp only [List.nil_append]
    congr 1
    simp
    omega
/-- The whole. -/
theorem all_whole {a b : List UInt8} {la lb : List Tk} (ha : allR a 0 [] = ⟨la, 0, 0⟩) (hb : allR b 0 [] = ⟨lb, 0, 0⟩) (k m : Nat) :
    allR (a ++ (gapL k m ++ b)) 0 [] = ⟨la ++ lb.map (sh (a ++ gapL k m).length), 0, 0⟩ := by
  have e : gapL k m ++ b = 10 :: ((gapL k m).tail ++ b) := rfl
  rw [e, allR_ten _ _ a 0 [] (Nat.le_refl _) ha, ← e, allR_gap]
  have := allR_shift (a ++ gapL k m).length la _ b 0 [] (Nat.le_refl _) hb
  simp only [List.map_nil, List.append_nil, Nat.add_zero] at this
  rw [show 0 + a.length + (gapL k m).length = (a ++ gapL k m).length by rw [List.length_append]; omega]
  exact this
end Go.Proofs.YtmgbebpkkidooaaDoor.Tok
