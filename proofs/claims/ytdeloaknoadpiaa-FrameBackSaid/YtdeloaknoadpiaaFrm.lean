/- Plain: frames (layer 6) as lists of bytes: what is read, what is split, and that more bytes behind change nothing of what was told. No program stands in it. -/
import Derived.Test.YtdeloaknoadpiaaCrc
namespace Go.Proofs.Ytdeloaknoadpiaa.Crc

/-- Four bytes as a number, the one of least worth first. -/
def num4 (l : List Nat) : Nat := l.getD 0 0 + 256 * l.getD 1 0 + 65536 * l.getD 2 0 + 16777216 * l.getD 3 0
/-- What is read. -/
structure Fr where
  body : List Nat
  n : Nat
  code : Nat
def readL (l : List Nat) : Fr :=
  if l.length < 8 then ⟨[], l.length, 4⟩
  else if num4 (l.drop 4) ≠ sum (l.take 4) then ⟨[], 4, 8⟩
  else if 65536 < num4 l then ⟨[], 0, 2⟩
  else if l.length < 8 + num4 l + 4 then ⟨[], l.length, 4⟩
  else if num4 (l.drop (8 + num4 l)) ≠ sum ((l.drop 8).take (num4 l)) then ⟨[], 8 + num4 l, 8⟩
  else ⟨(l.drop 8).take (num4 l), 8 + num4 l + 4, 0⟩
/-- A body's frame. -/
def frameL (b : List Nat) : List Nat := le 4 b.length ++ (le 4 (sum (le 4 b.length)) ++ (b ++ le 4 (sum b)))

theorem num4_append {l m : List Nat} (h : 4 ≤ l.length) : num4 (l ++ m) = num4 l := by
  have e : ∀ i, i < 4 → (l ++ m).getD i 0 = l.getD i 0 := fun i hi => by
    rw [List.getD_eq_getElem?_getD, List.getD_eq_getElem?_getD, List.getElem?_append_left (by omega)]
  unfold num4
  rw [e 0 (by omega), e 1 (by omega), e 2 (by omega), e 3 (by omega)]
theorem num4_le {M : Nat} (h : M < 4294967296) (m : List Nat) : num4 (le 4 M ++ m) = M := by
  rw [num4_append (by rw [le_length]; omega)]
  show M % 256 + 256 * (M / 256 % 256) + 65536 * (M / 256 / 256 % 256) + 16777216 * (M / 256 / 256 / 256 % 256) = M
  omega
theorem frameL_length (b : List Nat) : (frameL b).length = b.length + 12 := by
  simp only [frameL, List.length_append, le_length]; omega

/-- More bytes behind change nothing, unless there were too few. -/
theorem read_more {l m : List Nat} (h : (readL l).code ≠ 4) : readL (l ++ m) = readL l := by
  unfold readL at h ⊢
  by_cases h1 : l.length < 8
  · rw [if_pos h1] at h; exact absurd rfl h
  have hl : (l ++ m).length = l.length + m.length := List.length_append
  have e1 : num4 ((l ++ m).drop 4) = num4 (l.drop 4) := by
    rw [List.drop_append_of_le_length (by omega), num4_append (by rw [List.length_drop]; omega)]
  have e2 : (l ++ m).take 4 = l.take 4 := List.take_append_of_le_length (by omega)
  have e3 : num4 (l ++ m) = num4 l := num4_append (by omega)
  rw [if_neg h1] at h ⊢
  rw [if_neg (by omega), e1, e2, e3]
  by_cases h2 : num4 (l.drop 4) ≠ sum (l.take 4)
  · rw [if_pos h2, if_pos h2]
  rw [if_neg h2] at h ⊢
  rw [if_neg h2]
  by_cases h3 : 65536 < num4 l
  · rw [if_pos h3, if_pos h3]
  rw [if_neg h3] at h ⊢
  rw [if_neg h3]
  by_cases h4 : l.length < 8 + num4 l + 4
  · rw [if_pos h4] at h; exact absurd rfl h
  have e4 : num4 ((l ++ m).drop (8 + num4 l)) = num4 (l.drop (8 + num4 l)) := by
    rw [List.drop_append_of_le_length (by omega), num4_append (by rw [List.length_drop]; omega)]
  have e5 : ((l ++ m).drop 8).take (num4 l) = (l.drop 8).take (num4 l) := by
    rw [List.drop_append_of_le_length (by omega), List.take_append_of_le_length (by rw [List.length_drop]; omega)]
  rw [if_neg h4, if_neg (by omega), e4, e5]

/-- A frame is read as its body. -/
theorem read_frame {b : List Nat} (hb : ∀ x ∈ b, x < 256) (hl : b.length ≤ 65536) : readL (frameL b) = ⟨b, b.length + 12, 0⟩ := by
  have hn : num4 (frameL b) = b.length := num4_le (by omega) _
  have h4 : (frameL b).take 4 = le 4 b.length := by
    have := List.take_left (l₁ := le 4 b.length) (l₂ := le 4 (sum (le 4 b.length)) ++ (b ++ le 4 (sum b)))
    rwa [le_length] at this
  have d4 : (frameL b).drop 4 = le 4 (sum (le 4 b.length)) ++ (b ++ le 4 (sum b)) := by
    have := List.drop_left (l₁ := le 4 b.length) (l₂ := le 4 (sum (le 4 b.length)) ++ (b ++ le 4 (sum b)))
    rwa [le_length] at this
  have d8 : (frameL b).drop 8 = b ++ le 4 (sum b) := by
    have h1 : (frameL b).drop 8 = ((frameL b).drop 4).drop 4 := by rw [List.drop_drop]
    have := List.drop_left (l₁ := le 4 (sum (le 4 b.length))) (l₂ := b ++ le 4 (sum b))
    rw [le_length] at this
    rw [h1, d4, this]
  have dn : (frameL b).drop (8 + b.length) = le 4 (sum b) := by
    have h1 : (frameL b).drop (8 + b.length) = ((frameL b).drop 8).drop b.length := by rw [List.drop_drop]
    rw [h1, d8, List.drop_left]
  have hs := sum_lt hb
  have hs4 := sum_lt (le_byte 4 b.length)
  have hlen := frameL_length b
  unfold readL
  rw [if_neg (by omega), hn, h4, d4, d8, dn, num4_le hs4, if_neg (by simp), if_neg (by omega), if_neg (by omega), List.take_left]
  have e : num4 (le 4 (sum b)) = sum b := by have := num4_le hs []; rwa [List.append_nil] at this
  rw [e, if_neg (by simp)]
  congr 1
  omega
theorem read_frame_more {b : List Nat} (m : List Nat) (hb : ∀ x ∈ b, x < 256) (hl : b.length ≤ 65536) : readL (frameL b ++ m) = ⟨b, b.length + 12, 0⟩ := by
  rw [read_more (by rw [read_frame hb hl]; simp), read_frame hb hl]
/-- What is read lies within the bytes. -/
theorem read_le {l : List Nat} (h : (readL l).code = 0) : 12 ≤ (readL l).n ∧ (readL l).n ≤ l.length := by
  unfold readL at h ⊢
  repeat' split
  all_goals first | (simp_all; done) | (constructor <;> simp only <;> omega)

/-- What is split: the bodies, how far, the error. -/
structure Sp where
  bodies : List (List Nat)
  at_ : Nat
  code : Nat
def splitGo : Nat → List Nat → Sp
  | 0, _ => ⟨[], 0, 0⟩
  | k + 1, l =>
    if l = [] then ⟨[], 0, 0⟩
    else if (readL l).code ≠ 0 then ⟨[], 0, (readL l).code⟩
    else ⟨(readL l).body :: (splitGo k (l.drop (readL l).n)).bodies, (readL l).n + (splitGo k (l.drop (readL l).n)).at_, (splitGo k (l.drop (readL l).n)).code⟩
def splitL (l : List Nat) : Sp := splitGo l.length l
/-- More steps change nothing. -/
theorem splitGo_fuel : ∀ (j k : Nat) (l : List Nat), l.length ≤ j → l.length ≤ k → splitGo j l = splitGo k l
  | 0, 0, _, _, _ => rfl
  | 0, k + 1, l, h, _ => by have : l = [] := List.eq_nil_of_length_eq_zero (by omega); subst this; simp [splitGo]
  | j + 1, 0, l, _, h => by have : l = [] := List.eq_nil_of_length_eq_zero (by omega); subst this; simp [splitGo]
  | j + 1, k + 1, l, h1, h2 => by
    unfold splitGo
    by_cases h0 : l = []
    · rw [if_pos h0, if_pos h0]
    rw [if_neg h0, if_neg h0]
    by_cases hc : (readL l).code ≠ 0
    · rw [if_pos hc, if_pos hc]
    rw [if_neg hc, if_neg hc]
    have hr := read_le (l := l) (by omega)
    rw [splitGo_fuel j k (l.drop (readL l).n) (by rw [List.length_drop]; omega) (by rw [List.length_drop]; omega)]
theorem splitL_step {l : List Nat} (h0 : l ≠ []) (hc : (readL l).code = 0) :
    splitL l = ⟨(readL l).body :: (splitL (l.drop (readL l).n)).bodies, (readL l).n + (splitL (l.drop (readL l).n)).at_, (splitL (l.drop (readL l).n)).code⟩ := by
  have hr := read_le hc
  have hl : 0 < l.length := List.length_pos_iff.2 h0
  obtain ⟨k, hk⟩ : ∃ k, l.length = k + 1 := ⟨l.length - 1, by omega⟩
  have e : splitL l = splitGo (k + 1) l := by unfold splitL; rw [hk]
  rw [e]
  unfold splitGo
  rw [if_neg h0, if_neg (by omega)]
  have e2 : splitGo k (l.drop (readL l).n) = splitL (l.drop (readL l).n) := splitGo_fuel _ _ _ (by rw [List.length_drop]; omega) (Nat.le_refl _)
  rw [e2]
theorem splitL_stop {l : List Nat} (h0 : l ≠ []) (hc : (readL l).code ≠ 0) : splitL l = ⟨[], 0, (readL l).code⟩ := by
  have hl : 0 < l.length := List.length_pos_iff.2 h0
  obtain ⟨k, hk⟩ : ∃ k, l.length = k + 1 := ⟨l.length - 1, by omega⟩
  have e : splitL l = splitGo (k + 1) l := by unfold splitL; rw [hk]
  rw [e]
  unfold splitGo
  rw [if_neg h0, if_pos hc]
theorem splitL_nil : splitL [] = ⟨[], 0, 0⟩ := rfl

/-- What is split lies within the bytes. -/
theorem split_le : ∀ (k : Nat) (l : List Nat), l.length ≤ k → (splitL l).at_ ≤ l.length
  | k, l, hk => by
    by_cases h0 : l = []
    · subst h0; exact Nat.le_refl _
    by_cases hc : (readL l).code = 0
    · have hr := read_le hc
      rw [splitL_step h0 hc]
      match k with
      | 0 => omega
      | k + 1 =>
        have := split_le k (l.drop (readL l).n) (by rw [List.length_drop]; omega)
        rw [List.length_drop] at this
        show (readL l).n + _ ≤ _
        omega
    · rw [splitL_stop h0 hc]; exact Nat.zero_le _

/-- What is fed behind: what was told stays; what is left and what is new are split together. -/
theorem split_more : ∀ (k : Nat) (a b : List Nat), a.length ≤ k → (splitL a).code = 0 ∨ (splitL a).code = 4 →
    splitL (a ++ b) = ⟨(splitL a).bodies ++ (splitL (a.drop (splitL a).at_ ++ b)).bodies, (splitL a).at_ + (splitL (a.drop (splitL a).at_ ++ b)).at_, (splitL (a.drop (splitL a).at_ ++ b)).code⟩
  | k, a, b, hk, h => by
    by_cases h0 : a = []
    · subst h0
      show splitL b = ⟨[] ++ (splitL b).bodies, 0 + (splitL b).at_, (splitL b).code⟩
      rw [Nat.zero_add]
      rfl
    by_cases hc : (readL a).code = 0
    · have hr := read_le hc
      have hm : readL (a ++ b) = readL a := read_more (by rw [hc]; simp)
      have h1 : a ++ b ≠ [] := by simp [h0]
      have hd : (a ++ b).drop (readL a).n = a.drop (readL a).n ++ b := List.drop_append_of_le_length hr.2
      have hS := splitL_step h0 hc
      have hT := splitL_step h1 (by rw [hm]; exact hc)
      rw [hm, hd] at hT
      match k with
      | 0 => omega
      | k + 1 =>
        have hcode : (splitL a).code = (splitL (a.drop (readL a).n)).code := by rw [hS]
        have ih := split_more k (a.drop (readL a).n) b (by rw [List.length_drop]; omega) (by rw [← hcode]; exact h)
        rw [hT, ih, hS]
        simp only [List.cons_append, List.drop_drop, Nat.add_assoc]
    · rw [splitL_stop h0 hc]
      show splitL (a ++ b) = ⟨[] ++ (splitL (a ++ b)).bodies, 0 + (splitL (a ++ b)).at_, (splitL (a ++ b)).code⟩
      rw [Nat.zero_add]
      rfl
/-- What has broken stays so. -/
theorem split_broken : ∀ (k : Nat) (a b : List Nat), a.length ≤ k → (splitL a).code ≠ 0 → (splitL a).code ≠ 4 → splitL (a ++ b) = splitL a
  | k, a, b, hk, hn0, hn4 => by
    by_cases h0 : a = []
    · subst h0; exact absurd rfl hn0
    have h1 : a ++ b ≠ [] := by simp [h0]
    by_cases hc : (readL a).code = 0
    · have hr := read_le hc
      have hm : readL (a ++ b) = readL a := read_more (by rw [hc]; simp)
      have hd : (a ++ b).drop (readL a).n = a.drop (readL a).n ++ b := List.drop_append_of_le_length hr.2
      have hS := splitL_step h0 hc
      have hT := splitL_step h1 (by rw [hm]; exact hc)
      rw [hm, hd] at hT
      match k with
      | 0 => omega
      | k + 1 =>
        have hcode : (splitL a).code = (splitL (a.drop (readL a).n)).code := by rw [hS]
        have ih := split_broken k (a.drop (readL a).n) b (by rw [List.length_drop]; omega) (by rw [← hcode]; exact hn0) (by rw [← hcode]; exact hn4)
        rw [hT, ih, hS]
    · have hS := splitL_stop h0 hc
      have hm : readL (a ++ b) = readL a := read_more (by intro e; rw [hS] at hn4; exact hn4 e)
      rw [hS, splitL_stop h1 (by rw [hm]; exact hc), hm]

/-- Frames, one behind the other. -/
def framesL : List (List Nat) → List Nat
  | [] => []
  | b :: l => frameL b ++ framesL l
theorem split_frames : ∀ {l : List (List Nat)}, (∀ b ∈ l, (∀ x ∈ b, x < 256) ∧ b.length ≤ 65536) → splitL (framesL l) = ⟨l, (framesL l).length, 0⟩
  | [], _ => rfl
  | b :: l, h => by
    have hb := h b (by simp)
    have ih := split_frames (l := l) (fun x hx => h x (by simp [hx]))
    have hr := read_frame_more (framesL l) hb.1 hb.2
    have hlen := frameL_length b
    have h0 : frameL b ++ framesL l ≠ [] := by
      intro e
      have := congrArg List.length e
      rw [List.length_append, hlen] at this
      simp at this
    have hd : (frameL b ++ framesL l).drop (b.length + 12) = framesL l := by rw [← hlen]; exact List.drop_left
    have hS := splitL_step h0 (by rw [hr])
    rw [hr] at hS
    simp only at hS
    rw [hd, ih] at hS
    show splitL (frameL b ++ framesL l) = _
    rw [hS]
    show Sp.mk (b :: l) (b.length + 12 + (framesL l).length) 0 = ⟨b :: l, (frameL b ++ framesL l).length, 0⟩
    rw [List.length_append, hlen]
end Go.Proofs.Ytdeloaknoadpiaa.Crc
