/- A part of the proof: TSpellP, TBackP, PTokP, PTok, PFlowE, PSame, Fs. No condition. -/
import Derived.Test.YtjiemkidmlgbeaaGreatDoorQ03
import Derived.Test.YtjiemkidmlgbeaaGreatDoorQ06
import Derived.Test.YtjiemkidmlgbeaaGreatDoorQ10
import Derived.Test.YtjiemkidmlgbeaaGreatDoorQ11
import Derived.Test.YtjiemkidmlgbeaaGreatDoorQ20
import Derived.Test.YtjiemkidmlgbeaaGreatDoorQ21
set_option linter.unusedVariables false
set_option linter.unusedSimpArgs false
namespace Go.Proofs.YtjiemkidmlgbeaaGreatDoor.Tok
open Go.Proofs.YtjiemkidmlgbeaaGreatDoor
theorem hexV_hexD : ∀ x, x < 16 → hexV (hexD x) = some x := by decide +kernel
theorem esc_item (c : UInt8) (r : List UInt8) : ∃ d t, escL c = d :: t ∧ d.toNat ≠ 34 ∧ itemT d (t ++ r) = .ok c (escL c).length := by
 unfold escL;by_cases h1 : c.toNat = 34 ∨ c.toNat = 92
 · rw [if_pos h1]
   refine ⟨92, [c], rfl, by decide, ?_⟩;show (if plainC 92 = false then Tok.Item.bad 0 9 else _) = _
   rw [if_neg (by decide), if_neg (by decide)];show (if c.toNat = 34 ∨ c.toNat = 92 then Tok.Item.ok c 2 else _) = _
   rw [if_pos h1];rfl
 · rw [if_neg h1]
   by_cases h2 : c.toNat = 10
   · rw [if_pos h2]
     refine ⟨92, [110], rfl, by decide, ?_⟩;have hc : c = 10 := UInt8.toNat.inj h2;subst hc;rfl
   · rw [if_neg h2]
     by_cases h3 : plainC c = true
     · rw [if_pos h3]
       refine ⟨c, [], rfl, by omega, ?_⟩;unfold itemT;rw [if_neg (by rw [h3]; simp), if_pos (by omega)];rfl
     · rw [if_neg h3]
       refine ⟨92, [120, hexD (c.toNat / 16), hexD (c.toNat % 16)], rfl, by decide, ?_⟩;have hc := UInt8.toNat_lt c;have e1 := hexV_hexD (c.toNat / 16) (by omega);have e2 := hexV_hexD (c.toNat % 16) (by omega);show hexT (hexD (c.toNat / 16) :: hexD (c.toNat % 16) :: r) = _
       simp only [hexT, e1, e2];rw [show 16 * (c.toNat / 16) + c.toNat % 16 = c.toNat by omega];simp
theorem textR_esc (r : List UInt8) : ∀ (tx acc : List UInt8) (n : Nat), acc.length + tx.length ≤ 4095 → textR (tx.flatMap escL ++ 34 :: r) acc n = .ok 3 (acc ++ tx) 0 (n + (tx.flatMap escL).length + 1)
 | [], acc, n, _ => by
   show textR (34 :: r) acc n = _
   rw [textR_end _ _ _ (by rfl)];simp
 | c :: tx, acc, n, h => by
   simp only [List.length_cons] at h;obtain ⟨d, t, he, hd, hi⟩ := esc_item c (tx.flatMap escL ++ 34 :: r);rw [List.flatMap_cons, List.append_assoc, he, List.cons_append, textR_more n hd hi (by omega)];have hdrop : (d :: (t ++ (tx.flatMap escL ++ 34 :: r))).drop (escL c).length = tx.flatMap escL ++ 34 :: r := by
     rw [← List.cons_append, ← he];exact List.drop_left
   rw [hdrop, textR_esc r tx (acc ++ [c]) _ (by simp; omega), he];simp
   omega
theorem text_back (r tx : List UInt8) (h : tx.length ≤ 4095) : tokT (textL tx ++ r) = .ok 3 tx 0 (textL tx).length := by
 have e : textL tx ++ r = 34 :: (tx.flatMap escL ++ 34 :: r) := by simp [textL]
 rw [e, tokT_cons, if_neg (by decide), if_neg (by decide), if_pos (by rfl)];show textR (tx.flatMap escL ++ 34 :: r) [] 1 = _
 rw [textR_esc r tx [] 1 (by simpa using h)];simp [textL]
 omega
end Go.Proofs.YtjiemkidmlgbeaaGreatDoor.Tok
namespace Go.Proofs.YtjiemkidmlgbeaaGreatDoor
open Go.RowKit Tok
namespace Tok
theorem span_all {p : UInt8 → Bool} {r : List UInt8} (hr : r = [] ∨ ∃ c r', r = c :: r' ∧ p c = false) : ∀ {l : List UInt8}, l.all p = true → span p (l ++ r) = l.length
 | [], _ => by
   rcases hr with rfl | ⟨c, r', rfl, h⟩
   · rfl
   · show (if p c = true then _ else 0) = 0
     rw [if_neg (by rw [h]; simp)]
 | c :: l, h => by
   simp only [List.all_cons, Bool.and_eq_true] at h;show (if p c = true then span p (l ++ r) + 1 else 0) = _
   rw [if_pos h.1, span_all hr h.2];rfl
theorem numV_snoc (l : List UInt8) (c : UInt8) : numV (l ++ [c]) = 10 * numV l + (c.toNat - 48) := by simp [numV]
theorem dig_dec : ∀ u, (Lib.decDigits u).all digC = true ∧ numV (Lib.decDigits u) = u ∧ ((Lib.decDigits u).head? = some 48 → u = 0) ∧ Lib.decDigits u ≠ [] := by
 intro u
 induction u using Nat.strongRecOn with
 | ind u ih =>
   rw [Lib.decDigits];by_cases h : u < 10
   · rw [dif_pos h]
     have key : ∀ u, u < 10 → (([UInt8.ofNat (48 + u)].all digC = true ∧ numV [UInt8.ofNat (48 + u)] = u) ∧ ([UInt8.ofNat (48 + u)].head? = some 48 → u = 0)) := by decide
     exact ⟨(key u h).1.1, (key u h).1.2, (key u h).2, by simp⟩
   · rw [dif_neg h]
     obtain ⟨h1, h2, h3, h4⟩ := ih (u / 10) (by omega);have key : ∀ d, d < 10 → (digC (UInt8.ofNat (48 + d)) = true ∧ (UInt8.ofNat (48 + d)).toNat - 48 = d) := by decide
     have hd := key (u % 10) (by omega);refine ⟨by rw [List.all_append, h1, Bool.true_and, List.all_cons, hd.1]; rfl, by rw [numV_snoc, h2, hd.2]; omega, ?_, by simp⟩;cases hl : Lib.decDigits (u / 10) with
     | nil => exact absurd hl h4
     | cons c r =>
       rw [hl] at h3;intro hh;have := h3 (by simpa using hh);omega
theorem dig_len {u : Nat} (h : u = 0) : Lib.decDigits u = [48] := by subst h; rw [Lib.decDigits]; rfl
def StopsL (r : List UInt8) : Prop := r = [] ∨ ∃ r', r = 32 :: r'
theorem StopsL.stop {r : List UInt8} (h : StopsL r) {p : UInt8 → Bool} (hp : p 32 = false) : r = [] ∨ ∃ c r', r = c :: r' ∧ p c = false := by
 rcases h with rfl | ⟨r', rfl⟩
 · exact .inl rfl
 · exact .inr ⟨32, r', rfl, hp⟩
theorem word_back {tx r : List UInt8} (h : nameL tx = true) (hr : StopsL r) : tokT (tx ++ r) = .ok 1 tx 0 tx.length ∧ ∃ c l, tx = c :: l ∧ c.toNat ≠ 32 ∧ c.toNat ≠ 10 ∧ c.toNat ≠ 35 := by
 match tx with
 | [] => cases h
 | c :: l =>
   simp only [nameL, Bool.and_eq_true, decide_eq_true_eq] at h;obtain ⟨⟨hlen, hc⟩, hall⟩ := h;have hc' : lowC c = true := hc;have hall' : (c :: l).all wordC = true := by
     rw [List.all_cons, low_word hc', Bool.true_and];exact hall
   have hcn : 97 ≤ c.toNat := (of_decide_eq_true hc).1;refine ⟨?_, c, l, rfl, by omega, by omega, by omega⟩;rw [List.cons_append, tokT_cons, if_pos hc', ← List.cons_append];unfold wordT;rw [span_all (hr.stop (by decide)) hall', if_neg (by simp; omega), List.take_left]
theorem num_back {x : Nat} (hx : x ≤ 9223372036854775807) {r : List UInt8} (hr : StopsL r) : tokT (Lib.decDigits x ++ r) = .ok 2 [] x (Lib.decDigits x).length ∧ ∃ c l, Lib.decDigits x = c :: l ∧ c.toNat ≠ 32 ∧ c.toNat ≠ 10 ∧ c.toNat ≠ 35 := by
 obtain ⟨h1, h2, h3, h4⟩ := dig_dec x;have hN : numN (Lib.decDigits x ++ r) = (Lib.decDigits x).length := by
   cases hl : Lib.decDigits x with
   | nil => exact absurd hl h4
   | cons c l =>
     rw [hl] at h1 h3;show (if c.toNat = 48 then 1 else span digC (c :: l ++ r)) = _
     by_cases h48 : c.toNat = 48
     · have hc : c = 48 := UInt8.toNat.inj h48
       have h0 := h3 (by rw [hc]; rfl);have := dig_len h0;rw [hl] at this;rw [if_pos h48, this]; rfl
     · rw [if_neg h48, span_all (hr.stop (by decide)) h1]
 cases hl : Lib.decDigits x with
 | nil => exact absurd hl h4
 | cons c l =>
   rw [hl] at h1 h2 hN;have hc : digC c = true := by rw [List.all_cons, Bool.and_eq_true] at h1; exact h1.1
   have hcn := of_decide_eq_true hc;have hlow : ¬ lowC c = true := by unfold lowC; simp; omega
   refine ⟨?_, c, l, rfl, by omega, by omega, by omega⟩;rw [List.cons_append, tokT_cons, if_neg hlow, if_pos hc, ← List.cons_append];unfold numT;rw [hN, List.take_left, h2, if_neg (by omega), List.drop_left];rcases hr with rfl | ⟨r', rfl⟩
   · rfl
   · simp only
     rw [if_neg (by decide)]
theorem sign_back {tx r : List UInt8} (h : tx ∈ signs) (hr : StopsL r) : tokT (tx ++ r) = .ok 4 tx 0 tx.length ∧ ∃ c l, tx = c :: l ∧ c.toNat ≠ 32 ∧ c.toNat ≠ 10 ∧ c.toNat ≠ 35 := by
 simp only [signs, List.mem_cons, List.not_mem_nil, or_false] at h;rcases hr with rfl | ⟨r', rfl⟩
 all_goals
   rcases h with rfl | rfl | rfl | rfl | rfl | rfl | rfl | rfl | rfl | rfl | rfl | rfl | rfl | rfl | rfl | rfl | rfl
   all_goals exact ⟨rfl, _, _, rfl, by decide, by decide, by decide⟩
end Tok
theorem itoa_of {x : Int} (h : 0 ≤ x) : Lib.itoa x = Lib.decDigits x.toNat := by
 unfold Lib.itoa;rw [if_neg (by omega)]
theorem spell_back {t : Tg} (h : told t = true) (hx : t.num ≤ 9223372036854775807) {r : List UInt8} (hr : StopsL r) :
   tokT (spellL t ++ r) = .ok t.kind t.text t.num.toNat (spellL t).length ∧ ∃ c l, spellL t = c :: l ∧ c.toNat ≠ 32 ∧ c.toNat ≠ 10 ∧ c.toNat ≠ 35 := by
 obtain ⟨kd, tx, x, at_⟩ := t;unfold told at h;dsimp only at *;by_cases c1 : kd = 1
 · subst c1
   rw [if_pos rfl, Bool.and_eq_true] at h;have hx0 : x = 0 := of_decide_eq_true h.2;subst hx0;exact word_back h.1 hr
 · rw [if_neg c1] at h
   by_cases c2 : kd = 2
   · subst c2
     rw [if_pos rfl, Bool.and_eq_true] at h;have h0 : 0 ≤ x := of_decide_eq_true h.1;have ht : tx = [] := of_decide_eq_true h.2;subst ht;have e : spellL ⟨2, [], x, at_⟩ = Lib.decDigits x.toNat := itoa_of h0;rw [e];exact num_back (by omega) hr
   · rw [if_neg c2] at h
     by_cases c3 : kd = 3
     · subst c3
       rw [if_pos rfl, Bool.and_eq_true] at h;have hx0 : x = 0 := of_decide_eq_true h.2;subst hx0;exact ⟨text_back r tx (of_decide_eq_true h.1), 34, _, rfl, by decide, by decide, by decide⟩
     · rw [if_neg c3] at h
       by_cases c4 : kd = 4
       · subst c4
         rw [if_pos rfl, Bool.and_eq_true] at h;have hx0 : x = 0 := of_decide_eq_true h.2;subst hx0;exact sign_back (of_decide_eq_true h.1) hr
       · rw [if_neg c4] at h; cases h
def toG (t : Tk) : Tg := ⟨t.kind, t.text, t.num, t.at_⟩
def bareG (t : Tg) : Tg := { t with at_ := 0 }
theorem tail_ends (ts : List Tg) : StopsL (ts.flatMap fun u => 32 :: spellL u) := by
 cases ts with
 | nil => exact .inl rfl
 | cons t r => exact .inr ⟨_, rfl⟩
theorem told_bare {t : Tg} (h : told t = true) : 0 ≤ t.num := by
 obtain ⟨kd, tx, x, at_⟩ := t;unfold told at h;dsimp only at *
 repeat' split at h
 all_goals first
   | (rw [Bool.and_eq_true] at h; have := of_decide_eq_true h.2; omega)
   | (rw [Bool.and_eq_true] at h; exact of_decide_eq_true h.1)
   | (cases h)
theorem tok_one {t : Tg} (h : told t = true) (hx : t.num ≤ 9223372036854775807) {r : List UInt8} (hr : StopsL r) (n : Nat) (acc : List Tk) :
   allR (spellL t ++ r) n acc = allR r (n + (spellL t).length) (acc ++ [⟨t.kind, t.text, t.num.toNat, n⟩]) := by
 obtain ⟨h1, c, l, he, h2, h3, h4⟩ := spell_back h hx hr;rw [he, List.cons_append] at h1;rw [he, List.cons_append, allR_tok n acc (by omega) h4 h1, ← List.cons_append, List.drop_left]
theorem tail_back : ∀ (ts : List Tg) (n : Nat) (acc : List Tk), (∀ t ∈ ts, told t = true ∧ t.num ≤ 9223372036854775807) →
   ∃ ks, allR (ts.flatMap fun u => 32 :: spellL u) n acc = ⟨acc ++ ks, 0, 0⟩ ∧ ks.map (bareG ∘ toG) = ts.map bareG
 | [], n, acc, _ => ⟨[], by simp [allR_nil], rfl⟩
 | t :: ts, n, acc, h => by
   have ht := h t (by simp);obtain ⟨ks, h1, h2⟩ := tail_back ts (n + 1 + (spellL t).length) (acc ++ [⟨t.kind, t.text, t.num.toNat, n + 1⟩]) (fun u hu => h u (by simp [hu]));refine ⟨⟨t.kind, t.text, t.num.toNat, n + 1⟩ :: ks, ?_, ?_⟩
   · rw [List.flatMap_cons, List.cons_append, allR_blank _ _ _ (.inl (by rfl)), tok_one ht.1 ht.2 (tail_ends ts), h1]
     simp
   · have h0 := told_bare ht.1
     rw [List.map_cons, List.map_cons, h2]
     congr 1
     simp only [Function.comp, toG, bareG]
     congr 1
     omega
theorem join_back {ts : List Tg} (h : ∀ t ∈ ts, told t = true ∧ t.num ≤ 9223372036854775807) (hl : (joinL ts).length ≤ 16384) :
   ∃ ks, allT (joinL ts) = ⟨ks, 0, 0⟩ ∧ ks.map (bareG ∘ toG) = ts.map bareG := by
 unfold allT;rw [if_neg (by omega)]
 match ts, h with
 | [], _ => exact ⟨[], rfl, rfl⟩
 | t :: r, h =>
   have ht := h t (by simp);obtain ⟨ks, h1, h2⟩ := tail_back r (0 + (spellL t).length) ([] ++ [⟨t.kind, t.text, t.num.toNat, 0⟩]) (fun u hu => h u (by simp [hu]));refine ⟨⟨t.kind, t.text, t.num.toNat, 0⟩ :: ks, ?_, ?_⟩
   · show allR (spellL t ++ r.flatMap fun u => 32 :: spellL u) 0 [] = _
     rw [tok_one ht.1 ht.2 (tail_ends r), h1];simp
   · have h0 := told_bare ht.1
     rw [List.map_cons, List.map_cons, h2]
     congr 1
     simp only [Function.comp, toG, bareG]
     congr 1
     omega
end Go.Proofs.YtjiemkidmlgbeaaGreatDoor
namespace Go.Proofs.YtjiemkidmlgbeaaGreatDoor
open Go.RowKit Go.Shelf Tok
def TokOK (x : Tk) : Prop := (x.kind = 1 → textOK 1 x.text = true ∨ kwB x.text = true) ∧ (x.kind = 3 → textOK 2 x.text = true)
end Go.Proofs.YtjiemkidmlgbeaaGreatDoor
namespace Go.Proofs.YtjiemkidmlgbeaaGreatDoor
open Go.RowKit Tok
theorem span_take {p : UInt8 → Bool} : ∀ l : List UInt8, (l.take (span p l)).all p = true ∧ span p l ≤ l.length
 | [] => ⟨rfl, Nat.le_refl _⟩
 | c :: l => by
   unfold span;split
   · rename_i h
     obtain ⟨h1, h2⟩ := span_take (p := p) l;refine ⟨?_, by simp; omega⟩;rw [List.take_succ_cons, List.all_cons, h, h1];rfl
   · exact ⟨rfl, Nat.zero_le _⟩
theorem textGo_told : ∀ (k : Nat) (l acc : List UInt8) (n : Nat) {kd : Nat} {tx : List UInt8} {x i : Nat}, acc.length ≤ 4095 → textGo k l acc n = .ok kd tx x i → kd = 3 ∧ tx.length ≤ 4095 ∧ x = 0
 | 0, _, _, _, _, _, _, _, _, h => by unfold textGo at h; cases h
 | k + 1, l, acc, n, kd, tx, x, i, ha, h => by
   unfold textGo at h
   match l, h with
   | [], h => cases h
   | c :: r, h =>
     dsimp only at h;split at h
     · cases h; exact ⟨rfl, ha, rfl⟩
     · cases hi : itemT c r with
       | bad j e => rw [hi] at h; cases h
       | ok b j =>
         rw [hi] at h;dsimp only at h;split at h
         · cases h
         · exact textGo_told k _ _ _ (by rw [List.length_append, List.length_singleton]; omega) h
theorem signGo_told : ∀ (ss : List (List UInt8)) (l : List UInt8) {kd : Nat} {tx : List UInt8} {x i : Nat}, signGo ss l = .ok kd tx x i → kd = 4 ∧ tx ∈ ss ∧ x = 0
 | [], l, _, _, _, _, h => (noneT_bad l h).elim
 | s :: ss, l, _, _, _, _, h => by
   unfold signGo at h;split at h
   · cases h; exact ⟨rfl, List.mem_cons_self, rfl⟩
   · obtain ⟨h1, h2, h3⟩ := signGo_told ss l h
     exact ⟨h1, List.mem_cons_of_mem _ h2, h3⟩
def GoodTk (t : Tk) : Prop := told (toG t) = true ∧ t.num ≤ 9223372036854775807 ∧ TokOK t
theorem tokT_good {c : UInt8} {r : List UInt8} {kd : Nat} {tx : List UInt8} {x i : Nat} (n : Nat) (h : tokT (c :: r) = .ok kd tx x i) : GoodTk ⟨kd, tx, x, n⟩ := by
 rw [tokT_cons] at h;by_cases h1 : lowC c = true
 · rw [if_pos h1] at h
   unfold wordT at h;split at h
   · cases h
   · rename_i hs
     cases h
     have hw : span wordC (c :: r) = span wordC r + 1 := by
       show (if wordC c = true then span wordC r + 1 else 0) = _
       rw [if_pos (low_word h1)]
     have hn : nameL ((c :: r).take (span wordC (c :: r))) = true := by
       rw [hw, List.take_succ_cons];unfold nameL;dsimp only;obtain ⟨a1, a2⟩ := span_take (p := wordC) r;rw [Bool.and_eq_true, Bool.and_eq_true];refine ⟨⟨decide_eq_true (by rw [List.length_take]; omega), h1⟩, a1⟩
     refine ⟨?_, Nat.zero_le _, ?_, ?_⟩
     · unfold told toG
       dsimp only;rw [if_pos rfl, hn];rfl
     · intro _
       by_cases hk : kwB ((c :: r).take (span wordC (c :: r))) = true
       · exact .inr hk
       · refine .inl ?_
         unfold textOK;rw [if_neg (by decide), if_pos rfl];unfold ownL;simp [hn, hk]
     · intro e; exact absurd e (by dsimp only; decide)
 · rw [if_neg h1] at h
   by_cases h2 : digC c = true
   · rw [if_pos h2] at h
     unfold numT at h;split at h
     · cases h
     · rename_i hx
       have hh : kd = 2 ∧ tx = [] ∧ x = numV ((c :: r).take (numN (c :: r))) := by
         split at h
         · cases h; exact ⟨rfl, rfl, rfl⟩
         · split at h
           · cases h
           · cases h; exact ⟨rfl, rfl, rfl⟩
       obtain ⟨rfl, rfl, rfl⟩ := hh;refine ⟨?_, by dsimp only; omega, ⟨fun e => absurd e (by dsimp only; decide), fun e => absurd e (by dsimp only; decide)⟩⟩;unfold told toG;dsimp only;rw [if_neg (by decide), if_pos rfl];simp
   · rw [if_neg h2] at h
     by_cases h3 : c.toNat = 34
     · rw [if_pos h3] at h
       obtain ⟨rfl, a2, rfl⟩ := textGo_told _ _ _ _ (Nat.zero_le _) h;refine ⟨?_, Nat.zero_le _, ⟨fun e => absurd e (by dsimp only; decide), fun _ => ?_⟩⟩
       · unfold told toG
         dsimp only;rw [if_neg (by decide), if_neg (by decide), if_pos rfl];simp [a2]
       · unfold textOK
         rw [if_neg (by decide), if_neg (by decide)];exact decide_eq_true a2
     · rw [if_neg h3] at h
       obtain ⟨rfl, a2, rfl⟩ := signGo_told _ _ h;refine ⟨?_, Nat.zero_le _, ⟨fun e => absurd e (by dsimp only; decide), fun e => absurd e (by dsimp only; decide)⟩⟩;unfold told toG;dsimp only;rw [if_neg (by decide), if_neg (by decide), if_neg (by decide), if_pos rfl];simp [a2]
theorem allGo_good : ∀ (k : Nat) (l : List UInt8) (n : Nat) (ts ks : List Tk), (∀ t ∈ ts, GoodTk t ∧ t.at_ ≤ n) → allGo k l n ts = ⟨ks, 0, 0⟩ → l.length < k → ∀ t ∈ ks, GoodTk t ∧ t.at_ < n + l.length ∨ t ∈ ts
 | 0, l, n, ts, ks, _, h, hl => by omega
 | k + 1, l, n, ts, ks, ht, h, hl => by
   unfold allGo at h
   match l, h, hl with
   | [], h, _ => cases h; exact fun t ht => .inr ht
   | c :: r, h, hl =>
     rw [List.length_cons] at hl;dsimp only at h;split at h
     · intro t hm
       rcases allGo_good k r (n + 1) ts ks (fun t hm => ⟨(ht t hm).1, by have := (ht t hm).2; omega⟩) h (by omega) t hm with h1 | h1
       · exact .inl ⟨h1.1, by have := h1.2; rw [List.length_cons]; omega⟩
       · exact .inr h1
     · split at h
       · intro t hm
         have hle := toLine_le r;rcases allGo_good k _ _ ts ks (fun t hm => ⟨(ht t hm).1, by have := (ht t hm).2; omega⟩) h (by omega) t hm with h1 | h1
         · exact .inl ⟨h1.1, by have := h1.2; rw [List.length_cons]; omega⟩
         · exact .inr h1
       · cases hi : tokT (c :: r) with
         | bad i e =>
           rw [hi] at h;injection h with h _ _;subst h;intro t hm;cases hm
         | ok kd tx x i =>
           rw [hi] at h;dsimp only at h;have hp := tokT_pos hi;intro t hm;by_cases hir : i ≤ r.length + 1
           · rcases allGo_good k _ _ _ ks (fun t hm => by
               rcases List.mem_append.1 hm with hm | hm
               · exact ⟨(ht t hm).1, by have := (ht t hm).2; omega⟩
               · simp at hm; rw [hm]; exact ⟨tokT_good n hi, by dsimp only; omega⟩) h (by rw [List.length_drop, List.length_cons]; omega) t hm with h1 | h1
             · refine .inl ⟨h1.1, ?_⟩
               have := h1.2;rw [List.length_drop, List.length_cons] at this;rw [List.length_cons];omega
             · rcases List.mem_append.1 h1 with hm | hm
               · exact .inr hm
               · simp at hm
                 rw [hm];exact .inl ⟨tokT_good n hi, by dsimp only; rw [List.length_cons]; omega⟩
           · rw [List.drop_of_length_le (by rw [List.length_cons]; omega)] at h
             have h2 : allGo k [] (n + i) (ts ++ [⟨kd, tx, x, n⟩]) = ⟨ts ++ [⟨kd, tx, x, n⟩], 0, 0⟩ := by
               cases k with
               | zero => rfl
               | succ k => rfl
             rw [h2] at h;cases h
             rcases List.mem_append.1 hm with hm | hm
             · exact .inr hm
             · simp at hm
               rw [hm];exact .inl ⟨tokT_good n hi, by dsimp only; rw [List.length_cons]; omega⟩
theorem allT_good {s : List UInt8} {ks : List Tk} (h : allT s = ⟨ks, 0, 0⟩) : ∀ t ∈ ks, GoodTk t ∧ t.at_ < s.length := by
 unfold allT at h;split at h
 · cases h
 · intro t ht
   rcases allGo_good _ s 0 [] ks (fun t ht => by cases ht) h (by omega) t ht with h1 | h1
   · exact ⟨h1.1, by have := h1.2; omega⟩
   · cases h1
end Go.Proofs.YtjiemkidmlgbeaaGreatDoor
namespace Go.Proofs.YtjiemkidmlgbeaaGreatDoor
open Go.RowKit Go.Shelf Tok
theorem allT_fits {s : List UInt8} {ks : List Tk} {a : Nat} (h : allT s = ⟨ks, a, 0⟩) : FitK ks := by
 obtain ⟨h1, rfl⟩ := Cut.allT_few h;exact ⟨by omega, fun x hx => ⟨told_len (t := toG x) ((allT_good h x hx).1.1), ((allT_good h x hx).1.2.1)⟩⟩
theorem en_flow (R : Nat) : Enters 34 R := enters_of (fn := Tryz.f34) (by kernel_rfl) (by kernel_rfl) rfl
theorem read_any {N : Nat} (hE : ∀ R, Enters N R) {q : NT} (hq : q.wf ∧ q.had = 0 ∧ q.hadT = 0 ∧ q.fits) (hN : ∀ f R a cap n ks, DoAll R a cap n ks f → Does N (fun i => gP ks f q i) R a cap n ks) (s : ByteArray) (w : World) (hs : s.size ≤ 140737488351232) (hA : ErrR w) (hS : SignsOK w) (hM : MakesOK w) :
   Calls Tryz.prog 33 #[.string s, .func (.func N) #[] #[]] w (ReadP (readR s.data.toList q) w) := by
 unfold readR;by_cases hc : (allT s.data.toList).code ≠ 0
 · rw [if_pos hc]
   exact read_tok s w hs hA hS hc
 · rw [if_neg hc]
   obtain ⟨⟨ks, at_, cd⟩, hT⟩ : ∃ T, allT s.data.toList = T := ⟨_, rfl⟩;rw [hT] at hc ⊢;obtain rfl : cd = 0 := by dsimp only at hc; omega
   dsimp only;have hk := (Cut.allT_few hT).1;have hk6 : ks.length ≤ 1000000 := by omega
   have hD : ∀ R a cap, 2 ≠ R → Does N (fun i => gP ks (fuelP ks q) q i) R a cap s.size ks := fun R a cap hR => hN _ _ _ _ _ _ (do_all hR hk6 _ _ (Nat.le_refl _));have hfine := gP_fine ks (fuelP ks q) q 0 hq.1 (Nat.zero_le _) (by unfold fuelP; omega);have hlen : s.data.toList.length = s.size := size_list s;unfold readK;rw [hlen];cases hg : gP ks (fuelP ks q) q 0 with
   | out => exact absurd hg hfine.1
   | bad j => exact read_bad hE s w hs hA hS hM hT hD hg
   | ok c j =>
     have hj := (hfine.2 c j hg).2;have hn := few7 hk6 hg hq.1 hq.2.1;dsimp only;rcases Nat.lt_or_ge j ks.length with hl | hl
     · rw [if_pos hl]
       exact read_left hE s w hs hA hS hM hT hD hg hn hl
     · rw [if_neg (by omega)]
       obtain rfl : j = ks.length := by omega
       exact read_tree hE s w hs hA hS hM hT hD hg hn (by have := gP_short hk6 hq.1 hq.2.2.1 hg; omega) (gP_fit (allT_fits hT) _ _ _ _ _ hq.1 hq.2.2.2 hg)
set_option maxHeartbeats 400000 in
theorem Flow_any (s : ByteArray) (w : World) (hs : s.size ≤ 140737488351232) (hA : ErrR w) (hS : SignsOK w) (hM : MakesOK w) :
   Calls Tryz.prog 17 #[.string s] w (ReadP (readR s.data.toList .flow) w) := by
 have k := Lib.hid (read_any en_flow (q := .flow) ⟨trivial, rfl, rfl, trivial⟩ (fun f R a cap n ks d => d.flow) s w hs hA hS hM);clear hA hS hM;go_enter Tryz.func17, Tryz.ntmps17
 go_wp2_with fail
 refine k.out.mono ?_;rintro e w1 ⟨v, rfl, hv, hb⟩;go_wp2_with fail
 go_ret3
 exact ⟨_, rfl, hv, hb⟩
set_option maxHeartbeats 400000 in
theorem Expr_any (s : ByteArray) (w : World) (hs : s.size ≤ 140737488351232) (hA : ErrR w) (hS : SignsOK w) (hM : MakesOK w) :
   Calls Tryz.prog 18 #[.string s] w (ReadP (readR s.data.toList .expr) w) := by
 have k := Lib.hid (read_any en_expr (q := .expr) ⟨trivial, rfl, rfl, trivial⟩ (fun f R a cap n ks d => d.expr) s w hs hA hS hM);clear hA hS hM;go_enter Tryz.func18, Tryz.ntmps18
 go_wp2_with fail
 refine k.out.mono ?_;rintro e w1 ⟨v, rfl, hv, hb⟩;go_wp2_with fail
 go_ret3
 exact ⟨_, rfl, hv, hb⟩
end Go.Proofs.YtjiemkidmlgbeaaGreatDoor
namespace Go.Proofs.YtjiemkidmlgbeaaGreatDoor
open Go.RowKit Tok
def keyT (x : Tk) : Nat × List UInt8 × Nat := (x.kind, x.text, x.num)
theorem markT_same {ks ls : List Tk} (h : ks.map keyT = ls.map keyT) : markT ks = markT ls := by
 funext i
 have hi : (ks.map keyT)[i]? = (ls.map keyT)[i]? := by rw [h]
 rw [List.getElem?_map, List.getElem?_map] at hi;unfold markT;cases hk : ks[i]? with
 | none =>
   cases hl : ls[i]? with
   | none => rfl
   | some y => rw [hk, hl] at hi; cases hi
 | some x =>
   cases hl : ls[i]? with
   | none => rw [hk, hl] at hi; cases hi
   | some y =>
     rw [hk, hl] at hi;have h2 : keyT x = keyT y := by simpa using hi
     unfold keyT at h2;injection h2 with e1 h2;injection h2 with e2 e3;dsimp only;rw [e1, e2]
theorem ownT_same {ks ls : List Tk} (h : ks.map keyT = ls.map keyT) : ownT ks = ownT ls := by
 funext i
 have hi : (ks.map keyT)[i]? = (ls.map keyT)[i]? := by rw [h]
 rw [List.getElem?_map, List.getElem?_map] at hi;unfold ownT;cases hk : ks[i]? with
 | none =>
   cases hl : ls[i]? with
   | none => rfl
   | some y => rw [hk, hl] at hi; cases hi
 | some x =>
   cases hl : ls[i]? with
   | none => rw [hk, hl] at hi; cases hi
   | some y =>
     rw [hk, hl] at hi;have h2 : keyT x = keyT y := by simpa using hi
     unfold keyT at h2;injection h2 with e1 h2;injection h2 with e2 e3;dsimp only;rw [e1, e2]
theorem wantT_same {ks ls : List Tk} (h : ks.map keyT = ls.map keyT) : wantT ks = wantT ls := by
 funext m i
 unfold wantT;rw [markT_same h]
theorem gP_same {ks ls : List Tk} (h : ks.map keyT = ls.map keyT) : gP ks = gP ls := by
 have hm := markT_same h;have ho := ownT_same h;have hw := wantT_same h;have hM : gM ks = gM ls := by
   funext G m i
   unfold gM;rw [ho, hw]
 funext f
 induction f with
 | zero => rfl
 | succ f ih =>
   funext q i
   cases q
   case prim =>
     unfold gP;dsimp only;rw [hm, hM, ih];have hi : (ks.map keyT)[i]? = (ls.map keyT)[i]? := by rw [h]
     rw [List.getElem?_map, List.getElem?_map] at hi;cases hk : ks[i]? with
     | none =>
       cases hl : ls[i]? with
       | none => rfl
       | some y => rw [hk, hl] at hi; cases hi
     | some x =>
       cases hl : ls[i]? with
       | none => rw [hk, hl] at hi; cases hi
       | some y =>
         rw [hk, hl] at hi;have h2 : keyT x = keyT y := by simpa using hi
         unfold keyT at h2;injection h2 with e1 h2;injection h2 with e2 e3;dsimp only;rw [e1, e2, e3]
   all_goals
     unfold gP;dsimp only;simp only [hm, ho, hw, ih]
end Go.Proofs.YtjiemkidmlgbeaaGreatDoor
namespace Go.Proofs.YtjiemkidmlgbeaaGreatDoor
open Go.RowKit Go.Shelf
inductive Fs where
 | nil
 | cons (x : Tw) (k r : Fs)
def Fs.flat : Fs → List Tw
 | .nil => []
 | .cons x k r => x :: (k.flat ++ r.flat)
def Fs.count : Fs → Nat
 | .nil => 0
 | .cons _ _ r => r.count + 1
def Fs.part (pk : Nat) (n : Int) : Fs → Nat → Prop
 | .nil, _ => True
 | .cons x _ r, p => partOK pk (x.op : Int) (p : Int) n = true ∧ r.part pk n (p + 1)
def Fs.ok : Fs → Prop
 | .nil => True
 | .cons x k r => (∃ kd, kindOf x.op = some kd ∧ allowsB kd x = true ∧ k.part kd.part x.kids 0) ∧ x.kids = (k.count : Int) ∧ k.ok ∧ r.ok
theorem drop_at {ts : List Tw} {i : Nat} (h : i < ts.length) : ts.drop i = twAt ts i :: ts.drop (i + 1) := by
 rw [List.drop_eq_getElem_cons h];simp [twAt, List.getD_eq_getElem?_getD, List.getElem?_eq_getElem h]
theorem kids_forest (ts : List Tw) (k : Kind) (kids : Int) (f : PSt → Bool × PSt)
   (hf : ∀ s s', f s = (true, s') → s.gone < ts.length → s'.gone ≤ ts.length ∧ ∃ x K, (Fs.cons x K .nil).ok ∧ x = twAt ts s.gone ∧ ts.drop s.gone = x :: (K.flat ++ ts.drop s'.gone)) :
   ∀ (n p : Nat) (s s' : PSt), kidsF f ts k kids n p s = (true, s') → s.gone ≤ ts.length → s'.gone ≤ ts.length ∧ ∃ F : Fs, F.count = n ∧ F.ok ∧ F.part k.part kids p ∧ ts.drop s.gone = F.flat ++ ts.drop s'.gone
 | 0, _, s, s', h, hl => by
   cases h
   exact ⟨hl, .nil, rfl, trivial, trivial, rfl⟩
 | n + 1, p, s, s', h, hl => by
   unfold kidsF at h;split at h
   · cases h
   · rename_i h1
     split at h
     · cases h
     · rename_i h2
       split at h
       · cases h
       · rename_i h3
         rcases hq : f s with ⟨b, s2⟩
         rw [hq] at h h3;have hb : b = true := by cases b; exact absurd rfl h3; rfl
         subst hb;obtain ⟨a1, x, K, ⟨a2, a3, a4, _⟩, a5, a6⟩ := hf s s2 hq (by omega);obtain ⟨b1, F, b2, b3, b4, b5⟩ := kids_forest ts k kids f hf n (p + 1) s2 s' h a1;refine ⟨b1, .cons x K F, ?_, ⟨a2, a3, a4, b3⟩, ⟨?_, b4⟩, ?_⟩
         · show F.count + 1 = n + 1
           rw [b2]
         · rw [a5]
           cases hc : partOK k.part ((twAt ts s.gone).op : Int) (p : Int) kids with
           | true => rfl
           | false => exact absurd hc h2
         · show ts.drop s.gone = x :: (K.flat ++ F.flat) ++ ts.drop s'.gone
           rw [a6, b5];simp
theorem allows_least {k : Kind} {x : Tw} (h : allowsB k x = true) : 0 ≤ x.kids := by
 unfold allowsB at h;simp only [Bool.and_eq_true, decide_eq_true_eq] at h;omega
theorem pass_forest (ts : List Tw) : ∀ (fuel lies : Nat) (s s' : PSt), passF fuel ts lies s = (true, s') → s.gone < ts.length → s'.gone ≤ ts.length ∧ ∃ x K, (Fs.cons x K .nil).ok ∧ x = twAt ts s.gone ∧ ts.drop s.gone = x :: (K.flat ++ ts.drop s'.gone)
 | 0, _, s, s', h, _ => by cases h
 | fuel + 1, lies, s, s', h, hl => by
   unfold passF at h;split at h
   · cases h
   · rename_i k hk
     split at h
     · cases h
     · rename_i ha
       have ha' : allowsB k (twAt ts s.gone) = true := by
         cases hc : allowsB k (twAt ts s.gone) with
         | true => rfl
         | false => exact absurd hc ha
       obtain ⟨b1, F, b2, b3, b4, b5⟩ := kids_forest ts k (twAt ts s.gone).kids _ (fun t t' ht htl => pass_forest ts fuel (lies + 1) t t' ht htl) _ 0 (nextS s lies) s' h hl;refine ⟨b1, twAt ts s.gone, F, ⟨⟨k, hk, ha', b4⟩, ?_, b3, trivial⟩, rfl, ?_⟩
       · rw [b2]
         have := allows_least ha';omega
       · rw [drop_at hl]
         congr 1
theorem right_forest {ts : List Tw} (h : (lookF ts).2.2 = 0) : ∃ x K, (Fs.cons x K .nil).ok ∧ ts = x :: K.flat ∧ ts.length ≤ 2048 := by
 unfold lookF at h;split at h
 · cases h
 · split at h
   · cases h
   · split at h
     · cases h
     · rename_i h1 h0 h2
       rcases hq : passF ts.length ts 1 ⟨0, 0, 0⟩ with ⟨b, s'⟩
       rw [hq] at h2;have hb : b = true := by
         cases b
         · exact absurd (.inl rfl) h2
         · rfl
       subst hb;obtain ⟨a1, x, K, a2, _, a3⟩ := pass_forest ts _ _ _ _ hq (by show 0 < ts.length; omega);have hg : s'.gone = ts.length := by
         have : ¬ s'.gone < ts.length := fun h => h2 (.inr h)
         omega
       refine ⟨x, K, a2, ?_, by omega⟩;have e : ts.drop 0 = x :: (K.flat ++ ts.drop s'.gone) := a3;rw [hg, List.drop_length, List.append_nil, List.drop_zero] at e;exact e
end Go.Proofs.YtjiemkidmlgbeaaGreatDoor
