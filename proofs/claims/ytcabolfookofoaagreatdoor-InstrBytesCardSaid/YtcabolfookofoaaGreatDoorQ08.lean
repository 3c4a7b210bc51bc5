/- A part of the proof: IQ. No condition. -/
import Derived.Test.YtcabolfookofoaaGreatDoorQ04
set_option linter.unusedVariables false
set_option linter.unusedSimpArgs false
namespace Go.Proofs.YtcabolfookofoaaGreatDoor
open Go.RowKit
theorem leastI_some {d : List Int} {g : Nat → Bool} {p : Nat} : leastI d g = some p ↔ p < d.length ∧ d.getD p (-1) ≠ -1 ∧ g p = false ∧ ∀ q, q < p → d.getD q (-1) = -1 ∨ g q = true := by
 unfold leastI;rw [List.find?_range_eq_some];simp only [List.mem_range, Bool.and_eq_true, decide_eq_true_eq, Bool.not_and, Bool.or_eq_true, Bool.not_not, Bool.not_eq_eq_eq_not, Bool.not_true, decide_eq_false_iff_not, Decidable.not_not]
 constructor
 · rintro ⟨⟨h1, h2⟩, h3, h4⟩; exact ⟨h3, h1, h2, h4⟩
 · rintro ⟨h3, h1, h2, h4⟩; exact ⟨⟨h1, h2⟩, h3, h4⟩
theorem leastI_none {d : List Int} {g : Nat → Bool} : leastI d g = none ↔ ∀ p, p < d.length → d.getD p (-1) = -1 ∨ g p = true := by
 unfold leastI;rw [List.find?_eq_none]
 constructor
 · intro h p hp
   have := h p (List.mem_range.2 hp);by_cases e : d.getD p (-1) = -1
   · exact .inl e
   · right
     cases hg : g p with
     | true => rfl
     | false => exact absurd (by rw [hg, decide_eq_true e]; rfl) this
 · intro h p hp hn
   rcases h p (List.mem_range.1 hp) with e | e
   · rw [decide_eq_false (fun h => h e)] at hn; cases hn
   · rw [e, Bool.not_true, Bool.and_false] at hn; cases hn
def cntI (g : Nat → Bool) : Nat → Nat
 | 0 => 0
 | n + 1 => cntI g n + (if g n = true then 0 else 1)
theorem cntI_none : ∀ n, cntI (fun _ => false) n = n
 | 0 => rfl
 | n + 1 => by show cntI _ n + 1 = _; rw [cntI_none n]
theorem cntI_over {g : Nat → Bool} {p : Nat} : ∀ {n : Nat}, n ≤ p → cntI (goneI g p) n = cntI g n
 | 0, _ => rfl
 | n + 1, h => by
   show cntI _ n + _ = cntI _ n + _
   rw [cntI_over (by omega)];simp only [goneI, decide_eq_false (show ¬ n = p by omega), Bool.false_or]
theorem cntI_gone {g : Nat → Bool} {p : Nat} (hg : g p = false) : ∀ {n : Nat}, p < n → cntI (goneI g p) n + 1 = cntI g n
 | 0, h => by omega
 | n + 1, h => by
   show cntI _ n + _ + 1 = cntI _ n + _
   by_cases e : n = p
   · subst e
     rw [cntI_over (Nat.le_refl _), if_pos (by simp [goneI]), if_neg (by rw [hg]; exact Bool.false_ne_true)]
   · have := cntI_gone hg (n := n) (by omega)
     simp only [goneI, decide_eq_false e, Bool.false_or] at *;omega
theorem getD_set (d : List Int) (q : Nat) (v : Int) (r : Nat) (h : q < d.length) : (d.set q v).getD r (-1) = if r = q then v else d.getD r (-1) := by
 rw [List.getD_eq_getElem?_getD, List.getD_eq_getElem?_getD, List.getElem?_set];by_cases e : q = r
 · subst e; rw [if_pos rfl, if_pos h, if_pos rfl]; rfl
 · rw [if_neg e, if_neg (fun h => e h.symm)]
def DpI (d : List Int) (B : Int) : Prop := ∀ r, (d.getD r (-1) = -1 ∨ 0 ≤ d.getD r (-1)) ∧ d.getD r (-1) ≤ B
def KeptI (d d' : List Int) : Prop := d'.length = d.length ∧ ∀ r, d.getD r (-1) ≠ -1 → d'.getD r (-1) = d.getD r (-1)
theorem KeptI.refl (d : List Int) : KeptI d d := ⟨rfl, fun _ _ => rfl⟩
theorem KeptI.trans {a b c : List Int} (h : KeptI a b) (g : KeptI b c) : KeptI a c := ⟨g.1.trans h.1, fun r hr => (g.2 r (by rw [h.2 r hr]; exact hr)).trans (h.2 r hr)⟩
theorem meetI_some {d d' : List Int} {q : Nat} {v B : Int} (h : meetI d q v = some d') (h0 : 0 ≤ v) (hv : v ≤ B) (hd : DpI d B) : q < d.length ∧ d'.getD q (-1) = v ∧ KeptI d d' ∧ DpI d' B := by
 unfold meetI at h;split at h
 · cases h
 · rename_i hq
   have hq' : q < d.length := by omega
   split at h
   · rename_i h1
     cases h
     refine ⟨hq', by rw [getD_set _ _ _ _ hq', if_pos rfl], ⟨by rw [List.length_set], fun r hr => ?_⟩, fun r => ?_⟩
     · rw [getD_set _ _ _ _ hq', if_neg (fun e => hr (by rw [e]; exact h1))]
     · rw [getD_set _ _ _ _ hq']
       split
       · exact ⟨.inr h0, hv⟩
       · exact hd r
   · split at h
     · rename_i h2
       cases h
       exact ⟨hq', h2, KeptI.refl _, hd⟩
     · cases h
structure FitAt (code : List Ins) (d : List Int) (p : Nat) : Prop where
 takes : takesI (inAt code p) ≤ d.getD p (-1)
 ends : endsI (inAt code p).op = true → d.getD p (-1) = takesI (inAt code p)
 goal : endsI (inAt code p).op = false → akI (inAt code p).op = 1 → (inAt code p).a.toNat < d.length ∧ d.getD (inAt code p).a.toNat (-1) = thereI (inAt code p) (d.getD p (-1))
 next : endsI (inAt code p).op = false → (inAt code p).op ≠ 1 → p + 1 < d.length ∧ d.getD (p + 1) (-1) = nextI (inAt code p) (d.getD p (-1))
theorem leaveR_le (op : Nat) : leaveR op ≤ 1 := by unfold leaveR; split <;> omega
theorem nextI_range {x : Ins} {d : Int} (h : takesI x ≤ d) (h0 : 0 ≤ takesI x) : 0 ≤ nextI x d ∧ nextI x d ≤ d + 1 := by
 unfold nextI;have := leaveR_le x.op;omega
theorem thereI_range {x : Ins} {d : Int} (h : takesI x ≤ d) (h0 : 0 ≤ takesI x) : 0 ≤ thereI x d ∧ thereI x d ≤ d + 1 := by
 unfold thereI;have := nextI_range h h0;split
 · omega
 · split <;> omega
theorem FitAt.kept {code : List Ins} {d d' : List Int} {p : Nat} (h : FitAt code d p) (hk : KeptI d d') (hp : d.getD p (-1) ≠ -1) (h0 : 0 ≤ takesI (inAt code p)) : FitAt code d' p := by
 have e := hk.2 p hp;have ht := h.takes;refine ⟨by rw [e]; exact ht, fun hh => by rw [e]; exact h.ends hh, fun h1 h2 => ?_, fun h1 h2 => ?_⟩
 · obtain ⟨a, b⟩ := h.goal h1 h2
   have := (thereI_range ht h0).1;rw [e, hk.1, hk.2 _ (by rw [b]; omega)];exact ⟨a, b⟩
 · obtain ⟨a, b⟩ := h.next h1 h2
   have := (nextI_range ht h0).1;rw [e, hk.1, hk.2 _ (by rw [b]; omega)];exact ⟨a, b⟩
theorem stepI_some {code : List Ins} {d d' : List Int} {p : Nat} {B : Int} (h : stepI code d p = some d') (hp : d.getD p (-1) ≠ -1) (hd : DpI d B) (h0 : 0 ≤ takesI (inAt code p)) :
   FitAt code d' p ∧ KeptI d d' ∧ DpI d' (B + 1) := by
 have hB : DpI d (B + 1) := fun r => ⟨(hd r).1, by have := (hd r).2; omega⟩;have hpB := (hd p).2;unfold stepI at h;dsimp only at h;split at h
 · cases h
 · rename_i ht
   have ht' : takesI (inAt code p) ≤ d.getD p (-1) := by omega
   have hn := nextI_range ht' h0;have hh := thereI_range ht' h0;cases he : endsI (inAt code p).op with
   | true =>
     rw [he, if_pos rfl] at h;split at h
     · rename_i e
       cases h
       exact ⟨⟨ht', fun _ => e, fun h1 => (by rw [he] at h1; cases h1), fun h1 => (by rw [he] at h1; cases h1)⟩, KeptI.refl _, hB⟩
     · cases h
   | false =>
     rw [he, if_neg Bool.false_ne_true] at h;have key : ∀ d1 : List Int, KeptI d d1 → DpI d1 (B + 1) → (akI (inAt code p).op = 1 → (inAt code p).a.toNat < d1.length ∧ d1.getD (inAt code p).a.toNat (-1) = thereI (inAt code p) (d.getD p (-1))) →
         (if (inAt code p).op = 1 then some d1 else meetI d1 (p + 1) (nextI (inAt code p) (d.getD p (-1)))) = some d' → FitAt code d' p ∧ KeptI d d' ∧ DpI d' (B + 1) := by
       intro d1 k1 b1 g1 h;split at h
       · rename_i o1
         cases h
         have e := k1.2 p hp;exact ⟨⟨(by rw [e]; exact ht'), fun hx => (by rw [he] at hx; cases hx), fun _ ha => (by rw [e]; exact g1 ha), fun _ hx => absurd o1 hx⟩, k1, b1⟩
       · rename_i o1
         obtain ⟨m1, m2, m3, m4⟩ := meetI_some h hn.1 (by omega) b1;have k2 := k1.trans m3;have e := k2.2 p hp;refine ⟨⟨(by rw [e]; exact ht'), fun hx => (by rw [he] at hx; cases hx), fun _ ha => ?_, fun _ _ => ?_⟩, k2, m4⟩
         · obtain ⟨g2, g3⟩ := g1 ha
           rw [e, m3.1, m3.2 _ (by rw [g3]; omega)];exact ⟨g2, g3⟩
         · rw [e, m3.1]
           exact ⟨m1, m2⟩
     by_cases ha : akI (inAt code p).op = 1
     · rw [if_pos ha] at h
       cases hm : meetI d (inAt code p).a.toNat (thereI (inAt code p) (d.getD p (-1))) with
       | none => rw [hm] at h; cases h
       | some d1 =>
         rw [hm] at h;obtain ⟨m1, m2, m3, m4⟩ := meetI_some hm hh.1 (by omega) hB;exact key d1 m3 m4 (fun _ => ⟨by rw [m3.1]; exact m1, m2⟩) h
     · rw [if_neg ha] at h
       exact key d (KeptI.refl _) hB (fun hx => absurd hx ha) h
structure FitsI (code : List Ins) (d : List Int) : Prop where
 len : d.length = code.length
 first : d.getD 0 (-1) = 0
 dp : DpI d (code.length + 1)
 at_ : ∀ p, d.getD p (-1) ≠ -1 → FitAt code d p
theorem fitI_ok {code : List Ins} (h0 : ∀ p, 0 ≤ takesI (inAt code p)) : ∀ (f : Nat) (d : List Int) (g : Nat → Bool) (d' : List Int) (B : Int), fitI code f d g = (d', none) → cntI g d.length < f → DpI d B →
   (∀ p, g p = true → d.getD p (-1) ≠ -1 ∧ FitAt code d p) → KeptI d d' ∧ DpI d' (B + f) ∧ ∀ p, d'.getD p (-1) ≠ -1 → FitAt code d' p
 | 0, _, _, _, _, _, h, _, _ => by omega
 | f + 1, d, g, d', B, he, hc, hd, hg => by
   unfold fitI at he;cases hl : leastI d g with
   | none =>
     rw [hl] at he;cases he
     have hn := leastI_none.1 hl;refine ⟨KeptI.refl _, fun r => ⟨(hd r).1, by have := (hd r).2; omega⟩, fun p hp => ?_⟩;by_cases hlt : p < d.length
     · rcases hn p hlt with e | e
       · exact absurd e hp
       · exact (hg p e).2
     · exact absurd (by rw [List.getD_eq_getElem?_getD, List.getElem?_eq_none (by omega)]; rfl) hp
   | some p =>
     rw [hl] at he;obtain ⟨l1, l2, l3, l4⟩ := leastI_some.1 hl;dsimp only at he;cases hs : stepI code d p with
     | none => rw [hs] at he; simp at he
     | some d1 =>
       rw [hs] at he;dsimp only at he;obtain ⟨s1, s2, s3⟩ := stepI_some hs l2 hd (h0 p);have hcg := cntI_gone l3 l1;obtain ⟨r1, r2, r3⟩ := fitI_ok h0 f d1 (goneI g p) d' (B + 1) he (by rw [s2.1]; omega) s3 (fun q hgq => by
         by_cases e : q = p
         · subst e; exact ⟨by rw [s2.2 _ l2]; exact l2, s1⟩
         · have hgq' : g q = true := by simpa [goneI, e] using hgq
           obtain ⟨a, b⟩ := hg q hgq';exact ⟨by rw [s2.2 _ a]; exact a, b.kept s2 a (h0 q)⟩)
       exact ⟨s2.trans r1, fun r => ⟨(r2 r).1, by have := (r2 r).2; omega⟩, r3⟩
theorem depth0_get (n r : Nat) (hn : 0 < n) : (depth0 n).getD r (-1) = if r = 0 then 0 else -1 := by
 unfold depth0;rw [getD_set _ _ _ _ (by rw [List.length_replicate]; exact hn)];split
 · rfl
 · rw [List.getD_eq_getElem?_getD, List.getElem?_replicate]
   split <;> rfl
theorem depth0_len (n : Nat) : (depth0 n).length = n := by unfold depth0; rw [List.length_set, List.length_replicate]
theorem fitsI_ok {code : List Ins} (h0 : ∀ p, 0 ≤ takesI (inAt code p)) (hn : 0 < code.length) {d : List Int} (h : fitsI code = (d, none)) : FitsI code d := by
 have hd : DpI (depth0 code.length) 0 := fun r => by
   rw [depth0_get _ _ hn];split <;> simp
 obtain ⟨r1, r2, r3⟩ := fitI_ok h0 _ _ _ d 0 h (by rw [cntI_none, depth0_len]; omega) hd (fun p hp => by cases hp);refine ⟨by rw [r1.1, depth0_len], ?_, ?_, r3⟩
 · rw [r1.2 0 (by rw [depth0_get _ _ hn]; simp), depth0_get _ _ hn]; rfl
 · have e : (0 : Int) + ((code.length + 1 : Nat) : Int) = (code.length : Int) + 1 := by omega
   rw [e] at r2;exact r2
def itI (code : List Ins) : Nat → Nat → Nat
 | 0, p => p
 | k + 1, p => itI code k (succI code p)
theorem itI_add (code : List Ins) : ∀ (a b p : Nat), itI code (a + b) p = itI code b (itI code a p)
 | 0, b, p => by rw [Nat.zero_add]; rfl
 | a + 1, b, p => by rw [show a + 1 + b = (a + b) + 1 by omega]; exact itI_add code a b (succI code p)
theorem runI_iff (code : List Ins) : ∀ (k p : Nat), runI code k p = true ↔ ∀ j, j < k → freeI (inAt code (itI code j p)).op = true
 | 0, p => by simp [runI]
 | k + 1, p => by
   unfold runI;rw [Bool.and_eq_true, runI_iff code k]
   constructor
   · rintro ⟨h1, h2⟩ j hj
     cases j with
     | zero => exact h1
     | succ j => exact h2 j (by omega)
   · intro h
     exact ⟨h 0 (by omega), fun j hj => h (j + 1) (by omega)⟩
theorem two_alike : ∀ (n : Nat) (f : Nat → Nat), (∀ i, i ≤ n → f i < n) → ∃ i j, i < j ∧ j ≤ n ∧ f i = f j
 | 0, f, h => by have := h 0 (Nat.le_refl _); omega
 | n + 1, f, h => by
   by_cases e : ∃ i, i ≤ n ∧ f i = f (n + 1)
   · obtain ⟨i, hi, e⟩ := e
     exact ⟨i, n + 1, by omega, by omega, e⟩
   · have he : ∀ i, i ≤ n → f i ≠ f (n + 1) := fun i hi h => e ⟨i, hi, h⟩
     have hl := h (n + 1) (Nat.le_refl _);obtain ⟨i, j, hij, hj, e2⟩ := two_alike n (fun i => if f i = n then f (n + 1) else f i) (fun i hi => by
       have h1 := h i (by omega);have h2 := he i hi;split <;> omega)
     have h1 := he i (by omega);have h2 := he j hj;refine ⟨i, j, hij, by omega, ?_⟩;split at e2 <;> split at e2 <;> omega
theorem it_round {code : List Ins} {p i j : Nat} (hij : i < j) (e : itI code i p = itI code j p) (h : ∀ k, k < j → freeI (inAt code (itI code k p)).op = true) : ∀ k, freeI (inAt code (itI code k p)).op = true := by
 intro k
 induction k using Nat.strongRecOn with
 | _ k ih =>
   by_cases hk : k < j
   · exact h k hk
   · have e1 : itI code k p = itI code (i + (k - j)) p := by
       rw [show k = j + (k - j) by omega, itI_add, ← e, ← itI_add]
       congr 1
       omega
     rw [e1];exact ih _ (by omega)
theorem succ_met {code : List Ins} {d : List Int} (hf : FitsI code d) (h0 : ∀ p, 0 ≤ takesI (inAt code p)) {p : Nat} (hp : d.getD p (-1) ≠ -1) (hfr : freeI (inAt code p).op = true) : d.getD (succI code p) (-1) ≠ -1 := by
 have hA := hf.at_ p hp;unfold freeI at hfr;rw [Bool.or_eq_true, beq_iff_eq, beq_iff_eq] at hfr;unfold succI;rcases hfr with e | e
 · rw [if_pos e]
   have := hA.goal (by rw [e]; rfl) (by rw [e]; rfl);rw [this.2];have := (thereI_range hA.takes (h0 p)).1;omega
 · rw [if_neg (by omega)]
   have := hA.next (by rw [e]; rfl) (by omega);rw [this.2];have := (nextI_range hA.takes (h0 p)).1;omega
theorem met_lt {d : List Int} {p : Nat} (hp : d.getD p (-1) ≠ -1) : p < d.length := by
 rcases Nat.lt_or_ge p d.length with h | h
 · exact h
 · exact absurd (by rw [List.getD_eq_getElem?_getD, List.getElem?_eq_none h]; rfl) hp
theorem it_met {code : List Ins} {d : List Int} (hf : FitsI code d) (h0 : ∀ p, 0 ≤ takesI (inAt code p)) : ∀ (k p : Nat), d.getD p (-1) ≠ -1 → (∀ j, j < k → freeI (inAt code (itI code j p)).op = true) → d.getD (itI code k p) (-1) ≠ -1
 | 0, _, hp, _ => hp
 | k + 1, p, hp, h => it_met hf h0 k (succI code p) (succ_met hf h0 hp (h 0 (by omega))) (fun j hj => h (j + 1) (by omega))
theorem run_all {code : List Ins} {d : List Int} (hf : FitsI code d) (h0 : ∀ p, 0 ≤ takesI (inAt code p)) {p : Nat} (hp : d.getD p (-1) ≠ -1) (h : runI code (d.length + 1) p = true) (k : Nat) : freeI (inAt code (itI code k p)).op = true := by
 have hr := (runI_iff code _ p).1 h;obtain ⟨i, j, hij, hj, e⟩ := two_alike d.length (fun i => itI code i p) (fun i hi => met_lt (it_met hf h0 i p hp (fun j hj => hr j (by omega))));exact it_round hij e (fun k hk => hr k (by omega)) k
theorem run_stops {code : List Ins} {d : List Int} (hf : FitsI code d) (h0 : ∀ p, 0 ≤ takesI (inAt code p)) {p k : Nat} (hp : d.getD p (-1) ≠ -1) (h : freeI (inAt code (itI code k p)).op = false) : runI code (d.length + 1) p = false := by
 cases hr : runI code (d.length + 1) p with
 | false => rfl
 | true => rw [run_all hf h0 hp hr k] at h; cases h
theorem run_round {code : List Ins} {p j m : Nat} (hj : j < m) (e : itI code m p = itI code j p) (h : ∀ k, k < m → freeI (inAt code (itI code k p)).op = true) (n : Nat) : runI code n p = true :=
 (runI_iff code n p).2 (fun k _ => it_round hj e.symm h k)
end Go.Proofs.YtcabolfookofoaaGreatDoor
