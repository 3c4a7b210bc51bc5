/- A part of the proof: JAll. No condition. -/
import Derived.Test.YtfajfflbplnagaaDoorQ41
set_option linter.unusedVariables false
set_option linter.unusedSimpArgs false
namespace Go.Proofs.YtfajfflbplnagaaDoor
open Go.RowKit Go.Shelf
section
variable {w W : World} {R L cap : Nat} {a : Option Addr} {f : Nat → Nat}
theorem RS.since {s : PE} {base : Nat} (h : RS w R a L cap f s) (hR : R < base) (hby : ∀ q, a = some q → 0 < L → q.block < base) (hb : Below base w W) : RS W R a L cap f s := by
 have ho : Only (fun k => base ≤ k) w W := ⟨hb.os, hb.tape, hb.output, hb.size, fun k _ hn => hb.block k (Nat.lt_of_not_le hn)⟩;exact h.kept ho (by omega) (fun q hq h0 e => by have := hby q hq h0; omega)
theorem only_since {base R : Nat} {w0 : World} (ho : Only (fun k => k = R) w0 w) (hz : w0.heap.size = base) (hb : Below base w W) : Only (fun k => k = R) w0 W :=
 ho.trans (K := fun k => k = R) (G := fun k => base ≤ k) ⟨hb.os, hb.tape, hb.output, hb.size, fun k _ hn => hb.block k (Nat.lt_of_not_le hn)⟩ (fun _ _ h => h) (fun k hk h => by omega)
theorem InsAt.own {base : Nat} {v : Value} {ns : List Ins} (h : InsAt w base v ns) {g : Nat} (hg : v.ownBlock = some g) : base ≤ g := by
 rcases h.2 with ⟨hv, _⟩ | ⟨g', cap, cur, hv, hb, _⟩
 · rw [hv] at hg; cases hg
 · rw [hv] at hg
   have e1 : g = g' := by simpa [Value.ownBlock] using hg.symm
   omega
def GoesTo (f : Nat → Nat) (L n : Nat) (Z : List Ins × Nat × Nat) (l : List Ins) (s : PE) : Prop := (s.e = 0 ∧ l.length ≤ n ∧ goR f L n (n - l.length) s.p l = Z) ∨ (s.e ≠ 0 ∧ Z = ([], s.p, s.e))
theorem goes_on {n : Nat} {Z : List Ins × Nat × Nat} {l : List Ins} {s : PE} (h : GoesTo f L n Z l s) (he : s.e = 0) (hl : l.length < n) (hn : n ≤ 8192) (hp : s.p ≤ L) : GoesTo f L n Z (l ++ [insX f L s]) (insS f L n s) := by
 obtain ⟨p, e⟩ := s;dsimp only at he hp;subst he;rcases h with ⟨_, _, h⟩ | ⟨h, _⟩
 · dsimp only at h
   rw [show n - l.length = (n - (l.length + 1)) + 1 by omega] at h;unfold goR at h;obtain ⟨e1, e2⟩ := ins_link (f := f) hp hn;rw [e1];by_cases c : (insR f L n p).code ≠ 0
   · rw [if_pos c] at h
     exact .inr ⟨c, h.symm⟩
   · rw [if_neg c] at h
     refine .inl ⟨by show (insR f L n p).code = 0; omega, by rw [List.length_append, List.length_singleton]; omega, ?_⟩;rw [e2 (by omega), List.length_append, List.length_singleton];exact h
 · exact absurd rfl h
def endS (L : Nat) (s : PE) : PE := if s.p < L then refS s s.p 3 else s
theorem goes_end {n : Nat} {Z : List Ins × Nat × Nat} {l : List Ins} {s : PE} (h : GoesTo f L n Z l s) (hx : s.e ≠ 0 ∨ ¬ l.length < n) : Z.2 = ((endS L s).p, (endS L s).e) ∧ ((endS L s).e = 0 → l = Z.1) := by
 obtain ⟨p, e⟩ := s;unfold endS refS;dsimp only at *;rcases h with ⟨h1, h2, h3⟩ | ⟨h1, rfl⟩
 · dsimp only at h1 h3
   subst h1;have hl : n - l.length = 0 := by
     rcases hx with hx | hx
     · exact absurd rfl hx
     · omega
   rw [hl] at h3;unfold goR at h3;by_cases c : p < L
   · rw [if_pos c] at h3 ⊢
     rw [← h3];exact ⟨rfl, fun h => by cases h⟩
   · rw [if_neg c] at h3 ⊢
     rw [← h3];exact ⟨rfl, fun _ => rfl⟩
 · dsimp only at h1
   by_cases c : p < L
   · rw [if_pos c, if_neg h1]
     exact ⟨rfl, fun h => absurd h h1⟩
   · rw [if_neg c]
     exact ⟨rfl, fun h => absurd h h1⟩
def lenV : Value → Nat
 | .slice _ n _ => n
 | _ => 0
set_option maxRecDepth 20000 in
set_option maxHeartbeats 4000000 in
theorem all_any (h : RS w R a L cap f ⟨0, 0⟩) (hW : WordsOK w) : Calls Tryd.prog 10 #[.pointer (some ⟨R, 0, none⟩)] w fun e w' => ∃ lv l s, e = .returned lv ∧ InsAt w' w.heap.size lv l ∧ RS w' R a L cap f s ∧ Only (fun k => k = R) w w' ∧ (readR f L).2 = (s.p, s.e) ∧ (s.e = 0 → l = (readR f L).1) := by
 have hRw := (Array.getElem?_eq_some_iff.1 h.st).1;have hby0 : ∀ q, a = some q → 0 < L → q.block < w.heap.size := fun q hq h0 => by
   obtain ⟨b, off, e1, e2, _⟩ := h.by_ h0;rw [hq] at e1;cases e1
   exact e2
 have kU := fld_uint h;have hlt := numVal_lt h;obtain ⟨n, hn⟩ := exHid (numVal f L ⟨0, 0⟩);obtain ⟨s1, hs1⟩ := exHid (numS f L ⟨0, 0⟩);rw [hn.out, hs1.out] at kU;rw [hn.out] at hlt;unfold FldP at kU;replace kU := Lib.hid kU;obtain ⟨Z, hZ⟩ := exHid (readR f L);rw [hZ.out];have hZ1 : Hid (Z = if s1.e ≠ 0 then ([], s1.p, s1.e) else if 8192 < n then ([], 0, 2) else goR f L n n s1.p []) := Lib.hid (by
   rw [← hZ.out, ← hs1.out, ← hn.out];rfl)
 have hn0 : s1.e ≠ 0 → n = 0 := by
   intro he;rw [← hs1.out] at he;rw [← hn.out];have hr := numR_range (f := f) (L := L) (p := 0) h.le (fun j _ hj => h.by_.lt j hj);have he' : (numR f L 0).code ≠ 0 := he;show (numR f L 0).v = 0
   rcases hr.2.2 with q | q | q
   · exact absurd q.1 he'
   · exact q.2.2
   · exact q.2.2
 replace hn0 := Lib.hid hn0;have hcl := h.lc;have hcm := h.cm;have hWW := Lib.hid hW;have hh := Lib.hid h;replace hby0 := Lib.hid hby0;clear h hW hs1 hn;go_enter Tryd.func10, Tryd.ntmps10
 go_wp2_with fail
 refine kU.out.mono ?_;rintro e w1 ⟨rfl, hS1, ho1⟩;have key : (8192 < n ∧ s1.e = 0) ∨ (n ≤ 8192 ∧ GoesTo f L n Z [] s1) := by
   have hz := hZ1.out;by_cases c : 8192 < n
   · refine .inl ⟨c, ?_⟩
     by_cases e : s1.e = 0
     · exact e
     · have := hn0.out e; omega
   · refine .inr ⟨by omega, ?_⟩
     by_cases e : s1.e = 0
     · rw [if_neg (fun h => h e), if_neg c] at hz
       exact .inl ⟨e, Nat.zero_le _, hz.symm⟩
     · rw [if_pos e] at hz
       exact .inr ⟨e, hz⟩
 rcases key with ⟨c, e0⟩ | ⟨c, hG⟩
 · have hz := hZ1.out
   rw [if_neg (fun h => h e0), if_pos c] at hz;have hG : GoesTo f L n Z [] ⟨0, 2⟩ := .inr ⟨by show (2 : Nat) ≠ 0; decide, hz⟩;have hci : (8192 : Int) < (n : Int) := by omega
   have kQ := refuse_any hS1 (q := 0) (c := 2) (Nat.zero_le _);have hrs : refS s1 0 2 = ⟨0, 2⟩ := by unfold refS; rw [if_pos e0]
   rw [hrs] at kQ;replace kQ := Lib.hid kQ;obtain ⟨s2, hs2⟩ := exHid (⟨0, 2⟩ : PE);have hn8 : Hid (s2.e = 0 → n ≤ 8192) := Lib.hid (fun h => by rw [← hs2.out] at h; cases h);have kQ := kQ.out;rw [hs2.out] at kQ hG;replace kQ := Lib.hid kQ;replace ho1 := Lib.hid ho1;replace hG := Lib.hid hG;replace e0 := Lib.hid e0;clear hS1 hZ1 hn0 kU hrs hz;go_wp2_with fail
   refine kQ.out.mono ?_;rintro e w2 ⟨rfl, hS2, ho2⟩;have ho3 := Lib.hid (ho1.out.then ho2);replace hS2 := Lib.hid hS2;clear kQ ho2 ho1 hci;clear c e0 hs2;go_wp2_with fail
   go_loopw [3] (fun t3 wr => ∃ (l : List Ins) (s : PE), Hid (InsAt wr w.heap.size t3 l) ∧ Hid (RS wr R a L cap f s) ∧ Hid (Only (fun k => k = R) w wr) ∧ Hid (GoesTo f L n Z l s) ∧ Hid (s.e = 0 → n ≤ 8192) ∧ Hid (l.length ≤ 8192)) (fun t3 _ => n - lenV t3)
   case atStart => exact ⟨[], s2, Lib.hid (World.ownsRow_nil _ _ _ _), hS2, ho3, hG, hn8, Lib.hid (Nat.zero_le _)⟩
   case round =>
     clear hS2 ho3 hG hn8;obtain ⟨l, s, hI, hS, ho, hG, hn8, hl8⟩ := hrel;obtain ⟨la, lc, rfl, hc1, hc2⟩ := id hI.out.shape;have c0 := cellJ hS.out.st 0; have c1 := cellJ hS.out.st 1; have c2 := cellJ hS.out.st 2;simp only [List.getElem?_toArray, List.getElem?_cons_succ, List.getElem?_cons_zero] at c0 c1 c2;have hll := hl8.out;by_cases hlt2 : l.length < n
     · by_cases he : s.e = 0
       · have hn8' := hn8.out he
         have q1 : decide ((l.length : Int) < (n : Int)) = true := decide_eq_true (by omega);have q2 : decide (l.length < n) = true := decide_eq_true hlt2;have qi : (l.length : Int) < (n : Int) := by omega
         have qe : ((s.e : Int) == 0) = true := by rw [he]; rfl
         have hG2 := goes_on hG.out he hlt2 hn8' hS.out.le;have kI := instr_any hS.out (words_only hWW.out hh.out ho.out) (n : Int);have hni : (n : Int) ≤ 8192 := by omega
         obtain ⟨X, hX⟩ := exHid (insX f L s);obtain ⟨s', hs'⟩ := exHid (insS f L n s);rw [hX.out, hs'.out] at kI hG2;obtain ⟨XO, XA, XN, XT⟩ := X;unfold insV at kI;dsimp only at kI;replace kI := Lib.hid kI;replace hG2 := Lib.hid hG2;replace he := Lib.hid he;clear hG hX hs';go_wp2_with fail
         refine kI.out.mono ?_;rintro e w5 ⟨rfl, hS5, ho5⟩;have hI5 : InsAt w5 w.heap.size (.slice la l.length lc) l := ownsRow_only hI.out ho5 (fun g hg e => by have := (hI.out.own hg); omega);have hb5 := (Below.refl w5.heap.size w5).alloc (Nat.le_refl _) (.cells #[.int .u8 XO, .int .i64 XA, .int .i64 XN, .string ⟨XT.toArray⟩] 40);have hI6 := Lib.hid (hI5.below hb5);have hu : InsIn (w5.alloc (.cells #[.int .u8 XO, .int .i64 XA, .int .i64 XN, .string ⟨XT.toArray⟩] 40)) (.slice (some ⟨w5.heap.size, 0, none⟩) [(⟨XO, XA, XN, XT⟩ : Ins)].length 1) [⟨XO, XA, XN, XT⟩] := by
           refine ⟨_, 1, rfl, Nat.le_refl _, by decide, fun _ => ⟨w5.heap.size, 0, rfl, by simp, fun i hi c hc => ?_⟩⟩;have hi0 : i = 0 := by simp at hi; omega
           subst hi0;rw [show 0 + 0 * 4 + c = c by omega, cellJ (heap_alloc_new w5 _) c];simp [insC]
         have ho6 := (ho.out.then ho5).then (Only.of_below hb5);have hz6 := ho6.size;have hS6 := RM.below hS5 hb5;replace ho6 := Lib.hid ho6;replace hS6 := Lib.hid hS6;replace hu := Lib.hid hu;clear c0 c1 c2 hI hS ho kI hS5 ho5 hI5 hb5;go_wp2_with (at_builtin; (refine wpList_append_inss (base := w.heap.size) (us := [(⟨XO, XA, XN, XT⟩ : Ins)]) rfl _ _ rfl rfl hI6.out rfl hu.out (by omega) (by simp) hz6 ?_; intro a7 cap7 w7 hI7 hb7))
         have hS7 := Lib.hid (RS.since hS6.out hRw hby0.out hb7);have ho7 := Lib.hid (only_since ho6.out rfl hb7);replace hI7 := Lib.hid hI7;clear hS6 ho6 hb7 hu hI6;go_roundw
         case rel => exact ⟨l ++ [⟨XO, XA, XN, XT⟩], s', hI7, hS7, ho7, hG2, Lib.hid (fun _ => hn8'), Lib.hid (by rw [List.length_append, List.length_singleton]; omega)⟩
         case measure => simp [lenV]; omega
       · have q1 : decide ((l.length : Int) < (n : Int)) = true := decide_eq_true (by omega)
         have q2 : decide (l.length < n) = true := decide_eq_true hlt2;have qi : (l.length : Int) < (n : Int) := by omega
         have qe : ((s.e : Int) == 0) = false := beq_eq_false_iff_ne.2 (by omega);have hE := Lib.hid (goes_end hG.out (.inl he));replace he := Lib.hid he;clear hG;have hpl : s.p ≤ L := hS.out.le;by_cases hp : s.p < L
         · have hpi : (s.p : Int) < (L : Int) := by omega
           have hEs : endS L s = refS s s.p 3 := by unfold endS; rw [if_pos hp]
           have kQ := refuse_any (RM.below hS.out (Below.refl _ wr).drew) (q := s.p) (c := 3) hpl;have kQ := Lib.hid (kQ.mono fun e w' h => show e = .returned (.tuple #[]) ∧ RS w' R a L cap f (endS L s) ∧ Only (fun k => k = R) wr w' from by rw [hEs]; exact ⟨h.1, h.2.1, Only.drew0 h.2.2⟩);clear hEs;go_wp2_with fail
           go_region
           have c1' : wr.drew.cell? ⟨R, 1, none⟩ = some (.int .i64 s.p) := c1;go_wp2_with fail
           refine kQ.out.mono ?_;rintro e w8 ⟨rfl, hS8, ho8⟩;have hI8 := Lib.hid (show InsAt w8 w.heap.size (.slice la l.length lc) l from ownsRow_only hI.out ho8 (fun g hg e => by have := (hI.out.own hg); omega));have ho9 := Lib.hid (ho.out.then ho8);replace hS8 := Lib.hid hS8;clear kQ ho8;go_wp2_with fail
           go_ret
           exact ⟨_, l, _, rfl, hI8.out, hS8.out, ho9.out, hE.out.1, hE.out.2⟩
         · have hpi : ¬ (s.p : Int) < (L : Int) := by omega
           have hEs : endS L s = s := by unfold endS; rw [if_neg hp]
           go_wp2_with fail
           go_region
           go_wp2_with fail
           go_ret
           refine ⟨_, l, s, rfl, ownsRow_only hI.out ((Only.refl (fun _ => False) wr).drew) (fun _ _ h => h), RM.below hS.out (Below.refl _ wr).drew, ho.out.drew, ?_, ?_⟩
           · have := hE.out.1; rw [hEs] at this; exact this
           · have := hE.out.2; rw [hEs] at this; exact this
     · have q1 : decide ((l.length : Int) < (n : Int)) = false := decide_eq_false (by omega)
       have q2 : decide (l.length < n) = false := decide_eq_false hlt2;have qi : ¬ (l.length : Int) < (n : Int) := by omega
       have hE := Lib.hid (goes_end hG.out (.inr hlt2));clear hG;have hpl : s.p ≤ L := hS.out.le;by_cases hp : s.p < L
       · have hpi : (s.p : Int) < (L : Int) := by omega
         have hEs : endS L s = refS s s.p 3 := by unfold endS; rw [if_pos hp]
         have kQ := refuse_any (RM.below hS.out (Below.refl _ wr).drew) (q := s.p) (c := 3) hpl;have kQ := Lib.hid (kQ.mono fun e w' h => show e = .returned (.tuple #[]) ∧ RS w' R a L cap f (endS L s) ∧ Only (fun k => k = R) wr w' from by rw [hEs]; exact ⟨h.1, h.2.1, Only.drew0 h.2.2⟩);clear hEs;go_wp2_with fail
         go_region
         have c1' : wr.drew.cell? ⟨R, 1, none⟩ = some (.int .i64 s.p) := c1;go_wp2_with fail
         refine kQ.out.mono ?_;rintro e w8 ⟨rfl, hS8, ho8⟩;have hI8 := Lib.hid (show InsAt w8 w.heap.size (.slice la l.length lc) l from ownsRow_only hI.out ho8 (fun g hg e => by have := (hI.out.own hg); omega));have ho9 := Lib.hid (ho.out.then ho8);replace hS8 := Lib.hid hS8;clear kQ ho8;go_wp2_with fail
         go_ret
         exact ⟨_, l, _, rfl, hI8.out, hS8.out, ho9.out, hE.out.1, hE.out.2⟩
       · have hpi : ¬ (s.p : Int) < (L : Int) := by omega
         have hEs : endS L s = s := by unfold endS; rw [if_neg hp]
         go_wp2_with fail
         go_region
         go_wp2_with fail
         go_ret
         refine ⟨_, l, s, rfl, ownsRow_only hI.out ((Only.refl (fun _ => False) wr).drew) (fun _ _ h => h), RM.below hS.out (Below.refl _ wr).drew, ho.out.drew, ?_, ?_⟩
         · have := hE.out.1; rw [hEs] at this; exact this
         · have := hE.out.2; rw [hEs] at this; exact this
 · have hci : ¬ (8192 : Int) < (n : Int) := by omega
   have hn8 : Hid (s1.e = 0 → n ≤ 8192) := Lib.hid (fun _ => c);have ho3 := Lib.hid ho1;have hS2 := Lib.hid hS1;replace hG := Lib.hid hG;clear hS1 hZ1 hn0 kU ho1 c;go_wp2_with fail
   generalize s1 = s2 at *;generalize w1 = w2 at *;clear hci;go_loopw [3] (fun t3 wr => ∃ (l : List Ins) (s : PE), Hid (InsAt wr w.heap.size t3 l) ∧ Hid (RS wr R a L cap f s) ∧ Hid (Only (fun k => k = R) w wr) ∧ Hid (GoesTo f L n Z l s) ∧ Hid (s.e = 0 → n ≤ 8192) ∧ Hid (l.length ≤ 8192)) (fun t3 _ => n - lenV t3)
   case atStart => exact ⟨[], s2, Lib.hid (World.ownsRow_nil _ _ _ _), hS2, ho3, hG, hn8, Lib.hid (Nat.zero_le _)⟩
   case round =>
     clear hS2 ho3 hG hn8;obtain ⟨l, s, hI, hS, ho, hG, hn8, hl8⟩ := hrel;obtain ⟨la, lc, rfl, hc1, hc2⟩ := id hI.out.shape;have c0 := cellJ hS.out.st 0; have c1 := cellJ hS.out.st 1; have c2 := cellJ hS.out.st 2;simp only [List.getElem?_toArray, List.getElem?_cons_succ, List.getElem?_cons_zero] at c0 c1 c2;have hll := hl8.out;by_cases hlt2 : l.length < n
     · by_cases he : s.e = 0
       · have hn8' := hn8.out he
         have q1 : decide ((l.length : Int) < (n : Int)) = true := decide_eq_true (by omega);have q2 : decide (l.length < n) = true := decide_eq_true hlt2;have qi : (l.length : Int) < (n : Int) := by omega
         have qe : ((s.e : Int) == 0) = true := by rw [he]; rfl
         have hG2 := goes_on hG.out he hlt2 hn8' hS.out.le;have kI := instr_any hS.out (words_only hWW.out hh.out ho.out) (n : Int);have hni : (n : Int) ≤ 8192 := by omega
         obtain ⟨X, hX⟩ := exHid (insX f L s);obtain ⟨s', hs'⟩ := exHid (insS f L n s);rw [hX.out, hs'.out] at kI hG2;obtain ⟨XO, XA, XN, XT⟩ := X;unfold insV at kI;dsimp only at kI;replace kI := Lib.hid kI;replace hG2 := Lib.hid hG2;replace he := Lib.hid he;clear hG hX hs';go_wp2_with fail
         refine kI.out.mono ?_;rintro e w5 ⟨rfl, hS5, ho5⟩;have hI5 : InsAt w5 w.heap.size (.slice la l.length lc) l := ownsRow_only hI.out ho5 (fun g hg e => by have := (hI.out.own hg); omega);have hb5 := (Below.refl w5.heap.size w5).alloc (Nat.le_refl _) (.cells #[.int .u8 XO, .int .i64 XA, .int .i64 XN, .string ⟨XT.toArray⟩] 40);have hI6 := Lib.hid (hI5.below hb5);have hu : InsIn (w5.alloc (.cells #[.int .u8 XO, .int .i64 XA, .int .i64 XN, .string ⟨XT.toArray⟩] 40)) (.slice (some ⟨w5.heap.size, 0, none⟩) [(⟨XO, XA, XN, XT⟩ : Ins)].length 1) [⟨XO, XA, XN, XT⟩] := by
           refine ⟨_, 1, rfl, Nat.le_refl _, by decide, fun _ => ⟨w5.heap.size, 0, rfl, by simp, fun i hi c hc => ?_⟩⟩;have hi0 : i = 0 := by simp at hi; omega
           subst hi0;rw [show 0 + 0 * 4 + c = c by omega, cellJ (heap_alloc_new w5 _) c];simp [insC]
         have ho6 := (ho.out.then ho5).then (Only.of_below hb5);have hz6 := ho6.size;have hS6 := RM.below hS5 hb5;replace ho6 := Lib.hid ho6;replace hS6 := Lib.hid hS6;replace hu := Lib.hid hu;clear c0 c1 c2 hI hS ho kI hS5 ho5 hI5 hb5;go_wp2_with (at_builtin; (refine wpList_append_inss (base := w.heap.size) (us := [(⟨XO, XA, XN, XT⟩ : Ins)]) rfl _ _ rfl rfl hI6.out rfl hu.out (by omega) (by simp) hz6 ?_; intro a7 cap7 w7 hI7 hb7))
         have hS7 := Lib.hid (RS.since hS6.out hRw hby0.out hb7);have ho7 := Lib.hid (only_since ho6.out rfl hb7);replace hI7 := Lib.hid hI7;clear hS6 ho6 hb7 hu hI6;go_roundw
         case rel => exact ⟨l ++ [⟨XO, XA, XN, XT⟩], s', hI7, hS7, ho7, hG2, Lib.hid (fun _ => hn8'), Lib.hid (by rw [List.length_append, List.length_singleton]; omega)⟩
         case measure => simp [lenV]; omega
       · have q1 : decide ((l.length : Int) < (n : Int)) = true := decide_eq_true (by omega)
         have q2 : decide (l.length < n) = true := decide_eq_true hlt2;have qi : (l.length : Int) < (n : Int) := by omega
         have qe : ((s.e : Int) == 0) = false := beq_eq_false_iff_ne.2 (by omega);have hE := Lib.hid (goes_end hG.out (.inl he));replace he := Lib.hid he;clear hG;have hpl : s.p ≤ L := hS.out.le;by_cases hp : s.p < L
         · have hpi : (s.p : Int) < (L : Int) := by omega
           have hEs : endS L s = refS s s.p 3 := by unfold endS; rw [if_pos hp]
           have kQ := refuse_any (RM.below hS.out (Below.refl _ wr).drew) (q := s.p) (c := 3) hpl;have kQ := Lib.hid (kQ.mono fun e w' h => show e = .returned (.tuple #[]) ∧ RS w' R a L cap f (endS L s) ∧ Only (fun k => k = R) wr w' from by rw [hEs]; exact ⟨h.1, h.2.1, Only.drew0 h.2.2⟩);clear hEs;go_wp2_with fail
           go_region
           have c1' : wr.drew.cell? ⟨R, 1, none⟩ = some (.int .i64 s.p) := c1;go_wp2_with fail
           refine kQ.out.mono ?_;rintro e w8 ⟨rfl, hS8, ho8⟩;have hI8 := Lib.hid (show InsAt w8 w.heap.size (.slice la l.length lc) l from ownsRow_only hI.out ho8 (fun g hg e => by have := (hI.out.own hg); omega));have ho9 := Lib.hid (ho.out.then ho8);replace hS8 := Lib.hid hS8;clear kQ ho8;go_wp2_with fail
           go_ret
           exact ⟨_, l, _, rfl, hI8.out, hS8.out, ho9.out, hE.out.1, hE.out.2⟩
         · have hpi : ¬ (s.p : Int) < (L : Int) := by omega
           have hEs : endS L s = s := by unfold endS; rw [if_neg hp]
           go_wp2_with fail
           go_region
           go_wp2_with fail
           go_ret
           refine ⟨_, l, s, rfl, ownsRow_only hI.out ((Only.refl (fun _ => False) wr).drew) (fun _ _ h => h), RM.below hS.out (Below.refl _ wr).drew, ho.out.drew, ?_, ?_⟩
           · have := hE.out.1; rw [hEs] at this; exact this
           · have := hE.out.2; rw [hEs] at this; exact this
     · have q1 : decide ((l.length : Int) < (n : Int)) = false := decide_eq_false (by omega)
       have q2 : decide (l.length < n) = false := decide_eq_false hlt2;have qi : ¬ (l.length : Int) < (n : Int) := by omega
       have hE := Lib.hid (goes_end hG.out (.inr hlt2));clear hG;have hpl : s.p ≤ L := hS.out.le;by_cases hp : s.p < L
       · have hpi : (s.p : Int) < (L : Int) := by omega
         have hEs : endS L s = refS s s.p 3 := by unfold endS; rw [if_pos hp]
         have kQ := refuse_any (RM.below hS.out (Below.refl _ wr).drew) (q := s.p) (c := 3) hpl;have kQ := Lib.hid (kQ.mono fun e w' h => show e = .returned (.tuple #[]) ∧ RS w' R a L cap f (endS L s) ∧ Only (fun k => k = R) wr w' from by rw [hEs]; exact ⟨h.1, h.2.1, Only.drew0 h.2.2⟩);clear hEs;go_wp2_with fail
         go_region
         have c1' : wr.drew.cell? ⟨R, 1, none⟩ = some (.int .i64 s.p) := c1;go_wp2_with fail
         refine kQ.out.mono ?_;rintro e w8 ⟨rfl, hS8, ho8⟩;have hI8 := Lib.hid (show InsAt w8 w.heap.size (.slice la l.length lc) l from ownsRow_only hI.out ho8 (fun g hg e => by have := (hI.out.own hg); omega));have ho9 := Lib.hid (ho.out.then ho8);replace hS8 := Lib.hid hS8;clear kQ ho8;go_wp2_with fail
         go_ret
         exact ⟨_, l, _, rfl, hI8.out, hS8.out, ho9.out, hE.out.1, hE.out.2⟩
       · have hpi : ¬ (s.p : Int) < (L : Int) := by omega
         have hEs : endS L s = s := by unfold endS; rw [if_neg hp]
         go_wp2_with fail
         go_region
         go_wp2_with fail
         go_ret
         refine ⟨_, l, s, rfl, ownsRow_only hI.out ((Only.refl (fun _ => False) wr).drew) (fun _ _ h => h), RM.below hS.out (Below.refl _ wr).drew, ho.out.drew, ?_, ?_⟩
         · have := hE.out.1; rw [hEs] at this; exact this
         · have := hE.out.2; rw [hEs] at this; exact this
end
end Go.Proofs.YtfajfflbplnagaaDoor
