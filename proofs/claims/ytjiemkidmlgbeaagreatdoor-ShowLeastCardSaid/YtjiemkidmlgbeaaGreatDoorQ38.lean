/- A part of the proof: SlL. No condition. -/
import Derived.Test.YtjiemkidmlgbeaaGreatDoorQ34
import Derived.Test.YtjiemkidmlgbeaaGreatDoorQ36
import Derived.Test.YtjiemkidmlgbeaaGreatDoorQ37
set_option linter.unusedVariables false
set_option linter.unusedSimpArgs false
namespace Go.Proofs.YtjiemkidmlgbeaaGreatDoor
open Go.RowKit Go.Shelf Tok
theorem less_of {ts : List Tw} {L : List Tg} (h : ShowIs ts L 0) (hf : ∀ x ∈ ts, FitT x) {x : Tw} {r : List Tw} (hx : ts = x :: r) {P A B : List Tg} {t c : Tg} (hL : L = P ++ t :: (A ++ c :: B)) (ho : isO t = true) :
   ToldL (P ++ A ++ B) ∧ ((joinL (P ++ A ++ B)).length ≤ 16384 → (readR (joinL (P ++ A ++ B)) (ruleN x.op)).2.2 = 0 → (readR (joinL (P ++ A ++ B)) (ruleN x.op)).1 ≠ ts) := by
 rw [List.append_assoc];have h1 := less_told hL (show_told10 h hf);exact ⟨h1, fun hl hz => less_unread h hx h1 (less_oc hL ho) hl hz⟩
theorem bal_of {ts : List Tw} {L : List Tg} (h : ShowIs ts L 0) : Bal L := by
 rcases h with ⟨hc, _, hE⟩ | ⟨_, _, _, _, _, _, _, hE⟩ | ⟨_, x', k, _, hok, _, _, rfl, _⟩
 · exact absurd hE.symm (by simpa using hc)
 · exact absurd hE (by decide)
 · exact show_bal hok
theorem tgIn_zero {w : World} {ad : Option Addr} {n c : Nat} (hn : n = 0) (h : c ≤ 9223372036854775807) : TgIn w (.slice ad n c) [] := by
 subst hn;exact tgIn_none h
theorem close_at {L : List Tg} (hb : Bal L) {i : Nat} (hi : i < L.length) (ho : isO L[i] = true) : ∃ P t A c D j, L = P ++ t :: (A ++ c :: D) ∧ P.length = i ∧ isO t = true ∧ closesN L i = j ∧ j = i + 1 + A.length ∧ L.length = j + 1 + D.length := by
 obtain ⟨A, c, D, hLe, hcl⟩ := close_of hb hi ho;have hPl : (L.take i).length = i := by rw [List.length_take]; omega
 refine ⟨_, _, A, c, D, _, hLe, hPl, ho, hcl, rfl, ?_⟩;have := congrArg List.length hLe;simp only [List.length_append, List.length_cons, hPl] at this;omega
theorem spell_told {L : List Tg} (h : ToldL L) : (spellR L = ([], 2)) ∨ (spellR L = (joinL L, 0) ∧ (joinL L).length ≤ 16384) := by
 have ht : L.all told = true := List.all_eq_true.2 (fun t hm => (h t hm).1);unfold spellR;rw [if_pos ht];by_cases hl : 16384 < (joinL L).length
 · rw [if_pos hl]; exact .inl rfl
 · rw [if_neg hl]; exact .inr ⟨rfl, by omega⟩
set_option maxRecDepth 20000 in
set_option maxHeartbeats 4000000 in
theorem showLeast_good {v : Value} {ts : List Tw} {w : World} (hT : TwIn w v ts) (hf : ∀ x ∈ ts, FitT x) (hn : ¬ 150 < ts.length) (hM : MarksOK w) (hS : SignsOK w) (hP : PowOK w.heap.size w) (hWk : Hid (WakP w)) (hE : ErrR w) (hK : MakesOK w) {L : List Tg} (hI : ShowIs ts L 0) {x : Tw} {r : List Tw} (hx : ts = x :: r) :
   Calls Tryz.prog 4 #[v] w fun e w' => e = .returned (.bool true) ∧ Below w.heap.size w w' := by
 have kT := Lib.hid (Tokens_is hT hf hM hI);have hLen := show_len hI;have hBal := Lib.hid (bal_of hI);have hLess := Lib.hid (fun (P A B : List Tg) (t c : Tg) (h : L = P ++ t :: (A ++ c :: B)) (ho : isO t = true) => less_of hI hf hx h ho);have kS := Lib.hid (fun (W : World) (u : Value) (l : List Tg) (hb : Below w.heap.size w W) (hu : TgIn W u l) (hl : ToldL l) => Spell_any hu (fun t ht => told_fit (hl t ht)) (hS.below hb) (hP.next10 hb));obtain ⟨B, hB⟩ : ∃ B : Bool, ((x.op : Int) == 1) = B := ⟨_, rfl⟩;have hq : ruleN x.op = if B = true then .flow else .expr := by
   rw [← hB];unfold ruleN;by_cases h1 : x.op = 1
   · rw [if_pos h1, if_pos (by rw [h1]; rfl)]
   · rw [if_neg h1, if_neg (by simp; omega)]
 have kR := Lib.hid (fun (W : World) (l : List UInt8) (hb : Below w.heap.size w W) (hl : l.length ≤ 16384) => read10_any (l := l) (b := B) (q := ruleN x.op) (by omega) hq W (hE.below hb) (hS.below hb) (hK.below hK.lt hb));have kL := Lib.hid (fun (W : World) (u : Value) (us : List Tw) (hb : Below w.heap.size w W) (hu : TwIn W u us) (hne : ts ≠ us) => alike_no (hT.below hb) hu hne);generalize ruleN x.op = q at *;obtain ⟨op, kids, num, text⟩ := x;dsimp only at hB;subst hx;obtain ⟨a, cap, rfl, hlc, hcm, h3⟩ := hT;obtain ⟨g, off, rfl, hg, hcell⟩ := h3 (by simp);have y0 := hcell 0 (by simp) 0 (by decide);simp only [List.getElem_cons_zero, twC, List.getElem?_cons_zero, Nat.zero_mul, Nat.add_zero] at y0;have hpos : (0 : Int) < (((⟨op, kids, num, text⟩ : Tw) :: r).length : Int) := by rw [List.length_cons]; omega
 clear h3 hcell;have hni : ¬ (150 : Int) < (((⟨op, kids, num, text⟩ : Tw) :: r).length : Int) := by omega
 obtain ⟨n, hln⟩ : ∃ n, ((⟨op, kids, num, text⟩ : Tw) :: r).length = n := ⟨_, rfl⟩;rw [hln] at kT kL hn hpos hni ⊢;replace hln := Lib.hid hln;replace hq := Lib.hid hq;clear hf hlc hM hS hP hI hE hK;go_enter Tryz.func4, Tryz.ntmps4
 go_wp2_with fail
 with_reducible refine kT.out.mono ?_
 rintro e w1 ⟨v1, rfl, hT1, hb1⟩;obtain ⟨a1, cap1, rfl, hlc1, hcm1⟩ := id hT1.shape;have hG := Lib.hid hT1.tgIn;have hAd : Hid (0 < L.length → ∃ g1 o1, a1 = some ⟨g1, o1, none⟩) := Lib.hid (by
   obtain ⟨a', c', e, _, _, h3⟩ := hT1.tgIn;cases e
   intro h0;obtain ⟨g1, o1, e, _⟩ := h3 h0;exact ⟨g1, o1, e⟩)
 have kA := Lib.hid (fun (W : World) (hb : Below w1.heap.size w1 W) (i : Nat) (hi : i < L.length) => around_any (hG.out.below hb) hi hLen);have kC := Lib.hid (fun (W : World) (hb : Below w1.heap.size w1 W) (i : Nat) (hi : i ≤ L.length) => closes_any (hG.out.below hb) hi hLen);replace hb1 := Lib.hid hb1;clear kT hT1;go_wp2
 go_loopw [5] (fun t5 wr => ∃ i : Nat, i ≤ L.length ∧ t5 = .int .i64 i ∧ Hid (Below w1.heap.size w1 wr)) (fun t5 _ => L.length - (intOf t5).toNat)
 case atStart => exact ⟨0, by omega, rfl, Lib.hid (Below.refl _ _)⟩
 case round =>
   obtain ⟨i, hi, rfl, hbr⟩ := hrel;have hb2 := Lib.hid (below_next hb1.out hbr.out);rcases Nat.lt_or_ge i L.length with hlt | hge
   · have hlti : (i : Int) < (L.length : Int) := by omega
     have ka := Lib.hid (kA.out wr hbr.out i hlt);go_wp2_with fail
     with_reducible refine ka.out.mono ?_
     rintro e w2 ⟨b, rfl, hbO, rfl⟩;clear ka;cases b with
     | false =>
       clear hbO;go_wp2
       go_roundw
       case rel => exact ⟨i + 1, by omega, by go_num, hbr⟩
       case measure => simp [intOf]; omega
     | true =>
       have hO := hbO rfl;obtain ⟨P, t, A, c, D, j, hLe, hPl, hot, hcl, hj, hLl⟩ := close_at hBal.out hlt hO;have kc := kC.out w2 hbr.out i hi;rw [hcl] at kc;have hls := Lib.hid (hLess.out _ _ _ _ _ hLe hot);obtain ⟨g1, o1, rfl⟩ := hAd.out (by omega);have hp1 := Lib.hid (fun (W : World) (hb : Below w1.heap.size w1 W) => tgIn_part (X := []) (Y := P) (o := o1) (m := i) (c := cap1) (hG.out.below hb) hLe (by simp) hPl.symm (by omega) hcm1);have hp2 := Lib.hid (fun (W : World) (hb : Below w1.heap.size w1 W) => tgIn_part (X := P ++ [t]) (Y := A) (Z := c :: D) (o := o1 + (i + 1) * 4) (m := j - (i + 1)) (c := cap1 - (i + 1)) (hG.out.below hb) (by rw [hLe]; simp) (by rw [List.length_append, hPl]; rfl) (by omega) (by omega) (by omega));have hp3 := Lib.hid (fun (W : World) (hb : Below w1.heap.size w1 W) => tgIn_part (X := P ++ t :: (A ++ [c])) (Y := D) (Z := []) (o := o1 + (j + 1) * 4) (m := L.length - (j + 1)) (c := cap1 - (j + 1)) (hG.out.below hb) (by rw [hLe]; simp) (by simp [hPl]; omega) (by omega) (by omega) (by omega));have hPn : P.length ≤ 1000000 := by omega
       have hAn : A.length ≤ 1000000 := by omega
       have hDn : D.length ≤ 1000000 := by omega
       have q1 : ((j : Int) == (L.length : Int)) = false := beq_eq_false_iff_ne.2 (by omega);have hji : i + 1 ≤ j := by omega
       have hjn : j + 1 ≤ L.length := by omega
       replace kc := Lib.hid kc;replace hLe := Lib.hid hLe;replace hj := Lib.hid hj;replace hLl := Lib.hid hLl;replace hPl := Lib.hid hPl;clear hcl hbO;go_wp2_with fail
       with_reducible refine kc.out.mono ?_
       rintro e w3 ⟨rfl, hb3⟩;have hb4 := Lib.hid (below_next hbr.out hb3);clear kc hb3;have hDj : Hid (D.length = L.length - (j + 1)) := Lib.hid (by have := hLl.out; omega);have hcases : (j + 1 = cap1 ∧ L.length = j + 1) ∨ j + 1 < cap1 := by omega
       rcases hcases with ⟨hc1, hc2⟩ | hc1
       · obtain rfl : D = [] := List.eq_nil_of_length_eq_zero (by have := hLl.out; omega)
         replace hc2 := Lib.hid hc2;go_wp2_with (first | (at_builtin; (refine wpList_append_tgi rfl _ _ rfl rfl (TgsAt.nil10 w3 w3.heap.size) rfl (hp1.out w3 hb4.out) (by simp) (by omega) (Nat.le_refl _) ?_; intro v4 w4 hU1 hB1; have hb5 := Lib.hid (below_next hb4.out hB1); have hz1 := hB1.size; obtain ⟨a4, c4, rfl, _, _⟩ := id hU1.shape; replace hU1 := Lib.hid hU1; clear hB1)) | (at_builtin; (refine wpList_append_tgi rfl _ _ rfl rfl hU1.out rfl (hp2.out w4 hb5.out) (by simp; omega) (by omega) hz1 ?_; intro v5 w5 hU2 hB2; have hb6 := Lib.hid (hb5.out.trans (hB2.mono hb4.out.size)); have hz2 := Nat.le_trans hz1 hB2.size; obtain ⟨a5, c5, hv5, _, _⟩ := id hU2.shape; obtain ⟨m5, hm5⟩ := exHid ([] ++ P ++ A).length; rw [hm5.out] at hv5; subst hv5; replace hU2 := Lib.hid hU2; clear hB2)) | (at_builtin; (refine wpList_append_tgi rfl _ _ rfl rfl hU2.out rfl (tgIn_zero (by have := hc2.out; omega) (by omega)) (by simp; omega) (by first | omega | simp) hz2 ?_; intro v6 w6 hU3 hB3; have hb7 := Lib.hid (hb6.out.trans (hB3.mono hb4.out.size)); obtain ⟨a6, c6, hv6, _, _⟩ := id hU3.shape; obtain ⟨m6, hm6⟩ := exHid ([] ++ P ++ A ++ []).length; rw [hm6.out] at hv6; subst hv6; replace hU3 := Lib.hid hU3; clear hB3)))
         have hs6 := hls.out.1;have ks := kS.out w6 _ (P ++ A ++ []) (below_next hb1.out hb7.out) hU3.out.tgIn hs6;rcases spell_told hs6 with hs | ⟨hs, hl⟩
         · rw [hs] at ks
           unfold spellV at ks;dsimp only at ks;replace ks := Lib.hid ks;clear hU3 hs hls hs6 hp1 hp2 hp3
           with_reducible refine ks.out.mono ?_
           rintro e w7 ⟨rfl, hb8⟩;have hb9 := Lib.hid (below_next hb1.out (below_next hb7.out hb8));clear ks hb8;go_wp2_with fail
           with_reducible refine (hWk.out _ hb9.out).mono ?_
           rintro e w8 ⟨rfl, hb10⟩;go_wp2_with fail
           go_ret
           exact ⟨rfl, below_next hb9.out hb10⟩
         · rw [hs] at ks
           unfold spellV at ks;dsimp only at ks;have kr := fun (W : World) (hb : Below w.heap.size w W) => kR.out W _ hb hl
           have hno := hls.out.2 hl;generalize joinL (P ++ A ++ []) = S at *;generalize readR S q = R at kr hno;obtain ⟨us, at_, cd⟩ := R;dsimp only at kr hno;replace ks := Lib.hid ks;replace kr := Lib.hid kr;replace hno := Lib.hid hno;clear hU3 hs hls hs6 hp1 hp2 hp3 hl
           with_reducible refine ks.out.mono ?_
           rintro e w7 ⟨rfl, hb8⟩;have hb9 := Lib.hid (below_next hb7.out hb8);have hb10 := Lib.hid (below_next hb1.out hb9.out);have z0 := (hb10.out.cell (p := ⟨g, off, none⟩) hg).trans y0;have hg7 : g < w7.heap.size := Nat.lt_of_lt_of_le hg hb10.out.size;have k3 := Lib.hid (kr.out w7 hb10.out);clear ks hb8 kr;go_wp2_with fail
           with_reducible refine k3.out.mono ?_
           rintro e w8 ⟨u, rfl, hu, hb11⟩;have hb12 := Lib.hid (below_next hb9.out hb11);by_cases hcd : cd = 0
           · subst hcd
             have k4 := Lib.hid (kL.out w8 u us (below_next hb1.out hb12.out) hu.twIn (fun e => hno.out rfl e.symm));clear hu hb11 k3 hno z0;go_wp2_with fail
             with_reducible refine k4.out.mono ?_
             rintro e w9 ⟨rfl, hb13⟩;have hb14 := Lib.hid (below_next hb12.out hb13);clear hb13 k4;go_wp2
             go_roundw
             case rel => exact ⟨i + 1, by omega, by go_num, hb14⟩
             case measure => simp [intOf]; omega
           · have qz : (cd == 0) = false := beq_eq_false_iff_ne.2 hcd
             clear hu hb11 k3 hno z0;go_wp2
             go_roundw
             case rel => exact ⟨i + 1, by omega, by go_num, hb12⟩
             case measure => simp [intOf]; omega
       · go_wp2_with (first | (at_builtin; (refine wpList_append_tgi rfl _ _ rfl rfl (TgsAt.nil10 w3 w3.heap.size) rfl (hp1.out w3 hb4.out) (by simp) (by omega) (Nat.le_refl _) ?_; intro v4 w4 hU1 hB1; have hb5 := Lib.hid (below_next hb4.out hB1); have hz1 := hB1.size; obtain ⟨a4, c4, rfl, _, _⟩ := id hU1.shape; replace hU1 := Lib.hid hU1; clear hB1)) | (at_builtin; (refine wpList_append_tgi rfl _ _ rfl rfl hU1.out rfl (hp2.out w4 hb5.out) (by simp; omega) (by omega) hz1 ?_; intro v5 w5 hU2 hB2; have hb6 := Lib.hid (hb5.out.trans (hB2.mono hb4.out.size)); have hz2 := Nat.le_trans hz1 hB2.size; obtain ⟨a5, c5, hv5, _, _⟩ := id hU2.shape; obtain ⟨m5, hm5⟩ := exHid ([] ++ P ++ A).length; rw [hm5.out] at hv5; subst hv5; replace hU2 := Lib.hid hU2; clear hB2)) | (at_builtin; (refine wpList_append_tgi rfl _ _ rfl rfl hU2.out rfl (hp3.out w5 hb6.out) (by simp; omega) (by first | omega | simp) hz2 ?_; intro v6 w6 hU3 hB3; have hb7 := Lib.hid (hb6.out.trans (hB3.mono hb4.out.size)); obtain ⟨a6, c6, hv6, _, _⟩ := id hU3.shape; obtain ⟨m6, hm6⟩ := exHid ([] ++ P ++ A ++ D).length; rw [hm6.out] at hv6; subst hv6; replace hU3 := Lib.hid hU3; clear hB3)))
         have hs6 := hls.out.1;have ks := kS.out w6 _ (P ++ A ++ D) (below_next hb1.out hb7.out) hU3.out.tgIn hs6;rcases spell_told hs6 with hs | ⟨hs, hl⟩
         · rw [hs] at ks
           unfold spellV at ks;dsimp only at ks;replace ks := Lib.hid ks;clear hU3 hs hls hs6 hp1 hp2 hp3
           with_reducible refine ks.out.mono ?_
           rintro e w7 ⟨rfl, hb8⟩;have hb9 := Lib.hid (below_next hb1.out (below_next hb7.out hb8));clear ks hb8;go_wp2_with fail
           with_reducible refine (hWk.out _ hb9.out).mono ?_
           rintro e w8 ⟨rfl, hb10⟩;go_wp2_with fail
           go_ret
           exact ⟨rfl, below_next hb9.out hb10⟩
         · rw [hs] at ks
           unfold spellV at ks;dsimp only at ks;have kr := fun (W : World) (hb : Below w.heap.size w W) => kR.out W _ hb hl
           have hno := hls.out.2 hl;generalize joinL (P ++ A ++ D) = S at *;generalize readR S q = R at kr hno;obtain ⟨us, at_, cd⟩ := R;dsimp only at kr hno;replace ks := Lib.hid ks;replace kr := Lib.hid kr;replace hno := Lib.hid hno;clear hU3 hs hls hs6 hp1 hp2 hp3 hl
           with_reducible refine ks.out.mono ?_
           rintro e w7 ⟨rfl, hb8⟩;have hb9 := Lib.hid (below_next hb7.out hb8);have hb10 := Lib.hid (below_next hb1.out hb9.out);have z0 := (hb10.out.cell (p := ⟨g, off, none⟩) hg).trans y0;have hg7 : g < w7.heap.size := Nat.lt_of_lt_of_le hg hb10.out.size;have k3 := Lib.hid (kr.out w7 hb10.out);clear ks hb8 kr;go_wp2_with fail
           with_reducible refine k3.out.mono ?_
           rintro e w8 ⟨u, rfl, hu, hb11⟩;have hb12 := Lib.hid (below_next hb9.out hb11);by_cases hcd : cd = 0
           · subst hcd
             have k4 := Lib.hid (kL.out w8 u us (below_next hb1.out hb12.out) hu.twIn (fun e => hno.out rfl e.symm));clear hu hb11 k3 hno z0;go_wp2_with fail
             with_reducible refine k4.out.mono ?_
             rintro e w9 ⟨rfl, hb13⟩;have hb14 := Lib.hid (below_next hb12.out hb13);clear hb13 k4;go_wp2
             go_roundw
             case rel => exact ⟨i + 1, by omega, by go_num, hb14⟩
             case measure => simp [intOf]; omega
           · have qz : (cd == 0) = false := beq_eq_false_iff_ne.2 hcd
             clear hu hb11 k3 hno z0;go_wp2
             go_roundw
             case rel => exact ⟨i + 1, by omega, by go_num, hb12⟩
             case measure => simp [intOf]; omega
   · obtain rfl : i = L.length := by omega
     have hlti : ¬ ((L.length : Int) < (L.length : Int)) := by omega
     go_wp2_with fail
     with_reducible refine (hWk.out _ hb2.out).mono ?_
     rintro e w8 ⟨rfl, hb10⟩;go_wp2_with fail
     go_ret
     exact ⟨rfl, below_next hb2.out hb10⟩
set_option maxRecDepth 20000 in
set_option maxHeartbeats 2000000 in
theorem showLeast_bad {v : Value} {ts : List Tw} {w : World} (hT : TwIn w v ts) (hf : ∀ x ∈ ts, FitT x) (hn : ¬ 150 < ts.length) (hM : MarksOK w) (hWk : Hid (WakP w)) {E : Int} (hI : ShowIs ts [] E) (h0 : E ≠ 0) :
   Calls Tryz.prog 4 #[v] w fun e w' => e = .returned (.bool true) ∧ Below w.heap.size w w' := by
 have kT := Lib.hid (Tokens_is hT hf hM hI);have hni : ¬ (150 : Int) < (ts.length : Int) := by omega
 have q0 : (E != 0) = true := bne_iff_ne.2 h0;obtain ⟨a, cap, rfl, hz⟩ := hT;clear hz hf hM hn hI h0;generalize ts.length = n at *;go_enter Tryz.func4, Tryz.ntmps4
 go_wp2_with fail
 with_reducible refine kT.out.mono ?_
 rintro e w1 ⟨v1, rfl, hT1, hb1⟩;obtain ⟨a1, cap1, rfl, hlc1, hcm1⟩ := id hT1.shape;replace hb1 := Lib.hid hb1;clear kT hT1;go_wp2_with fail
 with_reducible refine (hWk.out _ hb1.out).mono ?_
 rintro e w8 ⟨rfl, hb10⟩;go_wp2_with fail
 go_ret
 exact ⟨rfl, below_next hb1.out hb10⟩
set_option maxRecDepth 20000 in
set_option maxHeartbeats 2000000 in
theorem showLeast_walk (v : Value) (w : World) (h : TwsIn w v) (hE : ErrR w) (hS : SignsOK w) (hK : MakesOK w) (hM : MarksOK w) (hP : PowOK w.heap.size w) :
   Calls Tryz.prog 4 #[v] w fun e w' => e = .returned (.bool true) ∧ Below w.heap.size w w' := by
 obtain ⟨ts, hT, hf, _⟩ := h;have hWk : Hid (WakP w) := Lib.hid (fun W hb => wakes10_any W (hM.below hM.lt hb) (hS.below hb) (hP.next10 hb));by_cases hn : 150 < ts.length
 · have hni : (150 : Int) < (ts.length : Int) := by omega
   obtain ⟨a, cap, rfl, _⟩ := hT;go_enter Tryz.func4, Tryz.ntmps4
   go_wp2_with fail
   refine (hWk.out _ (Below.refl _ _)).mono ?_;rintro e w2 ⟨rfl, hb⟩;go_wp2_with fail
   go_ret
   exact ⟨rfl, hb⟩
 · obtain ⟨L, E, hI⟩ := show_is ts
   rcases id hI with ⟨hc, rfl, rfl⟩ | ⟨hc, x, r, hx, h1, h2, rfl, rfl⟩ | ⟨hc, x, k, hx, hok, _, hx1, hL, rfl⟩
   · exact showLeast_bad hT hf hn hM hWk hI (by simpa using hc)
   · exact showLeast_bad hT hf hn hM hWk hI (by decide)
   · exact showLeast_good hT hf hn hM hS hP hWk hE hK hI hx
end Go.Proofs.YtjiemkidmlgbeaaGreatDoor
