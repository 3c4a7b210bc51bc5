/- A part of the proof: IFit2. No condition. -/
import Derived.Test.YtcabolfookofoaaGreatDoorQ39
set_option linter.unusedVariables false
set_option linter.unusedSimpArgs false
namespace Go.Proofs.YtcabolfookofoaaGreatDoor
open Go.RowKit HI
def FitPost (code : List Ins) (e : Ending) (w w' : World) : Prop :=
 Below w.heap.size w w' ∧ ((fitsI code).2 = none → ∃ g, e = .returned (.tuple #[.slice (some ⟨g, 0, none⟩) code.length code.length, .int .i64 0, .bool true]) ∧ w.heap.size ≤ g ∧ DepAt w' g (fitsI code).1) ∧
   ∀ q, (fitsI code).2 = some q → e = .returned (.tuple #[.slice none 0 0, .int .i64 q, .bool false])
theorem alloc_gt {w2 : World} {c : Array Value} {t : TypeId} : (w2.alloc (.cells c t)).heap[w2.heap.size]? = some (.cells c t (0, 0)) := heap_alloc_new w2 _
theorem tm_new {w w1 w2 : World} {g b n : Nat} {cv : Value} (hk1 : Below w.heap.size w w1) (hg1 : w.heap.size < g) (hD : DepAt w1 g (List.replicate n (-1))) (hb2 : Below w1.heap.size w1 w2) (hH : Hp (fun k => w1.heap.size ≤ k ∧ k < w2.heap.size) w2 b [] 0) :
   TM w.heap.size (w2.alloc (.cells #[cv, .slice (some ⟨g, 0, none⟩) n n, .pointer (some ⟨b, 0, none⟩)] 99)) w2.heap.size g b cv (List.replicate n (-1)) [] 0 := by
 have h1 := hD.lt;have h2 := hb2.size;have h3 := hk1.size;have hb3 : Below w2.heap.size w2 (w2.alloc (.cells #[cv, .slice (some ⟨g, 0, none⟩) n n, .pointer (some ⟨b, 0, none⟩)] 99)) := by go_grown
 refine ⟨?_, (hD.below hb2).below hb3, (hH.mono (fun k hk => ?_)).below hb3, by omega, by omega, by omega⟩
 · rw [List.length_replicate]; exact alloc_gt
 · exact ⟨by omega, by omega, by omega⟩
theorem metR0 (n : Nat) : MetR [] (List.replicate n (-1)) (fun _ => false) := by
 refine ⟨fun x hx => (by cases hx), fun q _ hq _ => ?_, List.Pairwise.nil, fun q hq => (by cases hq)⟩;exact absurd (by rw [List.getD_eq_getElem?_getD, List.getElem?_replicate]; split <;> rfl) hq
theorem replicate_get (n r : Nat) : (List.replicate n (-1 : Int)).getD r (-1) = -1 := by rw [List.getD_eq_getElem?_getD, List.getElem?_replicate]; split <;> rfl
theorem meet0 {n : Nat} (hn : 0 < n) : meetI (List.replicate n (-1)) (0 : Int).toNat 0 = some (depth0 n) := by
 unfold meetI;rw [if_neg (by rw [List.length_replicate]; show ¬ n ≤ 0; omega), if_pos (replicate_get _ _)];rfl
theorem depth0_dp {n : Nat} (hn : 0 < n) : DpI (depth0 n) 0 := fun r => by
 rw [depth0_get _ _ hn];split <;> simp
theorem metR_nil {L : List T} {d : List Int} {gn : Nat → Bool} (h : MetR L d gn) (hl : leastI d gn = none) : L = [] := by
 cases L with
 | nil => rfl
 | cons x r =>
   obtain ⟨q, _, e2, e3, e4, _⟩ := h.all x List.mem_cons_self;rcases leastI_none.1 hl q e2 with e | e
   · exact absurd e e3
   · rw [e] at e4; cases e4
set_option maxRecDepth 20000 in
set_option maxHeartbeats 1000000 in
theorem fit_any {code : List Ins} {v : Value} {w : World} (h : InsIn w v code) (h0 : 0 < code.length) (hn : code.length ≤ 8192) (hR : AllRt code) :
   Calls Tryz.prog 40 #[v] w fun e w' => FitPost code e w w' := by
 obtain ⟨ad, cap, hv, hlc, hcm, hbig⟩ := id h;clear hbig;subst hv;obtain ⟨n, hN⟩ := exHid code.length;have hI : Hid (InsIn w (.slice ad n cap) code) := Lib.hid (by rw [← hN.out]; exact h);rw [hN.out];clear h;have hn1 : n ≤ 8192 := by rw [← hN.out]; exact hn
 have hn0 : 0 < n := by rw [← hN.out]; exact h0
 have rep := fun (W : World) (gx : Nat) (hx : W.cell? ⟨gx, 0, none⟩ = some (.int .i64 (-1))) => repeat_any (-1) n hn0 hn1 W hx
 replace hR := Lib.hid hR;clear hn h0 hlc hcm;go_enter Tryz.func40, Tryz.ntmps40
 go_wp2_with first
   | (go_at_call 66; refine (rep _ _ (World.cell?_alloc_new ..)).mono ?_; rintro e w1 ⟨g, rfl, hg1, hD1, hb1⟩; have hk1 : Below w.heap.size w w1 := below_next (by go_grown) hb1; replace hD1 := Lib.hid hD1; replace hb1 := Lib.hid hb1)
   | (go_at_call 67; refine (hp_new _).mono ?_; rintro e w2 ⟨b, rfl, hH2, hb2⟩; have hk2 : Below w.heap.size w w2 := below_next hk1 hb2; have hH3 := Lib.hid (Hp_bound hH2); clear hH2; replace hb2 := Lib.hid hb2)
   | (go_at_call 68
      have hgg : w.heap.size < g := by simp at hg1; omega
      have T0 := tm_new (cv := .slice ad n cap) hk1 hgg hD1.out hb2.out hH3.out;refine (meet_int T0 (metR0 n) ⟨ad, cap, by rw [List.length_replicate]⟩ (by omega) (q := 0) (v := 0) (Int.le_refl _) (by omega) (Int.le_refl _) (fun r => .inl (replicate_get n r)) (by rw [List.length_replicate]; exact hn1)).mono ?_;rintro e w3 ⟨rfl, ho3, hn3⟩;have hk3 : Below w.heap.size w w3 := (hk2.alloc hk2.size _).trans (ho3.below (by have := hk2.size; simp; omega) (fun k hk e => by omega));replace hn3 := Lib.hid (hn3 _ (meet0 hn0));clear T0 ho3)
 go_loopw [6, 7, 8, 9] (fun t6 t7 t8 t9 wr => Hid (∃ f, FitInv code w.heap.size w2.heap.size g b (.slice ad n cap) f wr) ∧ Below w.heap.size w wr) (fun _ _ _ _ wr => Classical.epsilon (fun f => FitInv code w.heap.size w2.heap.size g b (.slice ad n cap) f wr ∧ ∀ m, FitInv code w.heap.size w2.heap.size g b (.slice ad n cap) m wr → f ≤ m))
 case atStart =>
   obtain ⟨L', p', a1, a2, a3⟩ := hn3.out;refine ⟨Lib.hid ⟨n + 1, depth0 n, L', p', fun _ => false, a1, a2, ?_, ?_, ?_, ?_, ?_, ?_⟩, hk3⟩
   · unfold fitsI; rw [hN.out]
   · rw [hN.out, cntI_none]; omega
   · rw [hN.out]; omega
   · rw [hN.out, Nat.sub_self]; exact depth0_dp hn0
   · rw [hN.out]; omega
   · rw [hN.out, depth0_len]
 case round =>
   obtain ⟨hrel, hbw⟩ := hrel;obtain ⟨f, hfe, hf, hfl⟩ : ∃ f, Hid (Classical.epsilon (fun f => FitInv code w.heap.size w2.heap.size g b (.slice ad n cap) f wr ∧ ∀ m, FitInv code w.heap.size w2.heap.size g b (.slice ad n cap) m wr → f ≤ m) = f) ∧ FitInv code w.heap.size w2.heap.size g b (.slice ad n cap) f wr ∧ True := ⟨_, Lib.hid rfl, (least_of hrel.out).1, trivial⟩;obtain ⟨d, L, p, gn, hT, hM, hfit, hcnt, hfn, hdp, hp, hdl⟩ := hf;have hc2 := hT.c2;have hc1 := hT.c1;rw [hdl, hN.out] at hc1;rw [hN.out] at hcnt hfn hdp hp;have hf1 : f = (f - 1) + 1 := by omega
   have hfit' := hfit;rw [hf1] at hfit';unfold fitI at hfit';have hbw' := Lib.hid hbw;cases hl : leastI d gn with
   | none =>
     rw [hl] at hfit';dsimp only at hfit';obtain rfl := metR_nil hM hl;have P := fun (_ : True) => hp_pop_none hT.hp
     replace hT := Lib.hid hT;replace hM := Lib.hid hM;replace hfit' := Lib.hid hfit';replace hdl := Lib.hid hdl;clear hfit hcnt hfn hdp hp hf1 hfe hrel;go_wp2_with (go_at_call 69; refine (P trivial).mono ?_; rintro e w4 ⟨rfl, rfl⟩)
     refine bodyPost_ret (results_tmp3 rfl _ _ _) rfl ?_;refine ⟨hbw, fun _ => ⟨g, by rw [hN.out]; rfl, by omega, by rw [← hfit'.out]; exact hT.out.dep⟩, fun q hq => ?_⟩;rw [← hfit'.out] at hq;cases hq
   | some q =>
     rw [hl] at hfit';dsimp only at hfit';obtain ⟨l1, l2, l3, l4⟩ := leastI_some.1 hl;have hL0 : 0 < L.length := by
       obtain ⟨x, hx, _⟩ := hM.has q l1 l2 l3;exact List.length_pos_of_mem hx
     have P := fun (_ : True) => hp_pop_some hT.hp hL0
     have F : ∀ (x : T) (L' : List T), IsFirst x L → (x :: L').Perm L → x.key = (q : Int) ∧ x.v = d.getD q (-1) ∧ MetR L' d (goneI gn q) := by
       intro x L' hF hP;obtain ⟨q', a1, a2, a3, a4⟩ := metR_first hM hF hP;rw [hl] at a3;obtain rfl := Option.some.inj a3;exact ⟨a1, a2, a4⟩
     have hN2 := hN.out;have hRR := hR.out;have TH := fun (w4 : World) (hb4 : Below w.heap.size w w4) (L4 : List T) (hT4 : TM w.heap.size w4 w2.heap.size g b (.slice ad n cap) d L4 p) (hM4 : MetR L4 d (goneI gn q)) =>
       through_any (B := w.heap.size) (code := code) (p0 := q) ⟨hT4, hM4, hI.out.below hb4, hdl.symm, (by rw [hdl, hN2]; exact hn1), (by omega), l1, ⟨(by have := (hdp q).1; omega), (by have := (hdp q).2; omega)⟩, fun r => (hdp r).1, hRR.takes q, fun hk => by rw [hdl]; exact hRR.goal (by omega) hk⟩
     replace TH := Lib.hid TH;replace hR := Lib.hid hRR;obtain ⟨dq, hdq⟩ : ∃ x, d.getD q (-1) = x := ⟨_, rfl⟩;rw [hdq] at TH F;have hq64 : (q : Int) ≤ 8192 := by omega
     have hT' := Lib.hid hT;replace hM := Lib.hid hM;replace hcnt := Lib.hid hcnt;replace hfn := Lib.hid hfn;replace hdp := Lib.hid hdp;replace hp := Lib.hid hp;replace hf1 := Lib.hid hf1;replace hdl := Lib.hid hdl;replace hfit' := Lib.hid hfit';replace hdq := Lib.hid hdq;have hh := Lib.hid (And.intro l1 (And.intro l2 l3));clear hfit l1 l2 l3 l4 hl hRR hT hN2;cases hs : stepI code d q with
     | none =>
       rw [hs] at hfit' TH;go_wp2_with first
         | (go_at_call 69
            refine (P trivial).mono ?_;rintro e w4 ⟨x, L4, rfl, hF, hP, hH4, ho4⟩;obtain ⟨e1, e2, hM4⟩ := F x L4 hF hP;rw [e1, e2];have hT4 := Lib.hid (hT'.out.heap ho4 hH4);have hk4 : Below w.heap.size w w4 := hbw.trans (ho4.below hbw.size (fun k hk e => by have := e.1; omega));replace hM4 := Lib.hid hM4;clear hF hP hH4 ho4 e1 e2)
         | (go_at_call 70; refine (TH.out _ hk4 _ hT4.out hM4.out).mono ?_; rintro e w5 ⟨rfl, ho5, -⟩; have hk5 : Below w.heap.size w w5 := hk4.trans (ho5.below hk4.size (fun k hk e => by omega)))
       refine bodyPost_ret (results_tmp3 rfl _ _ _) rfl ?_;refine ⟨hk5, fun hq => ?_, fun q1 hq => ?_⟩
       · rw [← hfit'.out] at hq; cases hq
       · rw [← hfit'.out] at hq; cases hq; rfl
     | some d1 =>
       rw [hs] at hfit' TH;go_wp2_with first
         | (go_at_call 69
            refine (P trivial).mono ?_;rintro e w4 ⟨x, L4, rfl, hF, hP, hH4, ho4⟩;obtain ⟨e1, e2, hM4⟩ := F x L4 hF hP;rw [e1, e2];have hT4 := Lib.hid (hT'.out.heap ho4 hH4);have hk4 : Below w.heap.size w w4 := hbw.trans (ho4.below hbw.size (fun k hk e => by have := e.1; omega));replace hM4 := Lib.hid hM4;clear hF hP hH4 ho4 e1 e2)
         | (go_at_call 70; refine (TH.out _ hk4 _ hT4.out hM4.out).mono ?_; rintro e w5 ⟨rfl, ho5, hn5⟩; have hk5 : Below w.heap.size w w5 := hk4.trans (ho5.below hk4.size (fun k hk e => by omega)); obtain ⟨L5, p5, hT5, hM5, hp5⟩ := hn5 _ rfl; replace hT5 := Lib.hid hT5; replace hM5 := Lib.hid hM5; clear hn5 ho5)
       have hnew : FitInv code w.heap.size w2.heap.size g b (.slice ad n cap) (f - 1) w5 := by
         obtain ⟨g1, g2, g3⟩ := hh.out;obtain ⟨s1, s2, s3⟩ := stepI_some hs g2 hdp.out (hR.out.takes q).1;have hc := cntI_gone (n := n) g3 (by have := hdl.out; have := hN.out; omega);have hcnt := hcnt.out; have hfn := hfn.out; have hp := hp.out;refine ⟨d1, L5, p5, goneI gn q, hT5.out, hM5.out, hfit'.out, by rw [hN.out]; omega, by rw [hN.out]; omega, ?_, by rw [hN.out]; omega, by rw [s2.1]; exact hdl.out⟩;rw [hN.out];have e : ((n + 1 - (f - 1) : Nat) : Int) = ((n + 1 - f : Nat) : Int) + 1 := by omega
         rw [e];exact s3
       replace hnew := Lib.hid hnew;go_roundw
       case rel => exact ⟨Lib.hid ⟨_, hnew.out⟩, hk5⟩
       case measure =>
         have hl2 := (least_of (P := fun f => FitInv code w.heap.size w2.heap.size g b (.slice ad n cap) f w5) ⟨_, hnew.out⟩).2 _ hnew.out;have hf2 := hfe.out;have hf3 := hf1.out;show Classical.epsilon _ < Classical.epsilon _
         rw [hf2];exact Nat.lt_of_le_of_lt hl2 (by omega)
end Go.Proofs.YtcabolfookofoaaGreatDoor
