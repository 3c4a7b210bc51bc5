/- A part of the proof: DWhole, RSet, PFlowL, PExprL. No condition. -/
import Derived.Test.YtngbekhegnmfaaaGreatDoorQ08
import Derived.Test.YtngbekhegnmfaaaGreatDoorQ22
import Derived.Test.YtngbekhegnmfaaaGreatDoorQ26
import Derived.Test.YtngbekhegnmfaaaGreatDoorQ28
import Derived.Test.YtngbekhegnmfaaaGreatDoorQ39
set_option linter.unusedVariables false
set_option linter.unusedSimpArgs false
namespace Go.Proofs.YtngbekhegnmfaaaGreatDoor
open Go.RowKit Go.Shelf Tok
theorem docF_fit {ts : List Tw} (hf : ∀ x ∈ ts, x.op < 256) : docF ts = ((lookF ts).1, (lookF ts).2.2) := by
 refine doc_look ts (fun i => ?_);unfold twAt;rw [List.getD_eq_getElem?_getD];rcases Nat.lt_or_ge i ts.length with h | h
 · rw [List.getElem?_eq_getElem h]
   exact hf _ (List.getElem_mem h)
 · rw [List.getElem?_eq_none h]
   decide
theorem doc_long {ts : List Tw} (h : 2048 < ts.length) : (docF ts).2 = 2 := by
 unfold docF;rw [if_pos h]
theorem tree_code {ks : List Tk} (hk : ∀ x ∈ ks, TokOK x) {q : NT} (hq : q = .flow ∨ q = .expr) {f i j : Nat} {c : Ch} (h : gP ks f q i = .ok c j) : (docF c.ts).2 = 0 ∨ (docF c.ts).2 = 2 := by
 have hT : Trees c q.shape := gP_trees hk f q i c j (by rcases hq with rfl | rfl <;> trivial) (by rcases hq with rfl | rfl <;> trivial) h;obtain ⟨ps, e1, _, e3, e4⟩ := hT;have h1 : ∃ p, ps = [p] := by
   match ps, e4 with
   | [], e4 => rcases hq with rfl | rfl <;> simp [NT.shape, oneE] at e4
   | [p], _ => exact ⟨p, rfl⟩
   | p :: r :: t, e4 => rcases hq with rfl | rfl <;> simp [NT.shape, oneE] at e4
 obtain ⟨p, rfl⟩ := h1;have h2 := RT_check (e3 p List.mem_cons_self);have h3 : c.ts = p.1 := by rw [e1]; simp [flatP]
 rw [h3];exact h2
theorem readK_doc {ks : List Tk} {s : List UInt8} (hT : allT s = ⟨ks, 0, 0⟩) {q : NT} (hq : q = .flow ∨ q = .expr) {ts : List Tw} {j : Nat} {bd lg : Bool} (hd : DP (gP ks (fuelP ks q) q 0) 0 false false ts 1 j bd lg) (N : Nat) :
   readK ks N q = if bd = true ∨ j < ks.length then ([], ((plOf ks N j).1 : Int), ((plOf ks N j).2 : Int)) else if lg = true ∨ (docF ts).2 ≠ 0 then ([], 0, 2) else (ts, 0, 0) := by
 have hw : q.wf ∧ q.fits := by rcases hq with rfl | rfl <;> exact ⟨trivial, trivial⟩
 have hfine := gP_fine ks (fuelP ks q) q 0 hw.1 (Nat.zero_le _) (by unfold fuelP; omega);obtain ⟨_, _, h3⟩ := hd;have h4 := h3 rfl;unfold readK;cases hg : gP ks (fuelP ks q) q 0 with
 | out => exact absurd hg hfine.1
 | bad k =>
   rw [hg] at h4;obtain ⟨rfl, rfl⟩ := h4;rw [if_pos (.inl rfl)]
 | ok c k =>
   rw [hg] at h4;obtain ⟨rfl, rfl, _, h5, h6⟩ := h4;have hdl := docF_fit (fun x hx => (fit_of hT hw hg x hx).2.2.2);have hcd := tree_code (fun x hx => ((allT_good hT x hx).1.2.2)) hq hg;have hlk : (lookF c.ts).2.2 = (docF c.ts).2 := by rw [hdl]
   dsimp only;by_cases hl : j < ks.length
   · have hy : (false = true) ∨ j < ks.length := .inr hl
     rw [if_pos hl, if_pos hy]
   · have hno : ¬ ((false = true) ∨ j < ks.length) := fun e => e.elim (fun e => by cases e) hl
     rw [if_neg hl, if_neg hno, hlk];cases lg with
     | true =>
       have hy : (true = true) ∨ (docF ts).2 ≠ 0 := .inl rfl;rw [if_pos hy];rcases h6 rfl with h6 | h6
       · cases h6
       · rw [doc_long h6, if_neg (by decide)]
     | false =>
       rcases h5 rfl with rfl | ⟨h7, h8⟩
       · rcases hcd with h | h
         · have hno2 : ¬ ((false = true) ∨ (docF c.ts).2 ≠ 0) := fun e => e.elim (fun e => by cases e) (fun e => e h)
           rw [if_neg hno2, if_pos h]
         · have hy : (false = true) ∨ (docF c.ts).2 ≠ 0 := .inr (by rw [h]; decide)
           rw [if_pos hy, h, if_neg (by decide)]
       · have hy : (false = true) ∨ (docF ts).2 ≠ 0 := .inr (by rw [doc_long h7]; decide)
         rw [if_pos hy, doc_long h8, if_neg (by decide)]
theorem st_new {w : World} {a : Option Addr} {cap : Nat} {ks : List Tk} (h : TkIn w (.slice a ks.length cap) ks) (hk : ks.length ≤ 1000000) (ht : ∀ x ∈ ks, x.text.length ≤ 9223372036854775807) {W : World} (hb : Below w.heap.size w W)
   (hW : W.heap[w.heap.size]? = some (.cells #[.slice a ks.length cap, .int .i64 0, .bool false, .bool false] 81 (0, 0))) :
   SR W w.heap.size a cap ks 0 false false := by
 refine ⟨hW, h.below hb, ?_, Nat.zero_le _, hk, ht⟩;intro p hp h0;obtain ⟨a', cap', e, _, _, h3⟩ := h;injection e with e1 _ _;subst e1;obtain ⟨g, off, rfl, hg, _⟩ := h3 h0;injection hp with hp;subst hp;dsimp only;omega
theorem rank_flow {ks : List Tk} (h : 0 < ks.length) : ∃ f, fuelP ks .flow = f + 2 ∧ f + 1 ≤ 32 * ks.length + 1 := ⟨32 * ks.length - 1, by unfold fuelP; simp only [NT.rank]; omega, by omega⟩
theorem flow_nothing (f : Nat) : gP [] (f + 1) .flow 0 = .bad 0 := by
 have h : wantT [] B.flow 0 = .bad 0 := by
   unfold wantT;rw [if_neg (by decide)]
 unfold gP;rw [h];rfl
theorem whole_flow {ks : List Tk} (hW : WordsOK ks) (hk : ks.length ≤ 90000) : ∀ W R a cap, SR W R a cap ks 0 false false →
   Calls Tryz.prog 44 #[.pointer (some ⟨R, 0, none⟩)] W (DDone (gP ks (fuelP ks .flow) .flow 0) 0 false false R a cap ks W) := by
 intro W R a cap hS;have hne : gP ks (fuelP ks .flow) .flow 0 ≠ .out := (gP_fine ks (fuelP ks .flow) .flow 0 trivial (Nat.zero_le _) (by unfold fuelP; omega)).1;rcases Nat.eq_zero_or_pos ks.length with h0 | h0
 · obtain rfl := List.length_eq_zero_iff.1 h0
   have h := flow_all (R := R) (cap := cap) (a := a) hW hk 0 (by omega) W 0 false false hS (fun _ => by rw [flow_nothing]; simp);rw [flow_nothing] at h;have e : fuelP [] .flow = 0 + 1 := by unfold fuelP; simp only [NT.rank, List.length_nil]
   rw [e, flow_nothing];exact h
 · obtain ⟨f, hf, hf2⟩ := rank_flow h0
   rw [hf] at hne ⊢;exact flow_all hW hk f (by omega) W 0 false false hS (fun _ => hne)
theorem whole_expr {ks : List Tk} (hW : WordsOK ks) (hk : ks.length ≤ 90000) : ∀ W R a cap, SR W R a cap ks 0 false false →
   Calls Tryz.prog 45 #[.pointer (some ⟨R, 0, none⟩)] W (DDone (gP ks (fuelP ks .expr) .expr 0) 0 false false R a cap ks W) := by
 intro W R a cap hS;have hne : gP ks (fuelP ks .expr) .expr 0 ≠ .out := (gP_fine ks (fuelP ks .expr) .expr 0 trivial (Nat.zero_le _) (by unfold fuelP; omega)).1;exact expr_all hW _ (by unfold fuelP; simp only [NT.rank]; omega) W 0 false false hS (fun _ => hne)
theorem whole_state {w W : World} {v : Value} {ks : List Tk} (hv : TksAt W w.heap.size v ks) (hb : Below w.heap.size w W) (hk : ks.length ≤ 1000000) (ht : ∀ x ∈ ks, x.text.length ≤ 9223372036854775807) :
   ∃ a cap, v = .slice a ks.length cap ∧ Hid (SR (W.alloc (.cells #[.slice a ks.length cap, .int .i64 0, .bool false, .bool false] 81)) W.heap.size a cap ks 0 false false) ∧
     Hid (Below w.heap.size w (W.alloc (.cells #[.slice a ks.length cap, .int .i64 0, .bool false, .bool false] 81))) ∧ w.heap.size ≤ W.heap.size := by
 obtain ⟨a, cap, rfl, _, _⟩ := id hv.shape;have hal := (Below.refl W.heap.size W).alloc (Nat.le_refl _) (.cells #[.slice a ks.length cap, .int .i64 0, .bool false, .bool false] 81);exact ⟨a, cap, rfl, st_new hv.tkIn hk ht hal (heap_alloc_new _ _), below_next hb hal, hb.size⟩
set_option maxRecDepth 20000 in
set_option maxHeartbeats 2000000 in
theorem whole_any (s : ByteArray) (w : World) (hs : s.size ≤ 20000) {b : Bool} {q : NT} (hq : (b = true ∧ q = .flow) ∨ (b = false ∧ q = .expr)) :
   Calls Tryz.prog 24 #[.string s, .bool b] w (ReadP (readR s.data.toList q) w) := by
 have kA := refAll_every s w hs;unfold AllPost at kA;by_cases hc : (allT s.data.toList).code ≠ 0
 · have hR : readR s.data.toList q = ([], ((allT s.data.toList).at_ : Int), ((allT s.data.toList).code : Int)) := by unfold readR; rw [if_pos hc]
   rw [hR];have hci : (((allT s.data.toList).code : Int) != 0) = true := bne_iff_ne.2 (by omega);generalize allT s.data.toList = T at *;obtain ⟨ks, ta, tc⟩ := T;dsimp only at kA hci ⊢;replace kA := Lib.hid kA;clear hR hc hq;go_enter Tryz.func24, Tryz.ntmps24
   go_wp2_with fail
   refine kA.out.mono ?_;rintro e' w1 ⟨v, rfl, hv, hb⟩;obtain ⟨va, vc, rfl, _, _⟩ := hv.shape;go_wp2_with fail
   go_ret3
   exact ⟨_, rfl, tw_none _ _, hb⟩
 · obtain ⟨⟨ks, at_, cd⟩, hT⟩ : ∃ T, allT s.data.toList = T := ⟨_, rfl⟩
   rw [hT] at hc kA;obtain rfl : cd = 0 := by dsimp only at hc; omega
   obtain ⟨hkN, rfl⟩ := Cut.allT_few hT;have hR : readR s.data.toList q = readK ks s.size q := by
     unfold readR;rw [hT, size_list];rfl
   rw [hR];have hW : WordsOK ks := words_ok (fun x hx => (allT_good hT x hx).1);have htl : ∀ x ∈ ks, x.text.length ≤ 9223372036854775807 := fun x hx => by have := told_len (t := toG x) ((allT_good hT x hx).1.1); have h2 : (toG x).text.length = x.text.length := rfl; omega
   have hkd : ks.length ≤ 20000 := by have := size_list s; omega
   have hdoc := fun (ts : List Tw) (j : Nat) (bd lg : Bool) (hd : DP (gP ks (fuelP ks q) q 0) 0 false false ts 1 j bd lg) => readK_doc hT (q := q) (by rcases hq with ⟨_, h⟩ | ⟨_, h⟩ <;> simp [h]) hd s.size
   obtain ⟨U, hU⟩ := exHid (readK ks s.size q);rw [hU.out];simp only [hU.out] at hdoc;have kF := whole_flow hW (by omega);have kE := whole_expr hW (by omega);dsimp only at kA;replace kA := Lib.hid kA;replace htl := Lib.hid htl;replace hdoc := Lib.hid hdoc;clear hR hT hc hU hW;have hst := fun (W : World) (v : Value) (hv : TksAt W w.heap.size v ks) (hb : Below w.heap.size w W) => whole_state hv hb (by omega) htl.out
   have kS : ∃ N, (b = true → N = 44) ∧ (b = false → N = 45) ∧ ∀ W R a cap, SR W R a cap ks 0 false false → Calls Tryz.prog N #[.pointer (some ⟨R, 0, none⟩)] W (DDone (gP ks (fuelP ks q) q 0) 0 false false R a cap ks W) := by
     rcases hq with ⟨rfl, rfl⟩ | ⟨rfl, rfl⟩
     · exact ⟨_, fun _ => rfl, fun h => (by cases h), kF⟩
     · exact ⟨_, fun h => (by cases h), fun _ => rfl, kE⟩
   obtain ⟨N, hN1, hN2, kN⟩ := kS;generalize gP ks (fuelP ks q) q 0 = G at *;obtain ⟨n, hn⟩ := exHid (s.size);replace kN := Lib.hid kN;replace hst := Lib.hid hst;clear kF kE;cases b with
   | true =>
     obtain rfl := hN1 rfl;clear hq hN1 hN2;go_enter Tryz.func24, Tryz.ntmps24
     go_wp2_with fail
     refine kA.out.mono ?_;rintro e' w1 ⟨v1, rfl, hv1, hb1⟩;obtain ⟨a, cap, rfl, hS, hBA, hzA⟩ := hst.out _ _ hv1 hb1;clear hv1 hb1 kA;go_wp2_with fail
     refine (kN.out _ _ _ _ hS.out).mono ?_;rintro e' w3 ⟨v, ts, j, bd, lg, rfl, hv, hl, hd, hs3, ho3⟩;obtain ⟨va, vc, rfl, _, _⟩ := id hv.shape;have hQ := Lib.hid hd.1.2;have hU := Lib.hid (hdoc.out _ _ _ _ hd);have hzB := hBA.out.size;have hb3 := Lib.hid (show Below w.heap.size w w3 from hBA.out.trans (ho3.below (by omega) (fun k hk e => by omega)));have hv3 := Lib.hid (hv.low9 (b := w.heap.size) (by omega));have c1 := hs3.c1;have c2 := hs3.c2;have c3 := hs3.c3;have hle := hs3.le;clear hd hdoc kN hst hS ho3 hBA hv;by_cases hj : j < ks.length
     · have hji : (j : Int) < (ks.length : Int) := by omega
       have hjn : ¬ ((ks.length : Int) ≤ (j : Int)) := by omega
       obtain ⟨a', cap', e, lc, cm, hx⟩ := hs3.tk;injection e with e1 _ e2;subst e1 e2;obtain ⟨g, off, rfl, hg, hc⟩ := hx (by omega);have y3 := hc j hj 3 (by omega);have hpl : plOf ks s.size j = (ks[j].at_, 9) := by unfold plOf; rw [if_neg (by omega), tkAt_get hj]
       simp only [tkC, List.getElem?_cons_succ, List.getElem?_cons_zero] at y3;have hE := hU.out;rw [if_pos (.inr hj), hpl] at hE;subst hE;generalize ks[j].at_ = ta at *;clear hx hc hpl hs3 hU hQ hv3;cases bd with
       | true =>
         go_wp2_with fail
         go_region
         go_wp2_with fail
         go_ret3
         exact ⟨_, rfl, tw_none _ _, hb3.out.drew⟩
       | false =>
         go_wp2_with fail
         go_region
         go_wp2_with fail
         go_ret3
         exact ⟨_, rfl, tw_none _ _, hb3.out.drew⟩
     · have hjE : j = ks.length := by omega
       have hji : ¬ (j : Int) < (ks.length : Int) := by omega
       have hjn : (ks.length : Int) ≤ (j : Int) := by omega
       cases bd with
       | true =>
         have hpl : plOf ks s.size j = (s.size, 4) := by unfold plOf; rw [if_pos hjE]
         have hE := hU.out;rw [if_pos (.inl rfl), hpl] at hE;subst hE;replace hjE := Lib.hid hjE;clear hU hQ hv3 hs3 hpl;go_wp2_with fail
         go_ret3
         exact ⟨_, rfl, tw_none _ _, hb3.out⟩
       | false =>
         have kC := Lib.hid (refCheck_text w3 hv3.out.twIn (fun x hx => hQ.out x hx));have hno : ¬ ((false = true) ∨ j < ks.length) := fun e => e.elim (fun e => by cases e) hj;have hE := hU.out;rw [if_neg hno] at hE;generalize docF ts = D at *;obtain ⟨da, dc⟩ := D;dsimp only at kC hE;have hss := Lib.hid hs3;replace hjE := Lib.hid hjE;clear hU hQ hno hs3;cases lg with
         | true =>
           have hy : (true = true) ∨ dc ≠ 0 := .inl rfl;rw [if_pos hy] at hE;subst hE;clear hy;go_wp2_with fail
           refine kC.out.mono ?_;rintro e' w4 ⟨rfl, hb4⟩;have c3' := hss.out.below hb4 |>.c3;have hb5 := Lib.hid (below_next hb3.out hb4);clear hb4 kC;go_wp2_with fail
           go_ret3
           exact ⟨_, rfl, tw_none _ _, hb5.out⟩
         | false =>
           by_cases hdc : dc = 0
           · subst hdc
             have hno2 : ¬ ((false = true) ∨ (0 : Int) ≠ 0) := fun e => e.elim (fun e => by cases e) (fun e => e rfl);rw [if_neg hno2] at hE;subst hE;clear hno2;go_wp2_with fail
             refine kC.out.mono ?_;rintro e' w4 ⟨rfl, hb4⟩;have c3' := hss.out.below hb4 |>.c3;have hb5 := Lib.hid (below_next hb3.out hb4);have hv5 := Lib.hid (hv3.out.below hb4);clear hb4 kC;go_wp2_with fail
             go_ret3
             exact ⟨_, rfl, hv5.out, hb5.out⟩
           · have hdn : (dc != 0) = true := bne_iff_ne.2 hdc
             have hy : (false = true) ∨ dc ≠ 0 := .inr hdc;rw [if_pos hy] at hE;subst hE;clear hy hdc;go_wp2_with fail
             refine kC.out.mono ?_;rintro e' w4 ⟨rfl, hb4⟩;have c3' := hss.out.below hb4 |>.c3;have hb5 := Lib.hid (below_next hb3.out hb4);clear hb4 kC;go_wp2_with fail
             go_ret3
             exact ⟨_, rfl, tw_none _ _, hb5.out⟩
   | false =>
     obtain rfl := hN2 rfl;clear hq hN1 hN2;go_enter Tryz.func24, Tryz.ntmps24
     go_wp2_with fail
     refine kA.out.mono ?_;rintro e' w1 ⟨v1, rfl, hv1, hb1⟩;obtain ⟨a, cap, rfl, hS, hBA, hzA⟩ := hst.out _ _ hv1 hb1;clear hv1 hb1 kA;go_wp2_with fail
     refine (kN.out _ _ _ _ hS.out).mono ?_;rintro e' w3 ⟨v, ts, j, bd, lg, rfl, hv, hl, hd, hs3, ho3⟩;obtain ⟨va, vc, rfl, _, _⟩ := id hv.shape;have hQ := Lib.hid hd.1.2;have hU := Lib.hid (hdoc.out _ _ _ _ hd);have hzB := hBA.out.size;have hb3 := Lib.hid (show Below w.heap.size w w3 from hBA.out.trans (ho3.below (by omega) (fun k hk e => by omega)));have hv3 := Lib.hid (hv.low9 (b := w.heap.size) (by omega));have c1 := hs3.c1;have c2 := hs3.c2;have c3 := hs3.c3;have hle := hs3.le;clear hd hdoc kN hst hS ho3 hBA hv;by_cases hj : j < ks.length
     · have hji : (j : Int) < (ks.length : Int) := by omega
       have hjn : ¬ ((ks.length : Int) ≤ (j : Int)) := by omega
       obtain ⟨a', cap', e, lc, cm, hx⟩ := hs3.tk;injection e with e1 _ e2;subst e1 e2;obtain ⟨g, off, rfl, hg, hc⟩ := hx (by omega);have y3 := hc j hj 3 (by omega);have hpl : plOf ks s.size j = (ks[j].at_, 9) := by unfold plOf; rw [if_neg (by omega), tkAt_get hj]
       simp only [tkC, List.getElem?_cons_succ, List.getElem?_cons_zero] at y3;have hE := hU.out;rw [if_pos (.inr hj), hpl] at hE;subst hE;generalize ks[j].at_ = ta at *;clear hx hc hpl hs3 hU hQ hv3;cases bd with
       | true =>
         go_wp2_with fail
         go_region
         go_wp2_with fail
         go_ret3
         exact ⟨_, rfl, tw_none _ _, hb3.out.drew⟩
       | false =>
         go_wp2_with fail
         go_region
         go_wp2_with fail
         go_ret3
         exact ⟨_, rfl, tw_none _ _, hb3.out.drew⟩
     · have hjE : j = ks.length := by omega
       have hji : ¬ (j : Int) < (ks.length : Int) := by omega
       have hjn : (ks.length : Int) ≤ (j : Int) := by omega
       cases bd with
       | true =>
         have hpl : plOf ks s.size j = (s.size, 4) := by unfold plOf; rw [if_pos hjE]
         have hE := hU.out;rw [if_pos (.inl rfl), hpl] at hE;subst hE;replace hjE := Lib.hid hjE;clear hU hQ hv3 hs3 hpl;go_wp2_with fail
         go_ret3
         exact ⟨_, rfl, tw_none _ _, hb3.out⟩
       | false =>
         have kC := Lib.hid (refCheck_text w3 hv3.out.twIn (fun x hx => hQ.out x hx));have hno : ¬ ((false = true) ∨ j < ks.length) := fun e => e.elim (fun e => by cases e) hj;have hE := hU.out;rw [if_neg hno] at hE;generalize docF ts = D at *;obtain ⟨da, dc⟩ := D;dsimp only at kC hE;have hss := Lib.hid hs3;replace hjE := Lib.hid hjE;clear hU hQ hno hs3;cases lg with
         | true =>
           have hy : (true = true) ∨ dc ≠ 0 := .inl rfl;rw [if_pos hy] at hE;subst hE;clear hy;go_wp2_with fail
           refine kC.out.mono ?_;rintro e' w4 ⟨rfl, hb4⟩;have c3' := hss.out.below hb4 |>.c3;have hb5 := Lib.hid (below_next hb3.out hb4);clear hb4 kC;go_wp2_with fail
           go_ret3
           exact ⟨_, rfl, tw_none _ _, hb5.out⟩
         | false =>
           by_cases hdc : dc = 0
           · subst hdc
             have hno2 : ¬ ((false = true) ∨ (0 : Int) ≠ 0) := fun e => e.elim (fun e => by cases e) (fun e => e rfl);rw [if_neg hno2] at hE;subst hE;clear hno2;go_wp2_with fail
             refine kC.out.mono ?_;rintro e' w4 ⟨rfl, hb4⟩;have c3' := hss.out.below hb4 |>.c3;have hb5 := Lib.hid (below_next hb3.out hb4);have hv5 := Lib.hid (hv3.out.below hb4);clear hb4 kC;go_wp2_with fail
             go_ret3
             exact ⟨_, rfl, hv5.out, hb5.out⟩
           · have hdn : (dc != 0) = true := bne_iff_ne.2 hdc
             have hy : (false = true) ∨ dc ≠ 0 := .inr hdc;rw [if_pos hy] at hE;subst hE;clear hy hdc;go_wp2_with fail
             refine kC.out.mono ?_;rintro e' w4 ⟨rfl, hb4⟩;have c3' := hss.out.below hb4 |>.c3;have hb5 := Lib.hid (below_next hb3.out hb4);clear hb4 kC;go_wp2_with fail
             go_ret3
             exact ⟨_, rfl, tw_none _ _, hb5.out⟩
set_option maxHeartbeats 400000 in
theorem refFlow9_any (s : ByteArray) (w : World) (hs : s.size ≤ 20000) : Calls Tryz.prog 8 #[.string s] w (ReadP (readR s.data.toList .flow) w) := by
 have k := Lib.hid (whole_any s w hs (.inl ⟨rfl, rfl⟩));go_enter Tryz.func8, Tryz.ntmps8
 go_wp2_with fail
 refine k.out.mono ?_;rintro e w1 ⟨v, rfl, hv, hb⟩;go_wp2_with fail
 go_ret3
 exact ⟨_, rfl, hv, hb⟩
set_option maxHeartbeats 400000 in
theorem refExpr9_any (s : ByteArray) (w : World) (hs : s.size ≤ 20000) : Calls Tryz.prog 12 #[.string s] w (ReadP (readR s.data.toList .expr) w) := by
 have k := Lib.hid (whole_any s w hs (.inr ⟨rfl, rfl⟩));go_enter Tryz.func12, Tryz.ntmps12
 go_wp2_with fail
 refine k.out.mono ?_;rintro e w1 ⟨v, rfl, hv, hb⟩;go_wp2_with fail
 go_ret3
 exact ⟨_, rfl, hv, hb⟩
end Go.Proofs.YtngbekhegnmfaaaGreatDoor
namespace Go.Proofs.YtngbekhegnmfaaaGreatDoor
open Go.RowKit Go.Shelf
theorem rowOf_set4 {α : Type} {enc : α → List Value} (hk : ∀ x, (enc x).length = 4) (d : List α) (i : Nat) (hi : i < d.length) (x : α) {a b c e : Value} (he : enc x = [a, b, c, e]) :
   ((((rowOf enc d).set (i * 4) a).set (i * 4 + 1) b).set (i * 4 + 2) c).set (i * 4 + 3) e = rowOf enc (d.set i x) := by
 apply List.ext_getElem?
 intro p;have hlen : (rowOf enc d).length = d.length * 4 := rowOf_length hk d;have hlen2 : (rowOf enc (d.set i x)).length = d.length * 4 := by rw [rowOf_length hk]; simp
 by_cases hp : p < d.length * 4
 · have hq : p / 4 < d.length := by omega
   have e0 := rowOf_get hk d (p / 4) (p % 4) hq (by omega);have e1 := rowOf_get hk (d.set i x) (p / 4) (p % 4) (by simpa using hq) (by omega);rw [show p / 4 * 4 + p % 4 = p by omega] at e0 e1;rw [e1];simp only [List.getElem?_set, List.length_set, hlen];by_cases hpi : p / 4 = i
   · have : (d.set i x)[p / 4]'(by simpa using hq) = x := by subst hpi; simp
     rw [this, he];rcases (show p % 4 = 0 ∨ p % 4 = 1 ∨ p % 4 = 2 ∨ p % 4 = 3 by omega) with h | h | h | h
     · rw [if_neg (by omega), if_neg (by omega), if_neg (by omega), if_pos (by omega), if_pos (by omega), h]; rfl
     · rw [if_neg (by omega), if_neg (by omega), if_pos (by omega), if_pos (by omega), h]; rfl
     · rw [if_neg (by omega), if_pos (by omega), if_pos (by omega), h]; rfl
     · rw [if_pos (by omega), if_pos (by omega), h]; rfl
   · have : (d.set i x)[p / 4]'(by simpa using hq) = d[p / 4] := by rw [List.getElem_set_ne (by omega)]
     rw [this, if_neg (by omega), if_neg (by omega), if_neg (by omega), if_neg (by omega)];exact e0
 · rw [List.getElem?_eq_none (by simp only [List.length_set]; omega), List.getElem?_eq_none (by omega)]
theorem TwsAt.set {w : World} {base g n cap : Nat} {ts : List Tw} (h : TwsAt w base (.slice (some ⟨g, 0, none⟩) n cap) ts) (hn : n = ts.length) {i : Nat} (hi : i < n) (op : Nat) (kids num : Int) (text : List UInt8) :
   TwsAt ((((w.setCell ⟨g, i * 4, none⟩ (.int .u8 (op : Int))).setCell ⟨g, i * 4 + 1, none⟩ (.int .i64 kids)).setCell ⟨g, i * 4 + 2, none⟩ (.int .i64 num)).setCell ⟨g, i * 4 + 3, none⟩ (.string ⟨text.toArray⟩)) base (.slice (some ⟨g, 0, none⟩) n cap) (ts.set i ⟨op, kids, num, text⟩) ∧
   Only (fun k => k = g) w ((((w.setCell ⟨g, i * 4, none⟩ (.int .u8 (op : Int))).setCell ⟨g, i * 4 + 1, none⟩ (.int .i64 kids)).setCell ⟨g, i * 4 + 2, none⟩ (.int .i64 num)).setCell ⟨g, i * 4 + 3, none⟩ (.string ⟨text.toArray⟩)) := by
 subst hn
 constructor
 · have h1 := (World.ownsRow.stored h (i * 4) (.int .u8 (op : Int))).1
   have h2 := (h1.stored (i * 4 + 1) (.int .i64 kids)).1;have h3 := (h2.stored (i * 4 + 2) (.int .i64 num)).1;have h4 := (h3.stored (i * 4 + 3) (.string ⟨text.toArray⟩)).1;rw [rowOf_set4 twC_len ts i hi ⟨op, kids, num, text⟩ rfl] at h4;unfold TwsAt;rw [List.length_set];exact h4
 · have key : ∀ (W : World) (j : Nat) (u : Value), Only (fun k => k = g) w W → Only (fun k => k = g) w (W.setCell ⟨g, j, none⟩ u) := fun W j u ho => ho.setCell (p := ⟨g, j, none⟩) (.inl rfl) u
   exact key _ _ _ (key _ _ _ (key _ _ _ (key _ _ _ (Only.refl _ w))))
theorem TwsAt.held {w : World} {base g n cap : Nat} {ts : List Tw} (h : TwsAt w base (.slice (some ⟨g, 0, none⟩) n cap) ts) (hn : n = ts.length) {i : Nat} (hi : i < n) :
   ∃ op : Nat, ∃ kids num : Int, ∃ text : List UInt8, w.cell? ⟨g, i * 4, none⟩ = some (.int .u8 (op : Int)) ∧ w.cell? ⟨g, i * 4 + 1, none⟩ = some (.int .i64 kids) ∧ w.cell? ⟨g, i * 4 + 2, none⟩ = some (.int .i64 num) ∧ w.cell? ⟨g, i * 4 + 3, none⟩ = some (.string ⟨text.toArray⟩) ∧ ∀ j, w.frozen? ⟨g, j, none⟩ = false := by
 subst hn;have q : ∀ j, j < 4 → w.cell? ⟨g, i * 4 + j, none⟩ = (twC ts[i])[j]? := fun j hj => (World.ownsRow.cellAt (g := g) (cap := cap) h (i * 4 + j) (by omega)).trans (rowOf_get twC_len ts i j hi hj);exact ⟨ts[i].op, ts[i].kids, ts[i].num, ts[i].text, q 0 (by omega), q 1 (by omega), q 2 (by omega), q 3 (by omega), fun j => World.ownsRow.frozenAt (n := ts.length) h j⟩
theorem TwsAt.owned {w : World} {base : Nat} {v : Value} {ts : List Tw} (h : TwsAt w base v ts) (h0 : 0 < ts.length) : ∃ g cap, v = .slice (some ⟨g, 0, none⟩) ts.length cap ∧ base ≤ g ∧ g < w.heap.size ∧ ts.length ≤ cap ∧ cap ≤ 9223372036854775807 := by
 obtain ⟨g, cap, e, h1, h2, h3, h4, _⟩ := ownsRow_head h h0;exact ⟨g, cap, e, h1, h2, h3, h4⟩
end Go.Proofs.YtngbekhegnmfaaaGreatDoor
namespace Go.Proofs.YtngbekhegnmfaaaGreatDoor
open Go.RowKit Go.Shelf Tok
theorem row_block {w : World} {base : Nat} {v : Value} {ts : List Tw} (h : TwsAt w base v ts) : ∀ k, v.ownBlock = some k → base ≤ k ∧ k < w.heap.size := by
 intro k hk;rcases h.2 with ⟨hv, _⟩ | ⟨g', cap, cur, hv, hb, hgg, _⟩
 · rw [hv] at hk; cases hk
 · rw [hv] at hk
   have e1 : k = g' := by simpa [Value.ownBlock] using hk.symm
   subst e1;exact ⟨hb, (Array.getElem?_eq_some_iff.1 hgg).1⟩
set_option maxRecDepth 20000 in
set_option maxHeartbeats 4000000 in
theorem pflow_at (s : ByteArray) (w : World) (hs : s.size ≤ 140737488351232) (hE : ErrR w) (hS : SignsOK w) (hM : MakesOK w) (s' : ByteArray) (hs' : (20000 < s.size ∧ s' = s.extract 0 20000) ∨ (s.size ≤ 20000 ∧ s' = s)) :
   Calls Tryz.prog 3 #[.string s] w fun e w' => e = .returned (.bool true) ∧ Below w.heap.size w w' := by
 have hml := hM.lt;have hWk := Lib.hid (fun W (h : Below w.heap.size w W) => wakes9_any W (hE.below h) (hS.below h) (hM.below hml h));have hz : s'.size ≤ 20000 := by
   rcases hs' with ⟨a, rfl⟩ | ⟨a, rfl⟩
   · simp; omega
   · exact a
 have k1 := fun W (h : Below w.heap.size w W) => Flow_any s' W (by omega) (hE.below h) (hS.below h) (hM.below hml h)
 have k2 := fun W => refFlow9_any s' W hz
 generalize readR s'.data.toList .flow = R at *;obtain ⟨t1, a1, c1⟩ := R;replace k1 := Lib.hid k1;replace k2 := Lib.hid k2;clear hE hS hM hml;rcases hs' with ⟨hlen, rfl⟩ | ⟨hlen, rfl⟩
 · have hi : (20000 : Int) < (s.size : Int) := by omega
   go_enter Tryz.func3, Tryz.ntmps3
   go_wp2_with fail
   refine (k1.out _ (Below.refl _ _)).mono ?_;rintro e' w1 ⟨v1, rfl, hv1, hb1⟩;obtain ⟨x1, y1, rfl, hlc1, hlm1⟩ := id hv1.shape;have hz1 := hb1.size;go_wp2_with fail
   refine (k2.out _).mono ?_;rintro e' w2 ⟨v2, rfl, hv2, hb2⟩;obtain ⟨x2, y2, rfl, _, _⟩ := id hv2.shape;have hz2 := hb2.size;have kA := Lib.hid (alike_tw (hv1.below hb2).twIn hv2.twIn);have hb3 := below_next hb1 hb2;go_wp2_with fail
   refine kA.out.mono ?_;rintro e' w3 ⟨rfl, hb4⟩;have hz3 := hb4.size;have hb5 := Lib.hid (below_next hb3 hb4);have hA := Lib.hid ((hv1.below hb2).below hb4);have hW := Lib.hid (hv2.below hb4);have hown := Lib.hid (row_block hv1);have hown2 := Lib.hid (row_block hv2);clear hv1 hv2 hb1 hb2 hb3 hb4 kA;go_wp2_with fail
   go_loopw [9] (fun t9 wr => ∃ (i : Nat) (us : List Tw), us.length = t1.length ∧ i ≤ t1.length ∧ t9 = .int .i64 i ∧ Hid (TwsAt wr w.heap.size (.slice x1 t1.length y1) us) ∧ Hid (Only (fun k => (Value.slice x1 t1.length y1).ownBlock = some k) w3 wr)) (fun t9 _ => t1.length - (intOf t9).toNat)
   case atStart => exact ⟨0, t1, rfl, Nat.zero_le _, rfl, hA, Lib.hid (Only.refl _ _)⟩
   case round =>
     obtain ⟨i, us, hus, hi1, rfl, hr, hor⟩ := hrel;rcases Nat.lt_or_ge i t1.length with hlt | hge
     · have hlti : (i : Int) < (t1.length : Int) := by omega
       have hr2 := hr.out;rw [← hus] at hr2;obtain ⟨g, cap, hv, _⟩ := hr2.owned (by omega);injection hv with hv1 _ hv2;subst hv1 hv2;have hr3 := hr.out;obtain ⟨o0, o1, o2, o3, c0, c1', c2, c3, hf⟩ := hr3.held hus.symm hlt;have f0 := hf (i * 4); have f1 := hf (i * 4 + 1); have f2 := hf (i * 4 + 2); have f3 := hf (i * 4 + 3);obtain ⟨hset, hoset⟩ := hr3.set hus.symm hlt 99 0 0 [];have hset2 := Lib.hid hset;have hor2 := Lib.hid (hor.out.then (hoset.mono (fun k _ e => by subst e; rfl)));clear hf hr2 hr3 hset hoset;go_wp2_with fail
       go_roundw
       case rel => exact ⟨i + 1, us.set i ⟨99, 0, 0, []⟩, by rw [List.length_set]; exact hus, by omega, by go_num, hset2, hor2⟩
       case measure => simp [intOf]; omega
     · obtain rfl : i = t1.length := by omega
       have hlti : ¬ ((t1.length : Int) < (t1.length : Int)) := by omega
       have hbr := Lib.hid (show Below w.heap.size w wr from hb5.out.trans (hor.out.below (by omega) (fun k hk e => by have := (hown.out k e).1; omega)));have hWr := Lib.hid (show TwsAt wr w1.heap.size (.slice x2 t1.length y2) t1 from ownsRow_only hW.out hor.out (fun k hk e => by have h1 := (hown.out k e).2; have h2 := (hown2.out k hk).1; omega));clear hr hor hA hW;go_wp2_with fail
       refine (k1.out _ hbr.out).mono ?_;rintro e' w4 ⟨v4, rfl, hv4, hb4⟩;obtain ⟨x4, y4, rfl, _, _⟩ := id hv4.shape;have kA := Lib.hid (alike_tw hv4.twIn (hWr.out.below hb4).twIn);have hb7 := below_next hbr.out hb4;clear hv4 hb4;go_wp2_with fail
       refine kA.out.mono ?_;rintro e' w6 ⟨rfl, hb8⟩;have hb9 := below_next hb7 hb8;go_wp2_with fail
       refine (hWk.out _ hb9).mono ?_;rintro e' wx ⟨rfl, hbx⟩;go_wp2_with fail
       go_ret
       exact ⟨rfl, below_next hb9 hbx⟩
 · have hi : ¬ (20000 : Int) < (s'.size : Int) := by omega
   go_enter Tryz.func3, Tryz.ntmps3
   go_wp2_with fail
   refine (k1.out _ (Below.refl _ _)).mono ?_;rintro e' w1 ⟨v1, rfl, hv1, hb1⟩;obtain ⟨x1, y1, rfl, hlc1, hlm1⟩ := id hv1.shape;have hz1 := hb1.size;go_wp2_with fail
   refine (k2.out _).mono ?_;rintro e' w2 ⟨v2, rfl, hv2, hb2⟩;obtain ⟨x2, y2, rfl, _, _⟩ := id hv2.shape;have hz2 := hb2.size;have kA := Lib.hid (alike_tw (hv1.below hb2).twIn hv2.twIn);have hb3 := below_next hb1 hb2;go_wp2_with fail
   refine kA.out.mono ?_;rintro e' w3 ⟨rfl, hb4⟩;have hz3 := hb4.size;have hb5 := Lib.hid (below_next hb3 hb4);have hA := Lib.hid ((hv1.below hb2).below hb4);have hW := Lib.hid (hv2.below hb4);have hown := Lib.hid (row_block hv1);have hown2 := Lib.hid (row_block hv2);clear hv1 hv2 hb1 hb2 hb3 hb4 kA;go_wp2_with fail
   go_loopw [9] (fun t9 wr => ∃ (i : Nat) (us : List Tw), us.length = t1.length ∧ i ≤ t1.length ∧ t9 = .int .i64 i ∧ Hid (TwsAt wr w.heap.size (.slice x1 t1.length y1) us) ∧ Hid (Only (fun k => (Value.slice x1 t1.length y1).ownBlock = some k) w3 wr)) (fun t9 _ => t1.length - (intOf t9).toNat)
   case atStart => exact ⟨0, t1, rfl, Nat.zero_le _, rfl, hA, Lib.hid (Only.refl _ _)⟩
   case round =>
     obtain ⟨i, us, hus, hi1, rfl, hr, hor⟩ := hrel;rcases Nat.lt_or_ge i t1.length with hlt | hge
     · have hlti : (i : Int) < (t1.length : Int) := by omega
       have hr2 := hr.out;rw [← hus] at hr2;obtain ⟨g, cap, hv, _⟩ := hr2.owned (by omega);injection hv with hv1 _ hv2;subst hv1 hv2;have hr3 := hr.out;obtain ⟨o0, o1, o2, o3, c0, c1', c2, c3, hf⟩ := hr3.held hus.symm hlt;have f0 := hf (i * 4); have f1 := hf (i * 4 + 1); have f2 := hf (i * 4 + 2); have f3 := hf (i * 4 + 3);obtain ⟨hset, hoset⟩ := hr3.set hus.symm hlt 99 0 0 [];have hset2 := Lib.hid hset;have hor2 := Lib.hid (hor.out.then (hoset.mono (fun k _ e => by subst e; rfl)));clear hf hr2 hr3 hset hoset;go_wp2_with fail
       go_roundw
       case rel => exact ⟨i + 1, us.set i ⟨99, 0, 0, []⟩, by rw [List.length_set]; exact hus, by omega, by go_num, hset2, hor2⟩
       case measure => simp [intOf]; omega
     · obtain rfl : i = t1.length := by omega
       have hlti : ¬ ((t1.length : Int) < (t1.length : Int)) := by omega
       have hbr := Lib.hid (show Below w.heap.size w wr from hb5.out.trans (hor.out.below (by omega) (fun k hk e => by have := (hown.out k e).1; omega)));have hWr := Lib.hid (show TwsAt wr w1.heap.size (.slice x2 t1.length y2) t1 from ownsRow_only hW.out hor.out (fun k hk e => by have h1 := (hown.out k e).2; have h2 := (hown2.out k hk).1; omega));clear hr hor hA hW;go_wp2_with fail
       refine (k1.out _ hbr.out).mono ?_;rintro e' w4 ⟨v4, rfl, hv4, hb4⟩;obtain ⟨x4, y4, rfl, _, _⟩ := id hv4.shape;have kA := Lib.hid (alike_tw hv4.twIn (hWr.out.below hb4).twIn);have hb7 := below_next hbr.out hb4;clear hv4 hb4;go_wp2_with fail
       refine kA.out.mono ?_;rintro e' w6 ⟨rfl, hb8⟩;have hb9 := below_next hb7 hb8;go_wp2_with fail
       refine (hWk.out _ hb9).mono ?_;rintro e' wx ⟨rfl, hbx⟩;go_wp2_with fail
       go_ret
       exact ⟨rfl, below_next hb9 hbx⟩
theorem parseFlow_walk (s : ByteArray) (w : World) (hs : s.size ≤ 140737488351232) (hE : ErrR w) (hS : SignsOK w) (hM : MakesOK w) :
   Calls Tryz.prog 3 #[.string s] w fun e w' => e = .returned (.bool true) ∧ Below w.heap.size w w' := by
 rcases Nat.lt_or_ge 20000 s.size with hlen | hlen
 · exact pflow_at s w hs hE hS hM _ (.inl ⟨hlen, rfl⟩)
 · exact pflow_at s w hs hE hS hM _ (.inr ⟨hlen, rfl⟩)
end Go.Proofs.YtngbekhegnmfaaaGreatDoor
namespace Go.Proofs.YtngbekhegnmfaaaGreatDoor
open Go.RowKit Go.Shelf Tok
set_option maxRecDepth 20000 in
set_option maxHeartbeats 2000000 in
theorem pexpr_at (s : ByteArray) (w : World) (hs : s.size ≤ 140737488351232) (hE : ErrR w) (hS : SignsOK w) (hM : MakesOK w) (s' : ByteArray) (hs' : (20000 < s.size ∧ s' = s.extract 0 20000) ∨ (s.size ≤ 20000 ∧ s' = s)) :
   Calls Tryz.prog 4 #[.string s] w fun e w' => e = .returned (.bool true) ∧ Below w.heap.size w w' := by
 have hml := hM.lt;have hWk := Lib.hid (fun W (h : Below w.heap.size w W) => wakes9_any W (hE.below h) (hS.below h) (hM.below hml h));have hz : s'.size ≤ 20000 := by
   rcases hs' with ⟨a, rfl⟩ | ⟨a, rfl⟩
   · simp; omega
   · exact a
 have k1 := Expr_any s' w (by omega) hE hS hM;have k2 := fun W => refExpr9_any s' W hz
 generalize readR s'.data.toList .expr = R at *;obtain ⟨t1, a1, c1⟩ := R;replace k1 := Lib.hid k1;replace k2 := Lib.hid k2;clear hE hS hM;rcases hs' with ⟨hlen, rfl⟩ | ⟨hlen, rfl⟩
 · have hi : (20000 : Int) < (s.size : Int) := by omega
   go_enter Tryz.func4, Tryz.ntmps4
   go_wp2_with fail
   refine k1.out.mono ?_;rintro e' w1 ⟨v1, rfl, hv1, hb1⟩;obtain ⟨x1, y1, rfl, _, _⟩ := id hv1.shape;go_wp2_with fail
   refine (k2.out _).mono ?_;rintro e' w2 ⟨v2, rfl, hv2, hb2⟩;obtain ⟨x2, y2, rfl, _, _⟩ := id hv2.shape;have kA := Lib.hid (alike_tw (hv1.below hb2).twIn hv2.twIn);have hb3 := below_next hb1 hb2;clear hv1 hv2 hb1 hb2 k1 k2;go_wp2_with fail
   refine kA.out.mono ?_;rintro e' w3 ⟨rfl, hb4⟩;have hb5 := below_next hb3 hb4;go_wp2_with fail
   refine (hWk.out _ hb5).mono ?_;rintro e' w4 ⟨rfl, hb6⟩;go_wp2_with fail
   go_ret
   exact ⟨rfl, below_next hb5 hb6⟩
 · have hi : ¬ (20000 : Int) < (s'.size : Int) := by omega
   go_enter Tryz.func4, Tryz.ntmps4
   go_wp2_with fail
   refine k1.out.mono ?_;rintro e' w1 ⟨v1, rfl, hv1, hb1⟩;obtain ⟨x1, y1, rfl, _, _⟩ := id hv1.shape;go_wp2_with fail
   refine (k2.out _).mono ?_;rintro e' w2 ⟨v2, rfl, hv2, hb2⟩;obtain ⟨x2, y2, rfl, _, _⟩ := id hv2.shape;have kA := Lib.hid (alike_tw (hv1.below hb2).twIn hv2.twIn);have hb3 := below_next hb1 hb2;clear hv1 hv2 hb1 hb2 k1 k2;go_wp2_with fail
   refine kA.out.mono ?_;rintro e' w3 ⟨rfl, hb4⟩;have hb5 := below_next hb3 hb4;go_wp2_with fail
   refine (hWk.out _ hb5).mono ?_;rintro e' w4 ⟨rfl, hb6⟩;go_wp2_with fail
   go_ret
   exact ⟨rfl, below_next hb5 hb6⟩
theorem parseExpr_walk (s : ByteArray) (w : World) (hs : s.size ≤ 140737488351232) (hE : ErrR w) (hS : SignsOK w) (hM : MakesOK w) :
   Calls Tryz.prog 4 #[.string s] w fun e w' => e = .returned (.bool true) ∧ Below w.heap.size w w' := by
 rcases Nat.lt_or_ge 20000 s.size with hlen | hlen
 · exact pexpr_at s w hs hE hS hM _ (.inl ⟨hlen, rfl⟩)
 · exact pexpr_at s w hs hE hS hM _ (.inr ⟨hlen, rfl⟩)
end Go.Proofs.YtngbekhegnmfaaaGreatDoor
