/- A part of the proof: JHAhead, JHRise, JHSink, JHTk0, JHTake, JHPeek. No condition. -/
import Derived.Test.YtefijbpbenmbgaaDoorQ15
set_option linter.unusedVariables false
set_option linter.unusedSimpArgs false
namespace Go.Proofs.YtefijbpbenmbgaaDoor.HI
open Go.RowKit
def aheadB (x y : T) : Bool := decide (ordI x.key x.num y.key y.num < 0)
theorem aheadB_iff (x y : T) : aheadB x y = true ↔ lt_ T.key T.num x y := by
 unfold aheadB lt_;rw [decide_eq_true_iff];exact ordI_neg _ _ _ _
theorem aheadB_false (x y : T) : aheadB x y = false ↔ ¬ lt_ T.key T.num x y := by
 rw [← aheadB_iff]; simp
set_option maxHeartbeats 1000000 in
theorem ahead_any {b bm p a c : Nat} {sv : Value} {d : List T} {w : World} (h : HeapAt w b bm sv d p) (ha : a < d.length) (hc : c < d.length) :
   Calls Tryd.prog 84 #[.pointer (some ⟨b, 0, none⟩), .int .i64 a, .int .i64 c] w fun e w' => e = .returned (.bool (aheadB (at_ d a) (at_ d c))) ∧ Below w.heap.size w w' := by
 obtain ⟨g, cap, rfl, _, hgl, hn, hcm, _⟩ := ownsRow_head h.row (by omega);obtain ⟨n, hlen⟩ : ∃ n, n = d.length := ⟨_, rfl⟩;have hrow := h.row;rw [← hlen] at hrow h hn;have c0 := h.c0;have han : a < n := by omega
 have hcn : c < n := by omega
 obtain ⟨⟨k1, n1, v1⟩, hx⟩ : ∃ x, at_ d a = x := ⟨_, rfl⟩;obtain ⟨⟨k2, n2, v2⟩, hy⟩ : ∃ x, at_ d c = x := ⟨_, rfl⟩;obtain ⟨a0, a1, a2⟩ := row_cells hrow hlen ha;obtain ⟨e0, e1, e2⟩ := row_cells hrow hlen hc;rw [hx] at a0 a1 a2;rw [hy] at e0 e1 e2;dsimp only at a0 a1 a2 e0 e1 e2;obtain ⟨o, ho⟩ := exHid (ordI k1 n1 k2 n2);have C : ∀ w, Calls Tryd.prog 86 #[.agg #[.int .i64 k1, .int .i64 n1, .int .i64 v1], .agg #[.int .i64 k2, .int .i64 n2, .int .i64 v2]] w fun e w' => e = .returned (.int .i64 o) ∧ Below w.heap.size w w' := fun w => by have := order_any k1 n1 v1 k2 n2 v2 w; rw [ho.out] at this; exact this
 replace C := Lib.hid C;have fin : aheadB (at_ d a) (at_ d c) = decide (o < 0) := by rw [hx, hy]; unfold aheadB; dsimp only; rw [ho.out]
 replace fin := Lib.hid fin;clear h hrow hx hy hlen ha hc ho;go_enter Tryd.func84, Tryd.ntmps84
 go_wp2
 go_region_held3 (fun w' => w'.cell? ⟨b, 0, none⟩ = some (.slice (some ⟨g, 0, none⟩) n cap) ∧ w'.cell? ⟨g, a * 3, none⟩ = some (.int .i64 k1) ∧ w'.cell? ⟨g, a * 3 + 1, none⟩ = some (.int .i64 n1) ∧ w'.cell? ⟨g, a * 3 + 2, none⟩ = some (.int .i64 v1) ∧ w'.cell? ⟨g, c * 3, none⟩ = some (.int .i64 k2) ∧ w'.cell? ⟨g, c * 3 + 1, none⟩ = some (.int .i64 n2) ∧ w'.cell? ⟨g, c * 3 + 2, none⟩ = some (.int .i64 v2))
   (first
     | exact ⟨c0, a0, a1, a2, e0, e1, e2⟩
     | exact hold)
   ((go_at_call 86; refine (C.out _).mono ?_; rintro e w' ⟨rfl, hb⟩; have hold : w'.cell? ⟨b, 0, none⟩ = some (.slice (some ⟨g, 0, none⟩) n cap) ∧ w'.cell? ⟨g, a * 3, none⟩ = some (.int .i64 k1) ∧ w'.cell? ⟨g, a * 3 + 1, none⟩ = some (.int .i64 n1) ∧ w'.cell? ⟨g, a * 3 + 2, none⟩ = some (.int .i64 v1) ∧ w'.cell? ⟨g, c * 3, none⟩ = some (.int .i64 k2) ∧ w'.cell? ⟨g, c * 3 + 1, none⟩ = some (.int .i64 n2) ∧ w'.cell? ⟨g, c * 3 + 2, none⟩ = some (.int .i64 v2) := (by refine ⟨?_, ?_, ?_, ?_, ?_, ?_, ?_⟩ <;> exact Below.keeps hb (by assumption))))
 go_wp2
 go_ret
 exact ⟨ret_bool fin.out.symm, below_drew hb⟩
theorem ahead_at {b bm p a c : Nat} {sv : Value} {d : List T} {w : World} (h : HeapAt w b bm sv d p) {x y : Int} {o : Bool} (hx : x = a) (hy : y = c) (ha : a < d.length) (hc : c < d.length) (ho : aheadB (at_ d a) (at_ d c) = o) :
   Calls Tryd.prog 84 #[.pointer (some ⟨b, 0, none⟩), .int .i64 x, .int .i64 y] w fun e w' => e = .returned (.bool o) ∧ HeapAt w' b bm sv d p ∧ Below w.heap.size w w' := by
 subst hx; subst hy; subst ho;exact (ahead_any h ha hc).mono fun e w' ⟨h1, h2⟩ => ⟨h1, h.kept (F := fun _ => False) (Only.of_below h2) (fun _ _ h => h), h2⟩
set_option maxHeartbeats 400000 in
theorem made_any {b bm p : Nat} {sv : Value} {d : List T} {w : World} (h : HeapAt w b bm sv d p) :
   Calls Tryd.prog 78 #[.pointer (some ⟨b, 0, none⟩)] w fun e w' => e = .returned (.bool true) ∧ w = w' := by
 have c1 := h.c1;have hq := fun w => run_neq_map (P := Tryd.prog) w 107 _ _ (some bm) Tryd.underlying107
 clear h;go_enter Tryd.func78, Tryd.ntmps78
 go_wp2
 go_ret
 exact ⟨rfl, rfl⟩
set_option maxHeartbeats 400000 in
theorem len_any {b bm p : Nat} {sv : Value} {d : List T} {w : World} (h : HeapAt w b bm sv d p) :
   Calls Tryd.prog 80 #[.pointer (some ⟨b, 0, none⟩)] w fun e w' => e = .returned (.int .i64 d.length) ∧ w = w' := by
 obtain ⟨a, cap, rfl, _⟩ := ownsRow_shape h.row;have c0 := h.c0;have M := Lib.hid (made_any h);clear h;go_enter Tryd.func80, Tryd.ntmps80
 go_wp2_with (go_at_call 78; refine M.out.mono ?_; rintro e w' ⟨rfl, rfl⟩)
 go_ret
 exact ⟨rfl, rfl⟩
end Go.Proofs.YtefijbpbenmbgaaDoor.HI
namespace Go.Proofs.YtefijbpbenmbgaaDoor.HI
open Go.RowKit
theorem swap_at {b bm p a c : Nat} {sv : Value} {d : List T} {w : World} (h : HeapAt w b bm sv d p) {x y : Int} (hx : x = a) (hy : y = c) (ha : a < d.length) (hc : c < d.length) :
   Calls Tryd.prog 81 #[.pointer (some ⟨b, 0, none⟩), .int .i64 x, .int .i64 y] w fun e w' => e = .returned (.tuple #[]) ∧ HeapAt w' b bm sv (swp d a c) p ∧ Only (fun k => k = bm ∨ sv.ownBlock = some k) w w' := by
 subst hx; subst hy;exact swap_any h ha hc
theorem val_int {k : IntKind} {a b : Int} (h : a = b) : Value.int k a = .int k b := by rw [h]
set_option maxHeartbeats 1000000 in
theorem rise_any {b bm p s : Nat} {sv : Value} {d : List T} {w : World} (h : HeapAt w b bm sv d p) (hs : s < d.length) (hE : Ex_ T.key T.num d s) :
   Calls Tryd.prog 79 #[.pointer (some ⟨b, 0, none⟩), .int .i64 s] w fun e w' => e = .returned (.tuple #[]) ∧ ∃ d', HeapAt w' b bm sv d' p ∧ d'.Perm d ∧ Down_ T.key T.num d' s ∧ Only (fun k => k = bm ∨ sv.ownBlock = some k) w w' := by
 have hlim : d.length ≤ 1099511627776 := Nat.le_trans h.len h.lim;replace hE := Lib.hid hE;replace h := Lib.hid h;go_enter Tryd.func79, Tryd.ntmps79
 go_wp2
 go_loopw [1] (fun pl wr => ∃ (q : Nat) (d1 : List T), q < d1.length ∧ pl = .int .i64 q ∧ HeapAt wr b bm sv d1 p ∧ d1.Perm d ∧ Only (fun k => k = bm ∨ sv.ownBlock = some k) w wr ∧ Ex_ T.key T.num d1 q ∧ (q = s ∨ Up_ T.key T.num d1 q)) (fun pl _ => (intOf pl).toNat)
 case atStart => exact ⟨s, d, hs, rfl, h.out, List.Perm.refl _, Only.refl _ _, hE.out, .inl rfl⟩
 case round =>
   obtain ⟨q, d1, hq, rfl, hH, hperm, hon, hEx, hup⟩ := hrel;have hlen1 : d1.length ≤ 1099511627776 := by rw [hperm.length_eq]; exact hlim
   have hs1 : s < d1.length := by rw [hperm.length_eq]; exact hs
   have fin : (q = 0 ∨ ¬ lt_ T.key T.num (at_ d1 q) (at_ d1 ((q - 1) / 2))) → Down_ T.key T.num d1 s := by
     intro h0;rcases hup with e | e
     · rw [← e]; exact down_of_ex hEx h0
     · exact down_of_heap hs1 (heap_of_up hq e h0)
   replace fin := Lib.hid fin;replace hperm := Lib.hid hperm;replace hon := Lib.hid hon;replace hEx := Lib.hid hEx;clear hup;by_cases h0 : 0 < q
   · by_cases hl : aheadB (at_ d1 q) (at_ d1 ((q - 1) / 2)) = true
     · have U := Lib.hid (up_step h0 hq hEx.out ((aheadB_iff _ _).1 hl))
       replace hl := Lib.hid hl;go_wp2_with (first
         | (go_at_call 84; refine (ahead_at hH (a := q) (c := (q - 1) / 2) rfl (by omega) hq (by omega) hl.out).mono ?_; rintro e w1 ⟨rfl, hH1, hb⟩)
         | (go_at_call 81; refine (swap_at hH1 (a := q) (c := (q - 1) / 2) rfl (by omega) hq (by omega)).mono ?_; rintro e w2 ⟨rfl, hH2, ho⟩))
       go_roundw
       case rel =>
         exact ⟨(q - 1) / 2, swp d1 q ((q - 1) / 2), by rw [swp_length]; omega, val_int (by omega), hH2, (swp_perm d1 q ((q - 1) / 2) hq (by omega)).trans hperm.out, (hon.out.then (Only.of_below hb)).then ho, U.out.1, .inr U.out⟩
       case measure => simp [intOf]; omega
     · have hl' : aheadB (at_ d1 q) (at_ d1 ((q - 1) / 2)) = false := by simpa using hl
       have D := Lib.hid (fin.out (.inr ((aheadB_false _ _).1 hl')));clear hl;replace hl' := Lib.hid hl';go_wp2_with (first
         | (go_at_call 84; refine (ahead_at hH (a := q) (c := (q - 1) / 2) rfl (by omega) hq (by omega) hl'.out).mono ?_; rintro e w1 ⟨rfl, hH1, hb⟩))
       refine bodyPost_ret (results_none rfl _ _ _) rfl ?_;exact ⟨rfl, d1, hH1, hperm.out, D.out, hon.out.then (Only.of_below hb)⟩
   · have D := Lib.hid (fin.out (.inl (by omega)))
     have hz : ¬ (0 : Int) < q := by omega
     go_wp2
     go_end0
     exact ⟨rfl, d1, hH, hperm.out, D.out, hon.out⟩
end Go.Proofs.YtefijbpbenmbgaaDoor.HI
namespace Go.Proofs.YtefijbpbenmbgaaDoor.HI
open Go.RowKit
def FirstOf (d : List T) (q below f : Nat) : Prop :=
 f < d.length ∧ (f = q ∨ (f < below ∧ 0 < f ∧ (f - 1) / 2 = q ∧ lt_ T.key T.num (at_ d f) (at_ d q))) ∧ le_ T.key T.num (at_ d f) (at_ d q) ∧ ∀ i, 2 * q + 1 ≤ i → i < below → i < d.length → le_ T.key T.num (at_ d f) (at_ d i)
theorem first_start {d : List T} {q : Nat} (hq : q < d.length) : FirstOf d q (2 * q + 1) q := ⟨hq, .inl rfl, le_refl_ _, fun i h1 h2 => by omega⟩
theorem first_yes {d : List T} {q below f : Nat} (h : FirstOf d q below f) (hb : below < d.length) (h1 : 2 * q + 1 ≤ below) (h2 : below ≤ 2 * q + 2) (hl : lt_ T.key T.num (at_ d below) (at_ d f)) : FirstOf d q (below + 1) below := by
 obtain ⟨_, _, hle, hall⟩ := h;refine ⟨hb, .inr ⟨by omega, by omega, by omega, ?_⟩, le_trans_ (le_of_lt_ hl) hle, fun i h3 h4 h5 => ?_⟩
 · unfold lt_ le_ lexLt at *; unfold lt_ lexLt at hle; omega
 · by_cases e : i = below
   · subst e; exact le_refl_ _
   · exact le_trans_ (le_of_lt_ hl) (hall i h3 (by omega) h5)
theorem first_no {d : List T} {q below f : Nat} (h : FirstOf d q below f) (hl : ¬ lt_ T.key T.num (at_ d below) (at_ d f)) : FirstOf d q (below + 1) f := by
 obtain ⟨hf, hor, hle, hall⟩ := h;refine ⟨hf, ?_, hle, fun i h3 h4 h5 => ?_⟩
 · rcases hor with e | ⟨a, b, c, e⟩
   · exact .inl e
   · exact .inr ⟨by omega, b, c, e⟩
 · by_cases e : i = below
   · subst e; exact hl
   · exact hall i h3 (by omega) h5
theorem first_all {d : List T} {q below f : Nat} (h : FirstOf d q below f) (hb : 2 * q + 2 < below ∨ d.length ≤ below) : ∀ i, 0 < i → i < d.length → (i - 1) / 2 = q → le_ T.key T.num (at_ d f) (at_ d i) :=
 fun i h1 h2 h3 => h.2.2.2 i (by omega) (by omega) h2
set_option maxHeartbeats 2000000 in
theorem sink_any {b bm p s : Nat} {sv : Value} {d : List T} {w : World} (h : HeapAt w b bm sv d p) (hs : s < d.length) (hD : Down_ T.key T.num d s) :
   Calls Tryd.prog 85 #[.pointer (some ⟨b, 0, none⟩), .int .i64 s] w fun e w' => e = .returned (.tuple #[]) ∧ ∃ d', HeapAt w' b bm sv d' p ∧ d'.Perm d ∧ Heapy T.key T.num d' ∧ Only (fun k => k = bm ∨ sv.ownBlock = some k) w w' := by
 have hlim : d.length ≤ 1099511627776 := Nat.le_trans h.len h.lim;replace hD := Lib.hid hD;replace h := Lib.hid h;go_enter Tryd.func85, Tryd.ntmps85
 go_wp2
 go_loopw [1] (fun pl wr => ∃ (q : Nat) (d1 : List T), q < d1.length ∧ pl = .int .i64 q ∧ HeapAt wr b bm sv d1 p ∧ d1.Perm d ∧ Only (fun k => k = bm ∨ sv.ownBlock = some k) w wr ∧ Down_ T.key T.num d1 q) (fun pl _ => d.length - (intOf pl).toNat)
 case atStart => exact ⟨s, d, hs, rfl, h.out, List.Perm.refl _, Only.refl _ _, hD.out⟩
 case round =>
   obtain ⟨q, d1, hq, rfl, hH, hperm, hon, hDn⟩ := hrel;have hlen1 : d1.length ≤ 1099511627776 := by rw [hperm.length_eq]; exact hlim
   obtain ⟨n, hn⟩ := exHid d1.length;have hqn : q < n := by rw [← hn.out]; exact hq
   have hnl : n ≤ 1099511627776 := by rw [← hn.out]; exact hlen1
   have hnd : Hid (d.length = n) := by show d.length = n; rw [← hn.out, hperm.length_eq]
   replace hperm := Lib.hid hperm;replace hon := Lib.hid hon;replace hDn := Lib.hid hDn;go_wp2
   go_loopw [4, 5] (fun fv bv wi => ∃ (f below : Nat), fv = .int .i64 f ∧ bv = .int .i64 below ∧ 2 * q + 1 ≤ below ∧ below ≤ 2 * q + 3 ∧ FirstOf d1 q below f ∧ HeapAt wi b bm sv d1 p ∧ Only (fun k => k = bm ∨ sv.ownBlock = some k) w wi) (fun _ bv _ => 2 * q + 3 - (intOf bv).toNat)
   case atStart => exact ⟨q, 2 * q + 1, rfl, val_int (by omega), by omega, by omega, first_start hq, hH, hon.out⟩
   case round =>
     obtain ⟨f, below, rfl, rfl, hb1, hb2, hF, hHi, hoi⟩ := hrel;have hfn : f < n := by rw [← hn.out]; exact hF.1
     obtain ⟨a, cap, hsv, hnc, hcm⟩ := ownsRow_shape hHi.row;have c0 := hHi.c0;rw [hsv, hn.out] at c0;rw [hn.out] at hnc;replace hsv := Lib.hid hsv;by_cases hc : below ≤ 2 * q + 2 ∧ below < n
     · obtain ⟨hc1, hc2⟩ := hc
       have hbd : below < d1.length := by rw [hn.out]; exact hc2
       have hc3 : (below : Int) ≤ 2 * (q : Int) + 2 := by omega
       cases hl : aheadB (at_ d1 below) (at_ d1 f)
       · have F' := Lib.hid (first_no hF ((aheadB_false _ _).1 hl))
         replace hF := Lib.hid hF;replace hl := Lib.hid hl;replace hoi := Lib.hid hoi;go_wp2_with (go_at_call 84; refine (ahead_at hHi (a := below) (c := f) rfl rfl hbd hF.out.1 hl.out).mono ?_; rintro e w1 ⟨rfl, hH1, hb⟩)
         go_roundw
         case rel => exact ⟨f, below + 1, rfl, val_int (by omega), by omega, by omega, F'.out, hH1, hoi.out.then (Only.of_below hb)⟩
         case measure => simp [intOf]; omega
       · have F' := Lib.hid (first_yes hF hbd hb1 hc1 ((aheadB_iff _ _).1 hl))
         replace hF := Lib.hid hF;replace hl := Lib.hid hl;replace hoi := Lib.hid hoi;go_wp2_with (go_at_call 84; refine (ahead_at hHi (a := below) (c := f) rfl rfl hbd hF.out.1 hl.out).mono ?_; rintro e w1 ⟨rfl, hH1, hb⟩)
         go_roundw
         case rel => exact ⟨below, below + 1, rfl, val_int (by omega), by omega, by omega, F'.out, hH1, hoi.out.then (Only.of_below hb)⟩
         case measure => simp [intOf]; omega
     · have all := Lib.hid (first_all hF (by rw [hn.out]; omega))
       replace hoi := Lib.hid hoi;have stop : ∀ (Q : Prop), (∀ (hx : ¬ (below : Int) ≤ 2 * (q : Int) + 2), Q) → (∀ (hx : (below : Int) ≤ 2 * (q : Int) + 2) (hy : ¬ below < n), Q) → Q := by
         intro Q h1 h2;by_cases hx : (below : Int) ≤ 2 * (q : Int) + 2
         · exact h2 hx (by omega)
         · exact h1 hx
       by_cases hfq : f = q
       · subst hfq
         have hp := Lib.hid (heap_of_down hDn.out all.out);replace hF := Lib.hid hF;refine stop _ (fun hx => ?_) (fun hx hy => ?_)
         all_goals
           go_wp2
           refine bodyPost_ret (results_none rfl _ _ _) rfl ?_;exact ⟨rfl, d1, hHi, hperm.out, hp.out, hoi.out⟩
       · obtain ⟨_, h1, h2, h3⟩ : f < below ∧ 0 < f ∧ (f - 1) / 2 = q ∧ lt_ T.key T.num (at_ d1 f) (at_ d1 q) := by
           rcases hF.2.1 with e | e
           · exact absurd e hfq
           · exact e
         have S := Lib.hid (down_step hq hF.1 h2 h1 hDn.out h3 all.out);have hgt : q < f := by omega
         have hne : ((f : Int) == (q : Int)) = false := by rw [beq_eq_false_iff_ne]; omega
         have hfl := hF.1;replace hF := Lib.hid hF;replace h2 := Lib.hid h2;replace h3 := Lib.hid h3;refine stop _ (fun hx => ?_) (fun hx hy => ?_)
         all_goals
           go_wp2_with (go_at_call 81; refine (swap_at hHi (a := q) (c := f) rfl rfl hq hfl).mono ?_; rintro e w2 ⟨rfl, hH2, ho⟩)
           go_roundw
           case rel => exact ⟨f, swp d1 q f, by rw [swp_length]; exact hfl, rfl, hH2, (swp_perm d1 q f hq hfl).trans hperm.out, hoi.out.then ho, S.out⟩
           case measure => rw [hnd.out]; simp [intOf]; omega
theorem settle_any {b bm p s : Nat} {sv : Value} {d : List T} {w : World} (h : HeapAt w b bm sv d p) (hs : s < d.length) (hE : Ex_ T.key T.num d s) :
   Calls Tryd.prog 82 #[.pointer (some ⟨b, 0, none⟩), .int .i64 s] w fun e w' => e = .returned (.tuple #[]) ∧ ∃ d', HeapAt w' b bm sv d' p ∧ d'.Perm d ∧ Heapy T.key T.num d' ∧ Only (fun k => k = bm ∨ sv.ownBlock = some k) w w' := by
 have R := Lib.hid (rise_any h hs hE);clear h hE;go_enter Tryd.func82, Tryd.ntmps82
 go_wp2_with (first
   | (go_at_call 79; refine R.out.mono ?_; rintro e w1 ⟨rfl, d1, hH1, hp1, hD1, ho1⟩)
   | (go_at_call 85; refine (sink_any hH1 (by rw [hp1.length_eq]; exact hs) hD1).mono ?_; rintro e w2 ⟨rfl, d2, hH2, hp2, hD2, ho2⟩))
 go_end0
 exact ⟨rfl, d2, hH2, hp2.trans hp1, hD2, ho1.then ho2⟩
end Go.Proofs.YtefijbpbenmbgaaDoor.HI
namespace Go.Proofs.YtefijbpbenmbgaaDoor.HI
open Go.RowKit
section
variable {b bm p s g n cap : Nat} {d : List T} {w w1 w2 : World}
def cutAt (d : List T) (s n : Nat) : List T := (swp d s n).take n
theorem cutAt_perm (hn : n + 1 = d.length) (hs : s < d.length) : (at_ d s :: cutAt d s n).Perm d := by
 have hll := swp_length d s n;have e : swp d s n = cutAt d s n ++ [at_ d s] := by
   apply ext_at (by unfold cutAt; rw [hll, List.length_append, List.length_take, hll]; simp; omega)
   intro i hi;rw [hll] at hi;have hc : (cutAt d s n).length = n := by unfold cutAt; rw [List.length_take, hll]; omega
   by_cases h : i < n
   · rw [at_snoc _ _ _ (by omega)]; unfold cutAt; rw [at_take _ _ _ h]
   · have : i = (cutAt d s n).length := by omega
     rw [this, at_last, hc, swp_at d s n n hs (by omega), if_pos rfl]
 have h1 := swp_perm d s n hs (by omega);rw [e] at h1;exact (List.perm_append_comm (l₁ := [at_ d s])).trans h1
theorem cutAt_length (hn : n + 1 = d.length) : (cutAt d s n).length = n := by unfold cutAt; rw [List.length_take, swp_length]; omega
theorem take_fin (h : HeapAt w1 b bm (.slice (some ⟨g, 0, none⟩) (n + 1) cap) (swp d s n) p) (hn : n + 1 = d.length) (_hs : s < d.length)
   {f : Int → Option Nat} (_hM : MapIs Tryd.prog 3 3 w1 bm f (swp d s n).length) (hpl : Pl T.num f (swp d s n))
   (M2 : MapIs Tryd.prog 3 3 w2 bm (fun y => if y = (at_ (swp d s n) n).num then none else f y) (n + 1 - if (f (at_ (swp d s n) n).num).isSome = true then 1 else 0)) (gr2 : w1.drew.grownBy w2 (some bm)) :
   (w2.heap[b]? = some (.cells #[.slice (some ⟨g, 0, none⟩) (n + 1) cap, .map (some bm), .int .i64 p] 110 (0, 0)) ∧ w2.ownsRow 0 123 3 (.slice (some ⟨g, 0, none⟩) (n + 1) cap) (n + 1) (rowOf enc (swp d s n))) ∧
   (HeapAt ((((w2.setCell ⟨g, n * 3, none⟩ (.int .i64 0)).setCell ⟨g, n * 3 + 1, none⟩ (.int .i64 0)).setCell ⟨g, n * 3 + 2, none⟩ (.int .i64 0)).setCell ⟨b, 0, none⟩ (.slice (some ⟨g, 0, none⟩) n cap)) b bm (.slice (some ⟨g, 0, none⟩) n cap) (cutAt d s n) p ∧
   Only (fun k => k = b ∨ k = bm ∨ k = g) w1 ((((w2.setCell ⟨g, n * 3, none⟩ (.int .i64 0)).setCell ⟨g, n * 3 + 1, none⟩ (.int .i64 0)).setCell ⟨g, n * 3 + 2, none⟩ (.int .i64 0)).setCell ⟨b, 0, none⟩ (.slice (some ⟨g, 0, none⟩) n cap))) := by
 obtain ⟨hgb, hgm⟩ := h.g_ne (g := g) rfl;have hbm := h.bm_ne;have hll : (swp d s n).length = n + 1 := by rw [swp_length, hn]
 have O2 := only_map gr2;have st2 := (O2.block b h.lt (fun e => hbm e.symm)).trans h.st;have hrow := h.row;rw [hll] at hrow;have row2 := ownsRow_only hrow O2 (fun g' hg' e => by injection hg' with hg'; exact hgm (hg'.trans e));refine ⟨⟨st2, row2⟩, ?_, ?_⟩
 · have r1 := row_store row2 (i := n) (by omega) ⟨0, 0, 0⟩
   dsimp only at r1;have r2 := ownsRow_cut r1 (m := n) (by omega);rw [rowOf_take enc_len _ n (by simp; omega)] at r2;have e1 : ((swp d s n).set n ⟨0, 0, 0⟩).take n = cutAt d s n := by
     unfold cutAt
     apply ext_at (by simp)
     intro i hi;have hi' : i < n := by simp at hi; omega
     rw [at_take _ _ _ hi', at_take _ _ _ hi', at_set _ _ _ _ (by omega), if_neg (by omega)]
   rw [e1] at r2;have hcl := cutAt_length (s := s) hn;have key : ∀ (W : World) (j : Nat) (u : Value) (k : Nat), k ≠ g → (W.setCell ⟨g, j, none⟩ u).heap[k]? = W.heap[k]? := fun W j u k hk => Below.heap_setCell W ⟨g, j, none⟩ u k hk;generalize hW : ((w2.setCell ⟨g, n * 3, none⟩ (.int .i64 0)).setCell ⟨g, n * 3 + 1, none⟩ (.int .i64 0)).setCell ⟨g, n * 3 + 2, none⟩ (.int .i64 0) = W at r2 ⊢;have hWk : ∀ k, k ≠ g → W.heap[k]? = w2.heap[k]? := fun k hk => by rw [← hW, key _ _ _ _ hk, key _ _ _ _ hk, key _ _ _ _ hk]
   have stW := (hWk b (fun e => hgb e.symm)).trans st2;refine ⟨?_, ?_, ⟨_, ?_, hpl.cut (by omega)⟩, ?_, ?_, h.lim⟩
   · have := heap_setCell_same W b 0 _ _ (.slice (some ⟨g, 0, none⟩) n cap) stW
     simpa using this
   · rw [hcl]
     refine ⟨r2.1, ?_⟩;rcases r2.2 with h' | ⟨g', cap', cur, hv, hb0, hg', rest⟩
     · exact .inl h'
     · refine .inr ⟨g', cap', cur, hv, hb0, ?_, rest⟩
       have : g' = g := by simp at hv; exact hv.1.symm
       rw [Below.heap_setCell _ _ _ _ (by rw [this]; exact hgb)];exact hg'
   · have hfs : (f (at_ (swp d s n) n).num).isSome = true := by rw [hpl.1 n (by omega)]; rfl
     rw [hfs] at M2;show MapIs _ _ _ _ _ _ (cutAt d s n).length
     rw [hcl];refine MapIs.kept (F := fun k => k = g ∨ k = b) M2 ⟨?_, ?_, ?_, ?_, fun k _ hk => ?_⟩ (by rintro (e | e); exact hgm e.symm; exact hbm e)
     · rw [← hW]; rfl
     · rw [← hW]; rfl
     · rw [← hW]; rfl
     · rw [← hW]; simp [World.setCell]
     · rw [Below.heap_setCell _ _ _ _ (fun e => hk (.inr e)), hWk k (fun e => hk (.inl e))]
   · intro i hi
     rw [hcl] at hi;unfold cutAt;rw [at_take _ _ _ hi];exact h.num i (by omega)
   · rw [hcl]; have := h.len; omega
 · have O2' : Only (fun k => k = b ∨ k = bm ∨ k = g) w1 w2 := O2.mono (fun k _ e => .inr (.inl e))
   have key : ∀ (W : World) (j : Nat) (u : Value), Only (fun k => k = b ∨ k = bm ∨ k = g) w1 W → Only (fun k => k = b ∨ k = bm ∨ k = g) w1 (W.setCell ⟨g, j, none⟩ u) := fun W j u ho => ho.setCell (p := ⟨g, j, none⟩) (.inl (.inr (.inr rfl))) u;have key2 : ∀ (W : World) (j : Nat) (u : Value), Only (fun k => k = b ∨ k = bm ∨ k = g) w1 W → Only (fun k => k = b ∨ k = bm ∨ k = g) w1 (W.setCell ⟨b, j, none⟩ u) := fun W j u ho => ho.setCell (p := ⟨b, j, none⟩) (.inl (.inl rfl)) u;exact key2 _ _ _ (key _ _ _ (key _ _ _ (key _ _ _ O2')))
end
end Go.Proofs.YtefijbpbenmbgaaDoor.HI
namespace Go.Proofs.YtefijbpbenmbgaaDoor.HI
open Go.RowKit
set_option maxRecDepth 100000 in
set_option maxHeartbeats 2000000 in
theorem take_any {b bm p s : Nat} {sv : Value} {d : List T} {w : World} (h : HeapAt w b bm sv d p) (hs : s < d.length) (hH : Heapy T.key T.num d) :
   Calls Tryd.prog 67 #[.pointer (some ⟨b, 0, none⟩), .int .i64 s] w fun e w' => e = .returned (.tuple #[]) ∧ ∃ d' sv', HeapAt w' b bm sv' d' p ∧ (at_ d s :: d').Perm d ∧ Heapy T.key T.num d' ∧ sv'.ownBlock = sv.ownBlock ∧ Only (Foot b bm sv) w w' := by
 obtain ⟨g, cap, rfl, _, hgl, hn, hcm, _⟩ := ownsRow_head h.row (by omega);obtain ⟨n, hn1⟩ : ∃ n, n + 1 = d.length := ⟨d.length - 1, by omega⟩;rw [← hn1] at h ⊢ hn;have c0 := h.c0;have hlim : n + 1 ≤ 1099511627776 := by rw [hn1]; exact Nat.le_trans h.len h.lim
 have hsn : s < n + 1 := by omega
 have hnd : n < d.length := by omega
 have hlt : (n : Int) < (n : Int) + 1 := by omega
 have hcap : (n : Int) ≤ cap := by omega
 have hperm := Lib.hid (cutAt_perm hn1 hs);have hcl := Lib.hid (cutAt_length (s := s) hn1);have hex : s < n → Ex_ T.key T.num (cutAt d s n) s := fun hsl => ex_cut hn1 hsl hH;have hcut : s = n → Heapy T.key T.num (cutAt d s n) := fun e => by
   subst e;unfold cutAt;rw [swp_same d s hs];exact heap_cut hH hn1
 replace hex := Lib.hid hex;replace hcut := Lib.hid hcut;replace h := Lib.hid h;replace hn1 := Lib.hid hn1;clear hH;go_enter Tryd.func67, Tryd.ntmps67
 go_wp2_with (first
   | (go_at_call 81; refine (swap_at h.out (a := s) (c := n) rfl (by omega) hs hnd).mono ?_; rintro e w1 ⟨rfl, hH1, ho1⟩))
 have hll : (swp d s n).length = n + 1 := by rw [swp_length, hn1.out]
 have hrow1 := hH1.row;rw [hll] at hrow1;obtain ⟨_, x1, _⟩ := row_cells hrow1 hll.symm (i := n) (by omega);have y0 := hH1.c0;have y1 := hH1.c1;replace hll := Lib.hid hll;replace hrow1 := Lib.hid hrow1;obtain ⟨f, M1, hpl⟩ := hH1.map;have hnn := hH1.i64n n (by rw [hll.out]; omega);have tf := fun w2 => take_fin (w2 := w2) hH1 hn1.out hs M1 hpl
 replace tf := Lib.hid tf;have M1' := M1.drew;rw [hll.out] at M1';replace M1' := Lib.hid M1';clear M1 hpl;have hbm := hH1.bm_ne;obtain ⟨hgb, hgm⟩ := hH1.g_ne (g := g) rfl;have hb1 := hH1.lt;have hg1 := hH1.ltg (g := g) rfl;clear hH1;obtain ⟨nn, hnu⟩ : ∃ nn, (at_ (swp d s n) n).num = nn := ⟨_, rfl⟩;rw [hnu] at x1 hnn;replace hnu := Lib.hid hnu;go_region_held3 (fun w' => w'.cell? ⟨b, 0, none⟩ = some (.slice (some ⟨g, 0, none⟩) (n + 1) cap) ∧ w'.cell? ⟨b, 1, none⟩ = some (.map (some bm)) ∧ w'.cell? ⟨g, n * 3 + 1, none⟩ = some (.int .i64 nn))
   (first
     | exact ⟨y0, y1, x1⟩
     | exact hold)
   ((refine step_delete_f rfl (.tmp 18) (.tmp 26) 107 3 3 rfl Tryd.underlying3 Tryd.underlying107 bm (n + 1) f M1'.out nn rfl rfl hnn ?_; intro w2 M2 gr2; have hold : w2.cell? ⟨b, 0, none⟩ = some (.slice (some ⟨g, 0, none⟩) (n + 1) cap) ∧ w2.cell? ⟨b, 1, none⟩ = some (.map (some bm)) ∧ w2.cell? ⟨g, n * 3 + 1, none⟩ = some (.int .i64 nn) := (⟨((only_map gr2).cell (p := ⟨b, 0, none⟩) hb1 (fun e => hbm e.symm)).trans y0, ((only_map gr2).cell (p := ⟨b, 1, none⟩) hb1 (fun e => hbm e.symm)).trans y1, ((only_map gr2).cell (p := ⟨g, n * 3 + 1, none⟩) hg1 hgm).trans x1⟩)))
 rw [← hnu.out] at M2;obtain ⟨⟨st2, row2⟩, F1, F2⟩ := tf.out w2 M2 gr2;have z0 : w2.cell? ⟨b, 0, none⟩ = some (.slice (some ⟨g, 0, none⟩) (n + 1) cap) := hold.1;obtain ⟨u0, u1, u2⟩ := row_cells row2 hll.out.symm (i := n) (by rw [hll.out]; omega);have f0 := row2.frozenAt (n * 3);have f1 := row2.frozenAt (n * 3 + 1);have f2 := row2.frozenAt (n * 3 + 2);have f3 : w2.frozen? ⟨b, 0, none⟩ = false := by simp [World.frozen?, st2]
 generalize (at_ (swp d s n) n).key = kk at u0;generalize (at_ (swp d s n) n).num = ku at u1;generalize (at_ (swp d s n) n).v = kv at u2;replace F1 := Lib.hid F1;replace F2 := Lib.hid (ho1.trans F2 (K := Foot b bm (.slice (some ⟨g, 0, none⟩) (n + 1) cap)) (fun k _ e => .inr e) (fun k _ e => by rcases e with e | e | e; exact .inl e; exact .inr (.inl e); exact .inr (.inr (by rw [e]; rfl))));clear M2 gr2 hold st2 row2 y0 y1 x1 ho1 c0;have hgb' : ¬ b = g := fun e => hgb e.symm
 by_cases hsl : s < n
 · have hE := Lib.hid (hex.out hsl)
   go_wp2_with (go_at_call 82; refine (settle_any F1.out (s := s) (by rw [hcl.out]; exact hsl) hE.out).mono ?_; rintro e w3 ⟨rfl, d3, hH3, hp3, hD3, ho3⟩)
   go_end0
   exact ⟨rfl, d3, _, hH3, (hp3.cons _).trans hperm.out, hD3, rfl, F2.out.trans ho3 (fun k _ e => e) (fun k _ e => by rcases e with e | e; exact .inr (.inl e); exact .inr (.inr e))⟩
 · have hsn2 : s = n := by omega
   have hE := Lib.hid (hcut.out hsn2);go_wp2
   go_end0
   exact ⟨rfl, _, _, F1.out, hperm.out, hE.out, rfl, F2.out⟩
end Go.Proofs.YtefijbpbenmbgaaDoor.HI
namespace Go.Proofs.YtefijbpbenmbgaaDoor.HI
open Go.RowKit
theorem results_four {fn : Func} {t u v x : Tmp} (h : fn.results = #[.tmp t, .tmp u, .tmp v, .tmp x]) (tmps : Array Value) (P : Program) (w : World) :
   (results fn tmps).run P w = .ok (.tuple #[tmps.getD t undef, tmps.getD u undef, tmps.getD v undef, tmps.getD x undef]) w := by
 simp [results, h]
theorem below_drewN {B n : Nat} {a w : World} (h : Below B a w) : Below B a (w.drewN n) := ⟨h.os, h.tape, h.output, h.size, h.block⟩
theorem HeapAt.drewN {b bm p : Nat} {sv : Value} {d : List T} {w : World} (h : HeapAt w b bm sv d p) (n : Nat) : HeapAt (w.drewN n) b bm sv d p := ⟨h.st, h.row, h.map, h.num, h.len, h.lim⟩
theorem only_drewN {F : Nat → Prop} {w w' : World} {n : Nat} (h : Only F (w.drewN n) w') : Only F w w' := ⟨h.os, h.tape, h.output, h.size, h.block⟩
set_option maxHeartbeats 400000 in
theorem peek_none {b bm p : Nat} {sv : Value} {d : List T} {w : World} (h : HeapAt w b bm sv d p) (h0 : d.length = 0) :
   Calls Tryd.prog 66 #[.pointer (some ⟨b, 0, none⟩)] w fun e w' => e = .returned (.tuple #[.int .i64 0, .int .i64 0, .int .i64 0, .bool false]) ∧ w = w' := by
 have L := len_any h;rw [h0] at L;replace L := Lib.hid L;clear h h0;go_enter Tryd.func66, Tryd.ntmps66
 go_wp2_with (go_at_call 80; refine L.out.mono ?_; rintro e w' ⟨rfl, rfl⟩)
 refine bodyPost_ret (results_four rfl _ _ _) rfl ?_;exact ⟨rfl, rfl⟩
set_option maxHeartbeats 1000000 in
theorem peek_some {b bm p : Nat} {sv : Value} {d : List T} {w : World} (h : HeapAt w b bm sv d p) (h0 : 0 < d.length) :
   Calls Tryd.prog 66 #[.pointer (some ⟨b, 0, none⟩)] w fun e w' => e = .returned (.tuple #[.int .i64 (at_ d 0).key, .int .i64 (at_ d 0).v, .int .i64 (at_ d 0).num, .bool true]) ∧ Below w.heap.size w w' := by
 have L := len_any h;obtain ⟨g, cap, rfl, _, hgl, hn, hcm, _⟩ := ownsRow_head h.row (by omega);have c0 := h.c0;obtain ⟨a0, a1, a2⟩ := row_cells h.row rfl h0;simp only [Nat.zero_mul, Nat.zero_add] at a0 a1 a2;have hne : ((d.length : Int) == 0) = false := by rw [beq_eq_false_iff_ne]; omega
 generalize (at_ d 0).key = kk at a0 ⊢;generalize (at_ d 0).num = ku at a1 ⊢;generalize (at_ d 0).v = kv at a2 ⊢;generalize d.length = n at *;have hi1 : (0 : Int) < n := by omega
 replace L := Lib.hid L;clear h;go_enter Tryd.func66, Tryd.ntmps66
 go_wp2_with (go_at_call 80; refine L.out.mono ?_; rintro e w' ⟨rfl, rfl⟩)
 go_quiet (fail)
 go_wp2
 refine bodyPost_ret (results_four rfl _ _ _) rfl ?_;exact ⟨rfl, below_drewN ((Below.refl _ _).alloc (Nat.le_refl _) _)⟩
set_option maxHeartbeats 400000 in
theorem pop_none {b bm p : Nat} {sv : Value} {d : List T} {w : World} (h : HeapAt w b bm sv d p) (h0 : d.length = 0) :
   Calls Tryd.prog 47 #[.pointer (some ⟨b, 0, none⟩)] w fun e w' => e = .returned (.tuple #[.int .i64 0, .int .i64 0, .int .i64 0, .bool false]) ∧ w = w' := by
 have L := Lib.hid (peek_none h h0);clear h h0;go_enter Tryd.func47, Tryd.ntmps47
 go_wp2_with (go_at_call 66; refine L.out.mono ?_; rintro e w' ⟨rfl, rfl⟩)
 refine bodyPost_ret (results_four rfl _ _ _) rfl ?_;exact ⟨rfl, rfl⟩
theorem foot_false {b bm : Nat} {sv : Value} : ∀ k, Foot b bm sv k → ¬ (fun _ : Nat => False) k := fun _ _ h => h
set_option maxHeartbeats 400000 in
theorem pop_some {b bm p : Nat} {sv : Value} {d : List T} {w : World} (h : HeapAt w b bm sv d p) (hH : Heapy T.key T.num d) (h0 : 0 < d.length) :
   Calls Tryd.prog 47 #[.pointer (some ⟨b, 0, none⟩)] w fun e w' => e = .returned (.tuple #[.int .i64 (at_ d 0).key, .int .i64 (at_ d 0).v, .int .i64 (at_ d 0).num, .bool true]) ∧ ∃ d' sv', HeapAt w' b bm sv' d' p ∧ (at_ d 0 :: d').Perm d ∧ Heapy T.key T.num d' ∧ sv'.ownBlock = sv.ownBlock ∧ Only (Foot b bm sv) w w' := by
 have L := Lib.hid (peek_some h h0);have K : ∀ w1, Below w.heap.size w w1 → HeapAt w1 b bm sv d p := fun w1 hb => h.kept (F := fun _ => False) (Only.of_below hb) foot_false
 replace K := Lib.hid K;replace hH := Lib.hid hH;clear h;go_enter Tryd.func47, Tryd.ntmps47
 go_wp2_with (first
   | (go_at_call 66; refine L.out.mono ?_; rintro e w1 ⟨rfl, hb⟩)
   | (go_at_call 67; refine (take_any (K.out w1 hb) (s := 0) h0 hH.out).mono ?_; rintro e w2 ⟨rfl, d2, sv2, hH2, hp2, hD2, hs2, ho2⟩))
 refine bodyPost_ret (results_four rfl _ _ _) rfl ?_;exact ⟨rfl, d2, sv2, hH2, hp2, hD2, hs2, (Only.of_below (F := Foot b bm sv) hb).then ho2⟩
end Go.Proofs.YtefijbpbenmbgaaDoor.HI
