/- A part of the proof: JHRise, JHSink. No condition. -/
import Derived.Test.YtcabolfookofoaaGreatDoorQ30
set_option linter.unusedVariables false
set_option linter.unusedSimpArgs false
namespace Go.Proofs.YtcabolfookofoaaGreatDoor.HI
open Go.RowKit
theorem swap_at {b bm p a c : Nat} {sv : Value} {d : List T} {w : World} (h : HeapAt w b bm sv d p) {x y : Int} (hx : x = a) (hy : y = c) (ha : a < d.length) (hc : c < d.length) :
   Calls Tryz.prog 126 #[.pointer (some ⟨b, 0, none⟩), .int .i64 x, .int .i64 y] w fun e w' => e = .returned (.tuple #[]) ∧ HeapAt w' b bm sv (swp d a c) p ∧ Only (fun k => k = bm ∨ sv.ownBlock = some k) w w' := by
 subst hx; subst hy;exact swap_any h ha hc
theorem val_int {k : IntKind} {a b : Int} (h : a = b) : Value.int k a = .int k b := by rw [h]
set_option maxHeartbeats 1000000 in
theorem rise_any {b bm p s : Nat} {sv : Value} {d : List T} {w : World} (h : HeapAt w b bm sv d p) (hs : s < d.length) (hE : Ex_ T.key T.num d s) :
   Calls Tryz.prog 124 #[.pointer (some ⟨b, 0, none⟩), .int .i64 s] w fun e w' => e = .returned (.tuple #[]) ∧ ∃ d', HeapAt w' b bm sv d' p ∧ d'.Perm d ∧ Down_ T.key T.num d' s ∧ Only (fun k => k = bm ∨ sv.ownBlock = some k) w w' := by
 have hlim : d.length ≤ 1099511627776 := Nat.le_trans h.len h.lim;replace hE := Lib.hid hE;replace h := Lib.hid h;go_enter Tryz.func124, Tryz.ntmps124
 go_wp2
 go_loopw [1] (fun pl wr => ∃ (q : Nat) (d1 : List T), q < d1.length ∧ pl = .int .i64 q ∧ HeapAt wr b bm sv d1 p ∧ d1.Perm d ∧ Only (fun k => k = bm ∨ sv.ownBlock = some k) w wr ∧ Ex_ T.key T.num d1 q ∧ (q = s ∨ Up_ T.key T.num d1 q)) (fun pl _ => (intOf pl).toNat)
 case atStart => exact ⟨s, d, hs, rfl, h.out, List.Perm.refl _, Only.refl _ _, hE.out, .inl rfl⟩
 case round =>
   obtain ⟨q, d1, hq, rfl, hH, hperm, hon, hEx, hup⟩ := hrel;have hlen1 : d1.length ≤ 1099511627776 := by rw [hperm.length_eq]; exact hlim
   have hs1 : s < d1.length := by rw [hperm.length_eq]; exact hs
   have fin : (q = 0 ∨ ¬ lt_ T.key T.num (at_ d1 q) (at_ d1 ((q - 1) / 2))) → Down_ T.key T.num d1 s := by
     intro h0;rcases hup with e | e
     · rw [← e]; exact down_of_ex hEx h0
     · exact down_of_heap hs1 (heap_of_up hq e h0)
   replace fin := Lib.hid fin;replace hperm := Lib.hid hperm;replace hon := Lib.hid hon;replace hEx := Lib.hid hEx;clear hup;by_cases h0 : 0 < q
   · by_cases hl : aheadB (at_ d1 q) (at_ d1 ((q - 1) / 2)) = true
     · have U := Lib.hid (up_step h0 hq hEx.out ((aheadB_iff _ _).1 hl))
       replace hl := Lib.hid hl;go_wp2_with (first
         | (go_at_call 150; refine (ahead_at hH (a := q) (c := (q - 1) / 2) rfl (by omega) hq (by omega) hl.out).mono ?_; rintro e w1 ⟨rfl, hH1, hb⟩)
         | (go_at_call 126; refine (swap_at hH1 (a := q) (c := (q - 1) / 2) rfl (by omega) hq (by omega)).mono ?_; rintro e w2 ⟨rfl, hH2, ho⟩))
       go_roundw
       case rel =>
         exact ⟨(q - 1) / 2, swp d1 q ((q - 1) / 2), by rw [swp_length]; omega, val_int (by omega), hH2, (swp_perm d1 q ((q - 1) / 2) hq (by omega)).trans hperm.out, (hon.out.then (Only.of_below hb)).then ho, U.out.1, .inr U.out⟩
       case measure => simp [intOf]; omega
     · have hl' : aheadB (at_ d1 q) (at_ d1 ((q - 1) / 2)) = false := by simpa using hl
       have D := Lib.hid (fin.out (.inr ((aheadB_false _ _).1 hl')));clear hl;replace hl' := Lib.hid hl';go_wp2_with (first
         | (go_at_call 150; refine (ahead_at hH (a := q) (c := (q - 1) / 2) rfl (by omega) hq (by omega) hl'.out).mono ?_; rintro e w1 ⟨rfl, hH1, hb⟩))
       refine bodyPost_ret (results_none rfl _ _ _) rfl ?_;exact ⟨rfl, d1, hH1, hperm.out, D.out, hon.out.then (Only.of_below hb)⟩
   · have D := Lib.hid (fin.out (.inl (by omega)))
     have hz : ¬ (0 : Int) < q := by omega
     go_wp2
     go_end0
     exact ⟨rfl, d1, hH, hperm.out, D.out, hon.out⟩
end Go.Proofs.YtcabolfookofoaaGreatDoor.HI
namespace Go.Proofs.YtcabolfookofoaaGreatDoor.HI
open Go.RowKit
def FirstOf (d : List T) (q below f : Nat) : Prop :=
 f < d.length ∧ (f = q ∨ (f < below ∧ 0 < f ∧ (f - 1) / 2 = q ∧ lt_ T.key T.num (at_ d f) (at_ d q))) ∧ le_ T.key T.num (at_ d f) (at_ d q) ∧ ∀ i, 2 * q + 1 ≤ i → i < below → i < d.length → le_ T.key T.num (at_ d f) (at_ d i)
theorem first_start {d : List T} {q : Nat} (hq : q < d.length) : FirstOf d q (2 * q + 1) q := ⟨hq, .inl rfl, le_refl_ _, fun i h1 h2 => by omega⟩
theorem first_yes {d : List T} {q below f : Nat} (h : FirstOf d q below f) (hb : below < d.length) (h1 : 2 * q + 1 ≤ below) (h2 : below ≤ 2 * q + 2) (hl : lt_ T.key T.num (at_ d below) (at_ d f)) : FirstOf d q (below + 1) below := by
 obtain ⟨_, _, hle, hall⟩ := h;refine ⟨hb, .inr ⟨by omega, by omega, by omega, ?_⟩, le_trans_ (le_of_lt_ hl) hle, fun i h3 h4 h5 => ?_⟩
 · unfold lt_ le_ lexLt at *; unfold lt_ lexLt at hle; omega
 · by_cases e : i = below
   · subst e; exact le_refl_ _
   · exact le_trans_ (le_of_lt_ hl) (hall i h3 (by omega) h5)
theorem first_no {d : List T} {q below f : Nat} (h : FirstOf d q below f) (hl : ¬ lt_ T.key T.num (at_ d below) (at_ d f)) : FirstOf d q (below + 1) f := by
 obtain ⟨hf, hor, hle, hall⟩ := h;refine ⟨hf, ?_, hle, fun i h3 h4 h5 => ?_⟩
 · rcases hor with e | ⟨a, b, c, e⟩
   · exact .inl e
   · exact .inr ⟨by omega, b, c, e⟩
 · by_cases e : i = below
   · subst e; exact hl
   · exact hall i h3 (by omega) h5
theorem first_all {d : List T} {q below f : Nat} (h : FirstOf d q below f) (hb : 2 * q + 2 < below ∨ d.length ≤ below) : ∀ i, 0 < i → i < d.length → (i - 1) / 2 = q → le_ T.key T.num (at_ d f) (at_ d i) :=
 fun i h1 h2 h3 => h.2.2.2 i (by omega) (by omega) h2
set_option maxHeartbeats 2000000 in
theorem sink_any {b bm p s : Nat} {sv : Value} {d : List T} {w : World} (h : HeapAt w b bm sv d p) (hs : s < d.length) (hD : Down_ T.key T.num d s) :
   Calls Tryz.prog 151 #[.pointer (some ⟨b, 0, none⟩), .int .i64 s] w fun e w' => e = .returned (.tuple #[]) ∧ ∃ d', HeapAt w' b bm sv d' p ∧ d'.Perm d ∧ Heapy T.key T.num d' ∧ Only (fun k => k = bm ∨ sv.ownBlock = some k) w w' := by
 have hlim : d.length ≤ 1099511627776 := Nat.le_trans h.len h.lim;replace hD := Lib.hid hD;replace h := Lib.hid h;go_enter Tryz.func151, Tryz.ntmps151
 go_wp2
 go_loopw [1] (fun pl wr => ∃ (q : Nat) (d1 : List T), q < d1.length ∧ pl = .int .i64 q ∧ HeapAt wr b bm sv d1 p ∧ d1.Perm d ∧ Only (fun k => k = bm ∨ sv.ownBlock = some k) w wr ∧ Down_ T.key T.num d1 q) (fun pl _ => d.length - (intOf pl).toNat)
 case atStart => exact ⟨s, d, hs, rfl, h.out, List.Perm.refl _, Only.refl _ _, hD.out⟩
 case round =>
   obtain ⟨q, d1, hq, rfl, hH, hperm, hon, hDn⟩ := hrel;have hlen1 : d1.length ≤ 1099511627776 := by rw [hperm.length_eq]; exact hlim
   obtain ⟨n, hn⟩ := exHid d1.length;have hqn : q < n := by rw [← hn.out]; exact hq
   have hnl : n ≤ 1099511627776 := by rw [← hn.out]; exact hlen1
   have hnd : Hid (d.length = n) := by show d.length = n; rw [← hn.out, hperm.length_eq]
   replace hperm := Lib.hid hperm;replace hon := Lib.hid hon;replace hDn := Lib.hid hDn;go_wp2
   go_loopw [4, 5] (fun fv bv wi => ∃ (f below : Nat), fv = .int .i64 f ∧ bv = .int .i64 below ∧ 2 * q + 1 ≤ below ∧ below ≤ 2 * q + 3 ∧ FirstOf d1 q below f ∧ HeapAt wi b bm sv d1 p ∧ Only (fun k => k = bm ∨ sv.ownBlock = some k) w wi) (fun _ bv _ => 2 * q + 3 - (intOf bv).toNat)
   case atStart => exact ⟨q, 2 * q + 1, rfl, val_int (by omega), by omega, by omega, first_start hq, hH, hon.out⟩
   case round =>
     obtain ⟨f, below, rfl, rfl, hb1, hb2, hF, hHi, hoi⟩ := hrel;have hfn : f < n := by rw [← hn.out]; exact hF.1
     obtain ⟨a, cap, hsv, hnc, hcm⟩ := ownsRow_shape hHi.row;have c0 := hHi.c0;rw [hsv, hn.out] at c0;rw [hn.out] at hnc;replace hsv := Lib.hid hsv;by_cases hc : below ≤ 2 * q + 2 ∧ below < n
     · obtain ⟨hc1, hc2⟩ := hc
       have hbd : below < d1.length := by rw [hn.out]; exact hc2
       have hc3 : (below : Int) ≤ 2 * (q : Int) + 2 := by omega
       cases hl : aheadB (at_ d1 below) (at_ d1 f)
       · have F' := Lib.hid (first_no hF ((aheadB_false _ _).1 hl))
         replace hF := Lib.hid hF;replace hl := Lib.hid hl;replace hoi := Lib.hid hoi;go_wp2_with (go_at_call 150; refine (ahead_at hHi (a := below) (c := f) rfl rfl hbd hF.out.1 hl.out).mono ?_; rintro e w1 ⟨rfl, hH1, hb⟩)
         go_roundw
         case rel => exact ⟨f, below + 1, rfl, val_int (by omega), by omega, by omega, F'.out, hH1, hoi.out.then (Only.of_below hb)⟩
         case measure => simp [intOf]; omega
       · have F' := Lib.hid (first_yes hF hbd hb1 hc1 ((aheadB_iff _ _).1 hl))
         replace hF := Lib.hid hF;replace hl := Lib.hid hl;replace hoi := Lib.hid hoi;go_wp2_with (go_at_call 150; refine (ahead_at hHi (a := below) (c := f) rfl rfl hbd hF.out.1 hl.out).mono ?_; rintro e w1 ⟨rfl, hH1, hb⟩)
         go_roundw
         case rel => exact ⟨below, below + 1, rfl, val_int (by omega), by omega, by omega, F'.out, hH1, hoi.out.then (Only.of_below hb)⟩
         case measure => simp [intOf]; omega
     · have all := Lib.hid (first_all hF (by rw [hn.out]; omega))
       replace hoi := Lib.hid hoi;have stop : ∀ (Q : Prop), (∀ (hx : ¬ (below : Int) ≤ 2 * (q : Int) + 2), Q) → (∀ (hx : (below : Int) ≤ 2 * (q : Int) + 2) (hy : ¬ below < n), Q) → Q := by
         intro Q h1 h2;by_cases hx : (below : Int) ≤ 2 * (q : Int) + 2
         · exact h2 hx (by omega)
         · exact h1 hx
       by_cases hfq : f = q
       · subst hfq
         have hp := Lib.hid (heap_of_down hDn.out all.out);replace hF := Lib.hid hF;refine stop _ (fun hx => ?_) (fun hx hy => ?_)
         all_goals
           go_wp2
           refine bodyPost_ret (results_none rfl _ _ _) rfl ?_;exact ⟨rfl, d1, hHi, hperm.out, hp.out, hoi.out⟩
       · obtain ⟨_, h1, h2, h3⟩ : f < below ∧ 0 < f ∧ (f - 1) / 2 = q ∧ lt_ T.key T.num (at_ d1 f) (at_ d1 q) := by
           rcases hF.2.1 with e | e
           · exact absurd e hfq
           · exact e
         have S := Lib.hid (down_step hq hF.1 h2 h1 hDn.out h3 all.out);have hgt : q < f := by omega
         have hne : ((f : Int) == (q : Int)) = false := by rw [beq_eq_false_iff_ne]; omega
         have hfl := hF.1;replace hF := Lib.hid hF;replace h2 := Lib.hid h2;replace h3 := Lib.hid h3;refine stop _ (fun hx => ?_) (fun hx hy => ?_)
         all_goals
           go_wp2_with (go_at_call 126; refine (swap_at hHi (a := q) (c := f) rfl rfl hq hfl).mono ?_; rintro e w2 ⟨rfl, hH2, ho⟩)
           go_roundw
           case rel => exact ⟨f, swp d1 q f, by rw [swp_length]; exact hfl, rfl, hH2, (swp_perm d1 q f hq hfl).trans hperm.out, hoi.out.then ho, S.out⟩
           case measure => rw [hnd.out]; simp [intOf]; omega
theorem settle_any {b bm p s : Nat} {sv : Value} {d : List T} {w : World} (h : HeapAt w b bm sv d p) (hs : s < d.length) (hE : Ex_ T.key T.num d s) :
   Calls Tryz.prog 127 #[.pointer (some ⟨b, 0, none⟩), .int .i64 s] w fun e w' => e = .returned (.tuple #[]) ∧ ∃ d', HeapAt w' b bm sv d' p ∧ d'.Perm d ∧ Heapy T.key T.num d' ∧ Only (fun k => k = bm ∨ sv.ownBlock = some k) w w' := by
 have R := Lib.hid (rise_any h hs hE);clear h hE;go_enter Tryz.func127, Tryz.ntmps127
 go_wp2_with (first
   | (go_at_call 124; refine R.out.mono ?_; rintro e w1 ⟨rfl, d1, hH1, hp1, hD1, ho1⟩)
   | (go_at_call 151; refine (sink_any hH1 (by rw [hp1.length_eq]; exact hs) hD1).mono ?_; rintro e w2 ⟨rfl, d2, hH2, hp2, hD2, ho2⟩))
 go_end0
 exact ⟨rfl, d2, hH2, hp2.trans hp1, hD2, ho1.then ho2⟩
end Go.Proofs.YtcabolfookofoaaGreatDoor.HI
