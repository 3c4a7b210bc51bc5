/- The contract of a heap's rise. -/
import Derived.Test.YtlhabgfgoainlaaDoorJHSwap
import Derived.Test.YtlhabgfgoainlaaDoorJHAhead
namespace Go.Proofs.YtlhabgfgoainlaaDoor.HI
open Go.RowKit

/-- A swap, said of numbers. -/
theorem swap_at {b bm p a c : Nat} {sv : Value} {d : List T} {w : World} (h : HeapAt w b bm sv d p) {x y : Int} (hx : x = a) (hy : y = c) (ha : a < d.length) (hc : c < d.length) :
    Calls Tryd.prog 83 #[.pointer (some ⟨b, 0, none⟩), .int .i64 x, .int .i64 y] w fun e w' => e = .returned (.tuple #[]) ∧ HeapAt w' b bm sv (swp d a c) p ∧ Only (fun k => k = bm ∨ sv.ownBlock = some k) w w' := by
  subst hx; subst hy
  exact swap_any h ha hc

theorem val_int {k : IntKind} {a b : Int} (h : a = b) : Value.int k a = .int k b := by rw [h]

set_option maxHeartbeats 1000000 in
theorem rise_any {b bm p s : Nat} {sv : Value} {d : List T} {w : World} (h : HeapAt w b bm sv d p) (hs : s < d.length) (hE : Ex_ T.key T.num d s) :
    Calls Tryd.prog 81 #[.pointer (some ⟨b, 0, none⟩), .int .i64 s] w fun e w' => e = .returned (.tuple #[]) ∧ ∃ d', HeapAt w' b bm sv d' p ∧ d'.Perm d ∧ Down_ T.key T.num d' s ∧ Only (fun k => k = bm ∨ sv.ownBlock = some k) w w' := by
  have hlim : d.length ≤ 1099511627776 := Nat.le_trans h.len h.lim
  replace hE := Lib.hid hE
  replace h := Lib.hid h
  go_enter Tryd.func81, Tryd.ntmps81
  go_wp2
  go_loopw [1] (fun pl wr => ∃ (q : Nat) (d1 : List T), q < d1.length ∧ pl = .int .i64 q ∧ HeapAt wr b bm sv d1 p ∧ d1.Perm d ∧ Only (fun k => k = bm ∨ sv.ownBlock = some k) w wr ∧ Ex_ T.key T.num d1 q ∧ (q = s ∨ Up_ T.key T.num d1 q)) (fun pl _ => (intOf pl).toNat)
  case atStart => exact ⟨s, d, hs, rfl, h.out, List.Perm.refl _, Only.refl _ _, hE.out, .inl rfl⟩
  case round =>
    obtain ⟨q, d1, hq, rfl, hH, hperm, hon, hEx, hup⟩ := hrel
    have hlen1 : d1.length ≤ 1099511627776 := by rw [hperm.length_eq]; exact hlim
    have hs1 : s < d1.length := by rw [hperm.length_eq]; exact hs
    have fin : (q = 0 ∨ ¬ lt_ T.key T.num (at_ d1 q) (at_ d1 ((q - 1) / 2))) → Down_ T.key T.num d1 s := by
      intro h0
      rcases hup with e | e
      · rw [← e]; exact down_of_ex hEx h0
      · exact down_of_heap hs1 (heap_of_up hq e h0)
    replace fin := Lib.hid fin
    replace hperm := Lib.hid hperm
    replace hon := Lib.hid hon
    replace hEx := Lib.hid hEx
    clear hup
    by_cases h0 : 0 < q
    · by_cases hl : aheadB (at_ d1 q) (at_ d1 ((q - 1) / 2)) = true
      · have U := Lib.hid (up_step h0 hq hEx.out ((aheadB_iff _ _).1 hl))
        replace hl := Lib.hid hl
        go_wp2_with (first
          | (go_at_call 90; refine (ahead_at hH (a := q) (c := (q - 1) / 2) rfl (by omega) hq (by omega) hl.out).mono ?_; rintro e w1 ⟨rfl, hH1, hb⟩)
          | (go_at_call 83; refine (swap_at hH1 (a := q) (c := (q - 1) / 2) rfl (by omega) hq (by omega)).mono ?_; rintro e w2 ⟨rfl, hH2, ho⟩))
        go_roundw
        case rel =>
          exact ⟨(q - 1) / 2, swp d1 q ((q - 1) / 2), by rw [swp_length]; omega, val_int (by omega), hH2, (swp_perm d1 q ((q - 1) / 2) hq (by omega)).trans hperm.out, (hon.out.then (Only.of_below hb)).then ho, U.out.1, .inr U.out⟩
        case measure => simp [intOf]; omega
      · have hl' : aheadB (at_ d1 q) (at_ d1 ((q - 1) / 2)) = false := by simpa using hl
        have D := Lib.hid (fin.out (.inr ((aheadB_false _ _).1 hl')))
        clear hl
        replace hl' := Lib.hid hl'
        go_wp2_with (first
          | (go_at_call 90; refine (ahead_at hH (a := q) (c := (q - 1) / 2) rfl (by omega) hq (by omega) hl'.out).mono ?_; rintro e w1 ⟨rfl, hH1, hb⟩))
        refine bodyPost_ret (results_none rfl _ _ _) rfl ?_
        exact ⟨rfl, d1, hH1, hperm.out, D.out, hon.out.then (Only.of_below hb)⟩
    · have D := Lib.hid (fin.out (.inl (by omega)))
      have hz : ¬ (0 : Int) < q := by omega
      go_wp2
      go_end0
      exact ⟨rfl, d1, hH, hperm.out, D.out, hon.out⟩
end Go.Proofs.YtlhabgfgoainlaaDoor.HI
