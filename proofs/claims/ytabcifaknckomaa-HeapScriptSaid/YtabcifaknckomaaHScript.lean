/- The walk of HeapScript: it answers true for every list of steps. -/
import Derived.Test.YtabcifaknckomaaHAwake
import Derived.Test.YtabcifaknckomaaTwo2
import Derived.Test.YtabcifaknckomaaSteps
import Derived.Deep.CutRange
import Derived.Deep.DeepCutAuto
import Derived.Deep.CutBlock
import Derived.BigQuiet
namespace Go.Proofs.Ytabcifaknckomaa
open Go.RowKit HI RF

set_option maxRecDepth 100000 in
set_option maxHeartbeats 1000000 in
theorem script_long (a0 : Option Addr) (l0 c0 : Nat) (w : World) (h : 120 < l0) :
    Calls Try.prog 3 #[.slice a0 l0 c0] w fun e w' => e = .returned (.bool true) ∧ Below w.heap.size w w' := by
  have e1 : (120 : Int) < l0 := by omega
  go_enter Try.func3, Try.ntmps3
  go_wp2_with (go_at_call 7; refine (awake_any _).mono ?_; rintro e w1 ⟨rfl, hb1⟩)
  go_ret
  exact ⟨rfl, hb1⟩

/-- What both heaps hold after k steps. -/
def Both (w0 w : World) (r k : Nat) (h : Value) : Prop :=
  ∃ (hb p : Nat) (L R : List T), h = .pointer (some ⟨hb, 0, none⟩) ∧ Duo (fun _ => False) (fun _ => none) w0 w hb L p r R p ∧ L.Perm R ∧ Rising R ∧ p ≤ k

set_option maxRecDepth 100000 in
set_option maxHeartbeats 8000000 in
theorem script_main (a0 : Option Addr) (l0 c0 : Nat) (D K N : Nat → Int) (w : World) (h120 : l0 ≤ 120)
    (hwf : ∀ j, j < l0 → (Lit.int .u8 (D j)).wf = true ∧ (Lit.int .i64 (K j)).wf = true ∧ (Lit.int .i64 (N j)).wf = true)
    (hz : 0 < l0 → ∃ b off, a0 = some ⟨b, off, none⟩ ∧ b < w.heap.size ∧ ∀ j, j < l0 → w.cell? ⟨b, off + j * 3, none⟩ = some (.int .u8 (D j)) ∧ w.cell? ⟨b, off + j * 3 + 1, none⟩ = some (.int .i64 (K j)) ∧ w.cell? ⟨b, off + j * 3 + 2, none⟩ = some (.int .i64 (N j))) :
    Calls Try.prog 3 #[.slice a0 l0 c0] w fun e w' => e = .returned (.bool true) ∧ Below w.heap.size w w' := by
  have e1 : ¬ (120 : Int) < l0 := by omega
  replace hz := Lib.hid hz
  replace hwf := Lib.hid hwf
  go_enter Try.func3, Try.ntmps3
  go_wp2_with fail
  refine (awake_any _).mono ?_
  rintro e w1 ⟨rfl, hb1⟩
  go_wp2_with fail
  refine (hp_new w1).mono ?_
  rintro e w2 ⟨hb0, rfl, hH2, hb2⟩
  have hS := ref_start hb1 hH2 hb2
  clear hb1 hH2 hb2
  go_wp2
  generalize hr0 : w2.heap.size = rb at hS ⊢
  generalize w2.alloc (.cells #[.slice none 0 0, .int .i64 0] 29) = w3 at hS ⊢
  clear hr0
  go_loopw [3, 5] (fun h i wr => ∃ k : Nat, k ≤ l0 ∧ i = .int .i64 k ∧ Both w wr rb k h) (fun _ i _ => l0 - (intOf i).toNat)
  case atStart => exact ⟨0, Nat.zero_le _, rfl, _, 0, [], [], rfl, hS, List.Perm.refl _, List.Pairwise.nil, Nat.le_refl _⟩
  case round =>
    obtain ⟨k, hk, rfl, hb, p, L, R, rfl, hD, hp, hr, hpk⟩ := hrel
    clear hS
    replace hp := Lib.hid hp
    replace hr := Lib.hid hr
    by_cases hlt : k < l0
    · have hkl : (k : Int) < l0 := by omega
      obtain ⟨xb, xo, rfl, _, hxc⟩ := hz.out (by omega)
      obtain ⟨c0', c1', c2'⟩ := hxc k hlt
      have x0 := Below.keeps hD.left c0'
      have x1 := Below.keeps hD.left c1'
      have x2 := Below.keeps hD.left c2'
      obtain ⟨wf0, wf1, wf2⟩ := hwf.out k hlt
      obtain ⟨dv, hdv⟩ := exHid (D k)
      obtain ⟨kv, hkv⟩ := exHid (K k)
      obtain ⟨nv, hnv⟩ := exHid (N k)
      rw [hdv.out] at x0 wf0
      rw [hkv.out] at x1 wf1
      rw [hnv.out] at x2 wf2
      have hnI : I64 nv := i64_of_wf wf2
      replace hxc := Lib.hid hxc
      replace hnI := Lib.hid hnI
      clear c0' c1' c2' wf0 wf1 wf2 hdv hkv hnv
      go_upto_block 2 with fail
      have hW := hD.ward (.cells #[.int .u8 dv, .int .i64 kv, .int .i64 nv] 31)
      have hbx : (fun q => q = wr.heap.size) wr.heap.size := rfl
      generalize hgx : wr.heap.size = bx at *
      generalize hgw : wr.alloc (.cells #[.int .u8 dv, .int .i64 kv, .int .i64 nv] 31) = wx at *
      clear hgx hgw hbx hD x0 x1 x2
      go_cut [3, 7, 8, 9, 10, 11, 12, 13, 14, 15, 16, 17, 18, 19] from 34 to 194 (fun h _ _ _ _ _ _ _ _ _ _ _ _ _ wc => Both w wc rb (k + 1) h)
      case first =>
        obtain ⟨hnum, hun, hnd, hLp⟩ := hW.nums
        have hRl := hp.out.length_eq
        obtain ⟨y0, y1, y2⟩ := cells3 (hW.there rfl)
        replace hnum := Lib.hid hnum
        replace hun := Lib.hid hun
        replace hnd := Lib.hid hnd
        replace hRl := Lib.hid hRl
        by_cases d0 : dv = 0
        · as_aux_lemma =>
            subst d0
            have hPu := d_push hW (by omega) kv nv
            replace hPu := Lib.hid hPu
            go_wp2_with (first
              | (go_at_call 9; refine hPu.out.mono ?_; rintro e w5 ⟨rfl, hW5⟩; obtain ⟨z0, z1, z2⟩ := cells3 (hW5.there rfl))
              | (go_at_call 10; refine (push2 hW5 hr.out hp.out hnum.out (by omega) (by omega)).mono ?_; rintro e w6 ⟨rfl, R', hW6, hp6, hr6⟩))
            go_meet
            case rel => exact ⟨_, _, _, _, rfl, hW6.free, hp6, hr6, by omega⟩
        by_cases d1 : dv = 1
        · as_aux_lemma =>
            subst d1
            by_cases h0 : L.length = 0
            · obtain rfl : L = [] := List.eq_nil_of_length_eq_zero h0
              have hR0 : Hid (R.length = 0) := Lib.hid (by rw [← hRl.out]; exact h0)
              clear h0
              go_wp2_with (first
                | (go_at_call 11; refine (d_pop_none hW).mono ?_; rintro e w5 ⟨rfl, rfl⟩)
                | (go_at_call 12; refine (dr_pop_none hW hR0.out).mono ?_; rintro e w6 ⟨rfl, hW6⟩; unfold agT))
              go_meet
              case rel => exact ⟨_, _, _, _, rfl, (hW6.below ((Below.refl _ _).alloc (Nat.le_refl _) _)).free, hp.out, hr.out, by omega⟩
            · have h1 : Hid (0 < L.length) := Lib.hid (by omega)
              have hR1 : Hid (0 < R.length) := Lib.hid (by rw [← hRl.out]; omega)
              clear h0
              go_wp2_with (first
                | (go_at_call 11; refine (pop1 hW h1.out).mono ?_; rintro e w5 ⟨xk, xn, xv, L', rfl, hf, hpx, hW5⟩; replace hf := Lib.hid hf)
                | (go_at_call 12; refine (pop2 hW5 hr.out hp.out hun.out hR1.out hf.out hpx).mono ?_; rintro e w6 ⟨rfl, R', hW6, hp6, hr6⟩))
              go_meet
              case rel => exact ⟨_, _, _, _, rfl, (hW6.below ((Below.refl _ _).alloc (Nat.le_refl _) _)).free, hp6, hr6, by omega⟩
        by_cases d2 : dv = 2
        · as_aux_lemma =>
            subst d2
            by_cases hin : ∃ y ∈ L, y.num = nv
            · obtain ⟨⟨xk, xn, xv⟩, hy, rfl⟩ := hin
              replace hy := Lib.hid hy
              go_wp2_with (first
                | (go_at_call 13; refine (remove1 hW hy.out).mono ?_; rintro e w5 ⟨L', rfl, hpx, hW5⟩; obtain ⟨z0, z1, z2⟩ := cells3 (hW5.there rfl))
                | (go_at_call 14; refine (remove2 hW5 hr.out hp.out hun.out hnd.out hy.out hpx).mono ?_; rintro e w6 ⟨rfl, R', hW6, hp6, hr6⟩))
              go_meet
              case rel => exact ⟨_, _, _, _, rfl, hW6.free, hp6, hr6, by omega⟩
            · have hn : Hid (∀ y ∈ L, y.num ≠ nv) := Lib.hid (fun y hy e => hin ⟨y, hy, e⟩)
              have hn2 : Hid (∀ j, j < R.length → (at_ R j).num ≠ nv) := Lib.hid (fun j hj e => hn.out _ (hp.out.mem_iff.2 (at_mem R j hj)) e)
              clear hin
              go_wp2_with (first
                | (go_at_call 13; refine (d_remove_none hW hnI.out hn.out).mono ?_; rintro e w5 ⟨rfl, rfl⟩)
                | (go_at_call 14; refine (dr_remove_none hW hn2.out).mono ?_; rintro e w6 ⟨rfl, rfl⟩))
              go_meet
              case rel => exact ⟨_, _, _, _, rfl, hW.free, hp.out, hr.out, by omega⟩
        by_cases d3 : dv = 3
        · as_aux_lemma =>
            subst d3
            by_cases hin : ∃ y ∈ L, y.num = nv
            · obtain ⟨⟨xk, xn, xv⟩, hy, rfl⟩ := hin
              replace hy := Lib.hid hy
              go_wp2_with (first
                | (go_at_call 15; refine (change1 hW hy.out kv).mono ?_; rintro e w5 ⟨rfl, hW5⟩; obtain ⟨z0, z1, z2⟩ := cells3 (hW5.there rfl))
                | (go_at_call 16; refine (change2 hW5 hr.out hp.out hun.out hnd.out hy.out).mono ?_; rintro e w6 ⟨rfl, R', hW6, hp6, hr6⟩))
              go_meet
              case rel => exact ⟨_, _, _, _, rfl, hW6.free, hp6, hr6, by omega⟩
            · have hn : Hid (∀ y ∈ L, y.num ≠ nv) := Lib.hid (fun y hy e => hin ⟨y, hy, e⟩)
              have hn2 : Hid (∀ j, j < R.length → (at_ R j).num ≠ nv) := Lib.hid (fun j hj e => hn.out _ (hp.out.mem_iff.2 (at_mem R j hj)) e)
              clear hin
              go_wp2_with (first
                | (go_at_call 15; refine (d_change_none hW kv hnI.out hn.out).mono ?_; rintro e w5 ⟨rfl, rfl⟩)
                | (go_at_call 16; refine (dr_change_none hW kv hn2.out).mono ?_; rintro e w6 ⟨rfl, rfl⟩))
              go_meet
              case rel => exact ⟨_, _, _, _, rfl, hW.free, hp.out, hr.out, by omega⟩
        by_cases d4 : dv = 4
        · as_aux_lemma =>
            subst d4
            go_wp2_with (first
              | (go_at_call 17; refine (d_copy hW).mono ?_; rintro e w5 ⟨cb, rfl, hT5⟩; obtain ⟨z0, z1, z2⟩ := cells3 (hT5.there rfl))
              | (go_at_call 9; refine (t_push hT5 (by omega) kv 99).mono ?_; rintro e w6 ⟨rfl, hW6⟩))
            go_meet
            case rel => exact ⟨_, _, _, _, rfl, hW6.free, hp.out, hr.out, by omega⟩
        by_cases d5 : dv = 5
        · as_aux_lemma =>
            subst d5
            go_wp2_with (go_at_call 18; refine (d_told hW hr.out hp.out).mono ?_; rintro e w5 ⟨rfl, hW5⟩)
            go_meet
            case rel => exact ⟨_, _, _, _, rfl, hW5.free, hp.out, hr.out, by omega⟩
        · as_aux_lemma =>
            have b0 : (dv == 0) = false := by simp [d0]
            have b1 : (dv == 1) = false := by simp [d1]
            have b2 : (dv == 2) = false := by simp [d2]
            have b3 : (dv == 3) = false := by simp [d3]
            have b4 : (dv == 4) = false := by simp [d4]
            have b5 : (dv == 5) = false := by simp [d5]
            clear d0 d1 d2 d3 d4 d5
            go_wp2
            go_meet
            case rel => exact ⟨_, _, _, _, rfl, hW.free, hp.out, hr.out, by omega⟩
      case rest =>
        obtain ⟨hb', p', L', R', rfl, hD', hp', hr', hpk'⟩ := hcut
        obtain ⟨n, hn⟩ := exHid L'.length
        have hRl := Lib.hid hp'.length_eq
        replace hp' := Lib.hid hp'
        replace hr' := Lib.hid hr'
        clear hW hp hr hpk
        by_cases h0 : L'.length = 0
        · as_aux_lemma =>
            obtain rfl : L' = [] := List.eq_nil_of_length_eq_zero h0
            have hR0 : Hid (R'.length = 0) := Lib.hid (by rw [← hRl.out]; exact h0)
            clear h0
            go_upto_region 39 with (first
              | (go_at_call 19; refine (d_peek_none hD').mono ?_; rintro e w5 ⟨rfl, rfl⟩)
              | (go_at_call 20; refine (dr_peek_none hD' hR0.out).mono ?_; rintro e w6 ⟨rfl, hD6⟩; unfold agT))
            have hD7 := hD6.below ((Below.refl _ _).alloc (Nat.le_refl _) (.cells #[.int .i64 0, .int .i64 0, .int .i64 0] 36))
            obtain ⟨t0, t1, t2⟩ := cells3 (heap_alloc_new w6 (.cells #[.int .i64 0, .int .i64 0, .int .i64 0] 36))
            generalize w6.alloc (.cells #[.int .i64 0, .int .i64 0, .int .i64 0] 36) = w7 at *
            generalize w6.heap.size = b6 at *
            obtain ⟨oa, cap, c0⟩ := len_cell hD7 hn.out hp'.out
            have hl := Lib.hid (len_quiet hD7 hn.out)
            replace hD7 := Lib.hid hD7
            clear hD6 hD'
            go_quiet ((go_at_call 21; refine Calls.quiet_of_same (hl.out _)))
            rename_i nq
            have hD8 := hD7.out.drewN nq
            go_wp2
            go_roundw
            case rel => exact ⟨k + 1, by omega, by go_num, _, _, _, _, rfl, hD8, hp'.out, hr'.out, by omega⟩
            case measure => simp [intOf]; omega
        · as_aux_lemma =>
            have h1 : Hid (0 < L'.length) := Lib.hid (by omega)
            have hR1 : Hid (0 < R'.length) := Lib.hid (by rw [← hRl.out]; omega)
            clear h0
            go_upto_region 39 with (first
              | (go_at_call 19; refine (peek1 hD' h1.out).mono ?_; rintro e w5 ⟨xk, xn, xv, rfl, hf, hD5⟩; replace hf := Lib.hid hf)
              | (go_at_call 20; refine (peek2 hD5 hr'.out hp'.out hR1.out hf.out).mono ?_; rintro e w6 ⟨rfl, hD6⟩))
            have hD7 := hD6.below ((Below.refl _ _).alloc (Nat.le_refl _) (.cells #[.int .i64 xk, .int .i64 xn, .int .i64 xv] 36))
            obtain ⟨t0, t1, t2⟩ := cells3 (heap_alloc_new w6 (.cells #[.int .i64 xk, .int .i64 xn, .int .i64 xv] 36))
            generalize w6.alloc (.cells #[.int .i64 xk, .int .i64 xn, .int .i64 xv] 36) = w7 at *
            generalize w6.heap.size = b6 at *
            obtain ⟨oa, cap, c0⟩ := len_cell hD7 hn.out hp'.out
            have hl := Lib.hid (len_quiet hD7 hn.out)
            replace hD7 := Lib.hid hD7
            clear hD6 hD'
            go_quiet ((go_at_call 21; refine Calls.quiet_of_same (hl.out _)))
            rename_i nq
            have hD8 := hD7.out.drewN nq
            go_wp2
            go_roundw
            case rel => exact ⟨k + 1, by omega, by go_num, _, _, _, _, rfl, hD8, hp'.out, hr'.out, by omega⟩
            case measure => simp [intOf]; omega
    · have hkl : ¬ (k : Int) < l0 := by omega
      go_wp2_with (go_at_call 18; refine (d_told hD hr.out hp.out).mono ?_; rintro e w5 ⟨rfl, hD5⟩)
      go_ret
      exact ⟨rfl, hD5.left⟩
end Go.Proofs.Ytabcifaknckomaa
