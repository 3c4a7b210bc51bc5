/- The document's own heap: All. -/
import Derived.Test.YtabcifaknckomaaRCopy
namespace Go.Proofs.Ytabcifaknckomaa.RF
open Go.RowKit HI

theorem rcopy_any {r nx : Nat} {rv : Value} {R : List T} {w : World} (h : RefAt w r rv R nx) :
    Calls Try.prog 49 #[.pointer (some ⟨r, 0, none⟩)] w fun e w' => e = .returned (.pointer (some ⟨w.heap.size, 0, none⟩)) ∧ ∃ rv', RefAt w' w.heap.size rv' R nx ∧ Below w.heap.size w w' ∧ ∀ g, rv'.ownBlock = some g → w.heap.size ≤ g := by
  by_cases h0 : R.length = 0
  · have hR : R = [] := List.eq_nil_of_length_eq_zero h0
    subst hR
    exact rcopy_none h rfl
  · exact rcopy_some h (by omega)

/-- How many things the document's heap has, off its memory. -/
def refLen (w : World) (b : Nat) : Nat := match w.cell? ⟨b, 0, none⟩ with | some (.slice _ n _) => n | _ => 0
theorem refLen_is {w : World} {r nx : Nat} {rv : Value} {R : List T} (h : RefAt w r rv R nx) : refLen w r = R.length := by
  obtain ⟨a, cap, rfl, _⟩ := ownsRow_shape h.row
  unfold refLen
  rw [h.c0]
theorem erase_len {R : List T} {m : Nat} (h : m < R.length) : (R.eraseIdx m).length + 1 = R.length := by
  rw [List.length_eraseIdx, if_pos h]; omega
theorem erase_perm {R : List T} {m : Nat} (h : m < R.length) : (at_ R m :: R.eraseIdx m).Perm R := by
  rw [at_eq R m h, List.eraseIdx_eq_take_drop_succ]
  have e : R = R.take m ++ R[m] :: R.drop (m + 1) := by rw [← List.drop_eq_getElem_cons h, List.take_append_drop]
  have h2 := (List.perm_middle (a := R[m]) (l₁ := R.take m) (l₂ := R.drop (m + 1))).symm
  rw [← e] at h2
  exact h2
theorem erase_rising {R : List T} {m : Nat} (h : Rising R) : Rising (R.eraseIdx m) := h.sublist (List.eraseIdx_sublist _ _)

set_option maxRecDepth 100000 in
set_option maxHeartbeats 4000000 in
theorem rall_any {r nx : Nat} {rv : Value} {R : List T} {w : World} (h : RefAt w r rv R nx) (hr : Rising R) :
    Calls Try.prog 39 #[.pointer (some ⟨r, 0, none⟩)] w fun e w' => ∃ (S : List T) (v : Value), e = .returned v ∧ S.Perm R ∧ InOrder S ∧ w'.ownsRow w.heap.size 36 3 v S.length (rowOf enc S) ∧ Below w.heap.size w w' := by
  have hlim := h.len
  have C := Lib.hid (rcopy_any h)
  obtain ⟨i0, hi, hz0, hz1, hz2⟩ := info_parts infoR
  replace hr := Lib.hid hr
  clear h
  go_enter Try.func39, Try.ntmps39
  go_wp2_with fail
  refine C.out.mono ?_
  rintro e w1 ⟨rfl, rv1, hR1, hB1, hown1⟩
  go_wp2
  generalize hc : w.heap.size = c at *
  have hcl : c < w1.heap.size := hR1.lt
  go_loopw [4] (fun ov wr => ∃ (O Rk : List T) (rvk : Value), wr.ownsRow w1.heap.size 36 3 ov O.length (rowOf enc O) ∧ RefAt wr c rvk Rk nx ∧ (O ++ Rk).Perm R ∧ InOrder O ∧ (∀ x ∈ O, ∀ y ∈ Rk, le_ T.key T.num x y) ∧ Rising Rk ∧ Below c w wr ∧ w1.heap.size ≤ wr.heap.size ∧ (∀ g, ov.ownBlock = some g → rvk.ownBlock ≠ some g)) (fun _ wr => refLen wr c)
  case atStart => exact ⟨[], R, rv1, World.ownsRow_nil _ _ _ _, hR1, List.Perm.refl _, List.Pairwise.nil, fun x hx => by simp at hx, hr.out, hB1, Nat.le_refl _, fun g hg => by simp [Value.ownBlock] at hg⟩
  case round =>
    obtain ⟨O, Rk, rvk, hO, hRk, hperm, hord, hle, hris, hB, hsz, hdis⟩ := hrel
    clear hR1 hB1 hown1
    have hRkl := hRk.len
    have hOl : O.length ≤ 100000 := by have := hperm.length_eq; rw [List.length_append] at this; omega
    obtain ⟨oa, oc, rfl, _, _⟩ := ownsRow_shape hO
    obtain ⟨ka, kc, rfl, _, _⟩ := ownsRow_shape hRk.row
    have c0 := hRk.c0
    replace hle := Lib.hid hle
    replace hperm := Lib.hid hperm
    replace hord := Lib.hid hord
    replace hris := Lib.hid hris
    replace hdis := Lib.hid hdis
    by_cases h0 : Rk.length = 0
    · have hlt : ¬ (0 : Int) < (Rk.length : Int) := by omega
      have hRe : Rk = [] := List.eq_nil_of_length_eq_zero h0
      replace h0 := Lib.hid h0
      replace hRe := Lib.hid hRe
      replace hRk := Lib.hid hRk
      go_wp2
      go_ret
      refine ⟨O, _, rfl, ?_, hord.out, ownsRow_base hO (fun g hg => by have := (hO.lt g hg).1; omega), ?_⟩
      · have := hperm.out
        rw [hRe.out, List.append_nil] at this
        exact this
      · exact hB
    · have hlt : (0 : Int) < (Rk.length : Int) := by omega
      have P := Lib.hid (rpop_some hRk hris.out (by omega))
      have hms := Lib.hid (refLen_is hRk)
      have hcw := hRk.lt
      replace hRk := Lib.hid hRk
      clear h0
      generalize hnk : Rk.length = nk at *
      go_wp2_with fail
      refine P.out.mono ?_
      rintro e w4 ⟨m, rfl, hm, hfx, rv4, hR4, ho4, hown4⟩
      unfold agT
      have hO4 := ownsRow_only hO ho4 (fun g hg e => by have := (hO.lt g hg).1; omega)
      have hB4 : Below c w w4 := hB.trans (ho4.below (by rw [← hc]; exact hB.size) (fun k hk e => by omega))
      have hsz4 : w1.heap.size ≤ w4.heap.size := Nat.le_trans hsz ho4.size
      have hms4 := Lib.hid (refLen_is hR4)
      obtain ⟨kk, hkk⟩ := exHid (at_ Rk m).key
      obtain ⟨kn, hkn⟩ := exHid (at_ Rk m).num
      obtain ⟨kv, hkv⟩ := exHid (at_ Rk m).v
      rw [hkk.out, hkn.out, hkv.out]
      have hOlt := Lib.hid (fun g hg => (hO.lt g hg).2)
      have hOA := Lib.hid ((hO4.alloc (.cells #[.int .i64 kk, .int .i64 kn, .int .i64 kv] 36)).alloc (.cells #[.int .i64 kk, .int .i64 kn, .int .i64 kv] 36))
      have hoA : Only (fun _ => False) w4 ((w4.alloc (.cells #[.int .i64 kk, .int .i64 kn, .int .i64 kv] 36)).alloc (.cells #[.int .i64 kk, .int .i64 kn, .int .i64 kv] 36)) := ((Only.refl _ w4).alloc _).alloc _
      replace hoA := Lib.hid hoA
      replace hR4 := Lib.hid hR4
      replace hown4 := Lib.hid hown4
      replace ho4 := Lib.hid ho4
      replace hfx := Lib.hid hfx
      replace hm := Lib.hid hm
      clear hO4
      go_wp2_with (at_builtin; refine wpList_append_own_at _ rfl _ _ 27 rfl w1.heap.size 36 i0 (.agg #[.int .i64 0, .int .i64 0, .int .i64 0]) 3 24 Try.underlying27 hi hz0 hz1 hz2 rfl (by decide) (.slice oa O.length oc) O.length (rowOf enc O) rfl hOA.out ⟨w4.heap.size + 1, 0, none⟩ 1 1 [.int .i64 kk, .int .i64 kn, .int .i64 kv] rfl rfl (push_news (cell_top (by simp) rfl) (cell_top (by simp) rfl) (cell_top (by simp) rfl)) one_three (by unfold maxLen; omega) (by omega) (by simp; omega) ?_; intro v5 w5 hO5 hgr5 _ hloc5)
      have hg5 : Only (fun k => (Value.slice oa O.length oc).ownBlock = some k) ((w4.alloc (.cells #[.int .i64 kk, .int .i64 kn, .int .i64 kv] 36)).alloc (.cells #[.int .i64 kk, .int .i64 kn, .int .i64 kv] 36)) w5 := Only.of_grown hgr5 (fun k e => e)
      have ho45 : Only (fun k => (Value.slice oa O.length oc).ownBlock = some k) w4 w5 := hoA.out.trans hg5 (fun k _ e => e.elim) (fun k _ e => e)
      have hR5 : RefAt w5 c rv4 (Rk.eraseIdx m) nx := hR4.out.kept ho45 (fun k hk e => by
        have h1 := (hO.lt k e).1
        have h2 := hOlt.out k e
        rcases hk with e2 | e2
        · omega
        · have := hown4.out k e2; omega)
      have hms5 := refLen_is hR5
      have hel := erase_len (by rw [hnk]; exact hm.out)
      go_roundw
      case rel =>
        refine ⟨O ++ [at_ Rk m], Rk.eraseIdx m, rv4, ?_, hR5, ?_, ?_, ?_, erase_rising hris.out, hB4.trans (ho45.below (by rw [← hc]; exact hB4.size) (fun k hk e => by have := (hO.lt k e).1; omega)), Nat.le_trans hsz4 ho45.size, ?_⟩
        · rw [rowOf_snoc, List.length_append]
          have e : enc (at_ Rk m) = [.int .i64 kk, .int .i64 kn, .int .i64 kv] := by unfold enc; rw [hkk.out, hkn.out, hkv.out]
          rw [e]
          exact hO5
        · rw [List.append_assoc]
          exact ((erase_perm (by rw [hnk]; exact hm.out)).append_left O).trans hperm.out
        · unfold InOrder
          rw [List.pairwise_append]
          exact ⟨hord.out, List.pairwise_singleton _ _, fun x hx y hy => by
            rw [List.mem_singleton] at hy
            rw [hy]; exact hle.out x hx _ (at_mem Rk m (by rw [hnk]; exact hm.out))⟩
        · intro x hx y hy
          have hyR : y ∈ Rk := List.mem_of_mem_eraseIdx hy
          rcases List.mem_append.1 hx with h1 | h1
          · exact hle.out x h1 y hyR
          · rw [List.mem_singleton] at h1
            rw [h1]; exact hfx.out.2 y hyR
        · intro g hg e
          have := hown4.out g e
          rcases hloc5 with h1 | h1
          · rw [h1] at hg; have := hOlt.out g hg; omega
          · rw [h1] at hg; injection hg with hg
            have h2 := (hR4.out.row.lt g e).2
            simp at hg
            omega
      case measure => rw [hms5, hms.out]; omega
end Go.Proofs.Ytabcifaknckomaa.RF
