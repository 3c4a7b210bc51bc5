/- The two heaps: what the document's heap does behind the heap's own call, the things in their parts. -/
import Derived.Test.YtabcifaknckomaaTwo
namespace Go.Proofs.Ytabcifaknckomaa.RF
open Go.RowKit HI

section
variable {V : Nat → Prop} {C : Nat → Option Obj} {w0 w : World} {hb p r nx : Nat} {L L' R : List T} {xk xn xv : Int}
theorem len_quiet (h : Duo V C w0 w hb L p r R nx) {n : Nat} (hn : L.length = n) (m : Nat) :
    Calls Try.prog 21 #[.pointer (some ⟨hb, 0, none⟩)] (w.drewN m) fun e w' => e = .returned (.int .i64 n) ∧ w' = w.drewN m :=
  (d_len (h.drewN m)).mono fun e w' ⟨he, hw⟩ => ⟨by rw [he, hn], hw.symm⟩
theorem len_cell (h : Duo V C w0 w hb L p r R nx) {n : Nat} (hn : L.length = n) (hp : L.Perm R) : ∃ a cap, w.cell? ⟨r, 0, none⟩ = some (.slice a n cap) := by
  obtain ⟨rv, hR⟩ := h.refs
  obtain ⟨a, cap, rfl, _, _⟩ := ownsRow_shape hR.row
  have := hR.c0
  rw [← hp.length_eq, hn] at this
  exact ⟨a, cap, this⟩
theorem peek1 (h : Duo V C w0 w hb L p r R nx) (h0 : 0 < L.length) :
    Calls Try.prog 19 #[.pointer (some ⟨hb, 0, none⟩)] w fun e w' => ∃ xk xn xv, e = .returned (.tuple #[.int .i64 xk, .int .i64 xv, .int .i64 xn, .bool true]) ∧ IsFirst ⟨xk, xn, xv⟩ L ∧ Duo V C w0 w' hb L p r R nx :=
  (d_peek_some h h0).mono fun e w' ⟨⟨xk, xn, xv⟩, he, g1, g2⟩ => ⟨xk, xn, xv, he, g1, g2⟩
theorem peek2 (h : Duo V C w0 w hb L p r R nx) (hr : Rising R) (hp : L.Perm R) (h0 : 0 < R.length) (hx : IsFirst ⟨xk, xn, xv⟩ L) :
    Calls Try.prog 20 #[.pointer (some ⟨r, 0, none⟩)] w fun e w' => e = .returned (.tuple #[.agg #[.int .i64 xk, .int .i64 xn, .int .i64 xv], .bool true]) ∧ Duo V C w0 w' hb L p r R nx :=
  (dr_peek_some h hr h0).mono fun e w' ⟨x, he, g1, g2⟩ => by
    have e1 := firsts_same hp h.nums.2.1 hx g1
    rw [he, ← e1]
    exact ⟨rfl, g2⟩
theorem pop1 (h : Duo V C w0 w hb L p r R nx) (h0 : 0 < L.length) :
    Calls Try.prog 11 #[.pointer (some ⟨hb, 0, none⟩)] w fun e w' => ∃ xk xn xv L', e = .returned (.tuple #[.int .i64 xk, .int .i64 xv, .int .i64 xn, .bool true]) ∧ IsFirst ⟨xk, xn, xv⟩ L ∧ ((⟨xk, xn, xv⟩ : T) :: L').Perm L ∧ Duo V C w0 w' hb L' p r R nx :=
  (d_pop_some h h0).mono fun e w' ⟨⟨xk, xn, xv⟩, L', he, g1, g2, g3⟩ => ⟨xk, xn, xv, L', he, g1, g2, g3⟩
theorem pop2 (h : Duo V C w0 w hb L' p r R nx) (hr : Rising R) (hp : L.Perm R) (hu : Unlike L) (h0 : 0 < R.length) (hx : IsFirst ⟨xk, xn, xv⟩ L) (hpx : ((⟨xk, xn, xv⟩ : T) :: L').Perm L) :
    Calls Try.prog 12 #[.pointer (some ⟨r, 0, none⟩)] w fun e w' => e = .returned (.tuple #[.agg #[.int .i64 xk, .int .i64 xn, .int .i64 xv], .bool true]) ∧ ∃ R', Duo V C w0 w' hb L' p r R' nx ∧ L'.Perm R' ∧ Rising R' :=
  (dr_pop_some h hr h0).mono fun e w' ⟨m, he, hm, g1, g2⟩ => by
    have e1 := firsts_same hp hu hx g1
    rw [he, ← e1]
    exact ⟨rfl, _, g2, erase_same hm hp (by rw [← e1]; exact hpx), erase_rising hr⟩
theorem remove1 (h : Duo V C w0 w hb L p r R nx) (hy : (⟨xk, xn, xv⟩ : T) ∈ L) :
    Calls Try.prog 13 #[.pointer (some ⟨hb, 0, none⟩), .int .i64 xn] w fun e w' => ∃ L', e = .returned (.tuple #[.int .i64 xv, .bool true]) ∧ ((⟨xk, xn, xv⟩ : T) :: L').Perm L ∧ Duo V C w0 w' hb L' p r R nx := d_remove_some h hy
theorem remove2 (h : Duo V C w0 w hb L' p r R nx) (hr : Rising R) (hp : L.Perm R) (hu : Unlike L) (hnd : (L.map T.num).Nodup) (hy : (⟨xk, xn, xv⟩ : T) ∈ L) (hpx : ((⟨xk, xn, xv⟩ : T) :: L').Perm L) :
    Calls Try.prog 14 #[.pointer (some ⟨r, 0, none⟩), .int .i64 xn] w fun e w' => e = .returned (.tuple #[.int .i64 xv, .bool true]) ∧ ∃ R', Duo V C w0 w' hb L' p r R' nx ∧ L'.Perm R' ∧ Rising R' := by
  obtain ⟨m, hm, e1⟩ := mem_at (hp.mem_iff.1 hy)
  refine (dr_remove_some h (unlike_perm hp hu) (nodup_perm hp hnd) hm (x := xn) (by rw [e1])).mono fun e w' ⟨he, g2⟩ => ?_
  rw [he, e1]
  exact ⟨rfl, _, g2, erase_same hm hp (by rw [e1]; exact hpx), erase_rising hr⟩
theorem change1 (h : Duo V C w0 w hb L p r R nx) (hy : (⟨xk, xn, xv⟩ : T) ∈ L) (key : Int) :
    Calls Try.prog 15 #[.pointer (some ⟨hb, 0, none⟩), .int .i64 xn, .int .i64 key] w fun e w' => e = .returned (.bool true) ∧ Duo V C w0 w' hb (rekeyL L xn key) p r R nx := d_change_some h hy key
theorem change2 {key : Int} (h : Duo V C w0 w hb (rekeyL L xn key) p r R nx) (hr : Rising R) (hp : L.Perm R) (hu : Unlike L) (hnd : (L.map T.num).Nodup) (hy : (⟨xk, xn, xv⟩ : T) ∈ L) :
    Calls Try.prog 16 #[.pointer (some ⟨r, 0, none⟩), .int .i64 xn, .int .i64 key] w fun e w' => e = .returned (.bool true) ∧ ∃ R', Duo V C w0 w' hb (rekeyL L xn key) p r R' nx ∧ (rekeyL L xn key).Perm R' ∧ Rising R' := by
  obtain ⟨m, hm, e1⟩ := mem_at (hp.mem_iff.1 hy)
  refine (dr_change_some h (unlike_perm hp hu) (nodup_perm hp hnd) hm (x := xn) (by rw [e1]) key).mono fun e w' ⟨he, g2⟩ => ?_
  have := rekey_same (nodup_perm hp hnd) hp hm key
  rw [e1] at this
  exact ⟨he, _, g2, this, rising_rekey hr key hm⟩
theorem push2 {key v : Int} (h : Duo V C w0 w hb (L ++ [(⟨key, p, v⟩ : T)]) (p + 1) r R p) (hr : Rising R) (hp : L.Perm R) (hn : ∀ x ∈ L, 0 ≤ x.num ∧ x.num < p) (hl : L.length < 1000) (hl2 : p < 1000) :
    Calls Try.prog 10 #[.pointer (some ⟨r, 0, none⟩), .int .i64 key, .int .i64 v] w fun e w' => e = .returned (.int .i64 p) ∧ ∃ R', Duo V C w0 w' hb (L ++ [(⟨key, p, v⟩ : T)]) (p + 1) r R' (p + 1) ∧ (L ++ [(⟨key, p, v⟩ : T)]).Perm R' ∧ Rising R' :=
  (dr_push h (by rw [← hp.length_eq]; exact hl) hl2 key v).mono fun e w' ⟨he, g⟩ => ⟨he, _, g, hp.append_right _, rising_snoc hr (fun x hx => hn x (hp.mem_iff.2 hx)) key v⟩
end
end Go.Proofs.Ytabcifaknckomaa.RF
