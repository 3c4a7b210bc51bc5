/- (mkvb.py, out of Chk) The contract of value.Check at right values. -/
import Derived.Test.YtlljmagmphfnmaaOneC
namespace Go.Proofs.Ytlljmagmphfnmaa
open Go.RowKit

def txt : List Nd → Nat
  | [] => 0
  | x :: d => x.s.size + txt d
theorem txt_append : ∀ (a b : List Nd), txt (a ++ b) = txt a + txt b
  | [], b => by show txt b = 0 + txt b; omega
  | x :: a, b => by show x.s.size + txt (a ++ b) = x.s.size + txt a + txt b; rw [txt_append a b]; omega
theorem sizeN_txt : ∀ d : List Nd, sizeN d = d.length + txt d
  | [] => rfl
  | x :: d => by show 1 + x.s.size + sizeN d = d.length + 1 + (x.s.size + txt d); rw [sizeN_txt d]; omega
theorem txt_take {d : List Nd} {k : Nat} (h : k < d.length) : txt (d.take (k + 1)) = txt (d.take k) + (d[k]).s.size := by
  rw [List.take_succ_eq_append_getElem h, txt_append]; rfl
theorem txt_le {d : List Nd} {k : Nat} (h : k < d.length) : txt (d.take k) + (d[k]).s.size ≤ txt d := by
  rw [← txt_take h]
  conv => rhs; rw [← List.take_append_drop (k + 1) d, txt_append]
  omega

/-- A right value. -/
structure RightV (d : List Nd) : Prop where
  good : GoodV d
  nodes : ∀ x ∈ d, RightNd x
  kl : ∀ x ∈ d, x.kids < d.length
  sz : sizeN d ≤ 4096

set_option maxRecDepth 100000 in
set_option maxHeartbeats 2000000 in
theorem size_any {w : World} {g cap : Nat} {d : List Nd} (hd : RightV d) (_hg : g < w.heap.size) (hrow : RowN w 0 (.slice (some ⟨g, 0, none⟩) d.length cap) d) :
    Calls Try.prog 28 #[.slice (some ⟨g, 0, none⟩) d.length cap] w fun e w' => e = .returned (.int .i64 (sizeN d : Nat)) ∧ Below w.heap.size w w' := by
  have hsc := sc_any
  have hsz := hd.sz
  have hst := sizeN_txt d
  have hfew := hd.good.few
  replace hd := Lib.hid hd
  replace hst := Lib.hid hst
  replace hsz := Lib.hid hsz
  replace hrow := Lib.hid hrow
  go_enter Try.func28, Try.ntmps28
  go_wp2
  go_loopw [3, 10] (fun sm i wr => ∃ k : Nat, k ≤ d.length ∧ i = .int .i64 k ∧ sm = .int .i64 ((d.length + txt (d.take k) : Nat) : Int) ∧ Below w.heap.size w wr) (fun _ i _ => d.length - (intOf i).toNat)
  case atStart => exact ⟨0, by omega, rfl, rfl, Below.refl _ _⟩
  case round =>
    obtain ⟨k, hk, rfl, rfl, hB⟩ := hrel
    by_cases hlt : k < d.length
    · have hki : (k : Int) < d.length := by omega
      obtain ⟨x0, x1, x2, x3, x4⟩ := rowN_cells (hrow.out.below hB) hlt
      have h1 := txt_take hlt
      have h2 := txt_le hlt
      generalize d[k] = nd at x0 x1 x2 x3 x4 h1 h2
      obtain ⟨nk, nkids, nn, ns, nx, ny⟩ := nd
      simp only at x0 x1 x2 x3 x4 h1 h2
      have hns : (ns.size : Int) ≤ 4097 := by have := hst.out; have := hsz.out; omega
      have hns2 : ns.size ≤ 4097 := by omega
      have htk : txt (d.take k) ≤ 4096 := by have := hst.out; have := hsz.out; omega
      obtain ⟨t, ht⟩ := exHid (txt (d.take k))
      rw [ht.out] at h1 htk ⊢
      replace h1 := Lib.hid h1
      clear h2
      go_wp2
      go_roundw
      case rel => exact ⟨k + 1, by omega, by go_num, by rw [h1.out]; congr 1; omega, hB.alloc hB.size _⟩
      case measure => simp [intOf]; omega
    · have hki : ¬ (k : Int) < d.length := by omega
      go_wp2
      go_ret
      refine ⟨ret_int ?_, hB⟩
      rw [hst.out, List.take_of_length_le (by omega)]
      omega

set_option maxHeartbeats 1000000 in
theorem check_ok {w : World} {b : Nat} {v : Value} {d : List Nd} (hd : RightV d) (hrow : RowN w b v d) :
    Calls Try.prog 10 #[v] w fun e w' => e = .returned (.int .i64 0) ∧ Below w.heap.size w w' := by
  obtain ⟨g, cap, rfl, -, hg, hnc, hcm, -⟩ := ownsRow_head hrow hd.good.ne
  have hrow0 : RowN w 0 _ d := rowN_low hrow (Nat.zero_le _)
  have h1 := isOne_yes hd.good hd.nodes hd.kl hg hrow0
  have h2 := fun w' (hb : Below w.heap.size w w') => size_any hd (Nat.lt_of_lt_of_le hg hb.size) (hrow0.below hb)
  have hfew := hd.good.few
  have hsz := hd.sz
  have hfi : ¬ (1024 : Int) < (d.length : Int) := by omega
  have hsi : ¬ (4096 : Int) < ((sizeN d : Nat) : Int) := by omega
  clear hrow hrow0
  replace hd := Lib.hid hd
  generalize sizeN d = sd at *
  go_enter Try.func10, Try.ntmps10
  go_wp2_with (first
    | ((with_reducible refine h1.mono ?_); rintro e w' ⟨rfl, hb⟩; have h3 := h2 _ hb)
    | ((with_reducible refine h3.mono ?_); rintro e w' ⟨rfl, hb2⟩))
  go_ret
  exact ⟨rfl, below_next hb hb2⟩
end Go.Proofs.Ytlljmagmphfnmaa
