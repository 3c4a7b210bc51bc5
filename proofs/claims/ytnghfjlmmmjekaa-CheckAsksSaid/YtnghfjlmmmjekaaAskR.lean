/- check's rising (layer 11): names put in order, each once, walked: the library's Sort and Compact by the shelf's contracts. No condition. -/
import Derived.Test.YtnghfjlmmmjekaaAskP
import Derived.Test.YtnghfjlmmmjekaaCkH
import Derived.Test.YtnghfjlmmmjekaaShelf
import Derived.Sort.OwnSorted
namespace Go.Proofs.Ytnghfjlmmmjekaa
open Go.RowKit Go.Shelf Go.Sort

theorem ris_len (ns : List (List UInt8)) : (risF ns).length ≤ ns.length := by
  have h := Lib.compact_length_le (ns.mergeSort fun x y => decide (x ≤ y))
  unfold risF
  rw [List.length_mergeSort] at h
  exact h
theorem str_enc (ns : List (List UInt8)) : ns.map strV = ns.map encStr := rfl
set_option maxRecDepth 20000 in
set_option maxHeartbeats 1000000 in
theorem rising_any {w : World} {base : Nat} {v : Value} {ns : List (List UInt8)} (h : NamesAt w base v ns) (hn : ns.length ≤ 1000000000) :
    Calls Try.prog 27 #[v] w fun e w' => ∃ v', e = .returned v' ∧ NamesAt w' base v' (risF ns) ∧ (∀ g, v'.ownBlock = some g → v.ownBlock = some g) ∧ Only (fun k => v.ownBlock = some k) w w' := by
  rcases Nat.eq_zero_or_pos ns.length with h0 | h0
  · obtain rfl := List.length_eq_zero_iff.1 h0
    obtain ⟨a, cap, rfl, _, _⟩ := id h.shape
    have kS := Lib.hid (fun (W : World) => Try.slices_Sort_string_none a cap W)
    have kC := Lib.hid (fun (W : World) => Try.slices_Compact_string_empty a cap W)
    replace h := Lib.hid h
    go_enter Try.func27, Try.ntmps27
    go_wp2_with fail
    refine (kS.out _).mono ?_
    rintro e w1 ⟨rfl, rfl⟩
    go_wp2_with fail
    refine (kC.out _).mono ?_
    rintro e w2 ⟨rfl, rfl⟩
    go_wp2_with fail
    go_ret
    have hr : risF [] = [] := List.length_eq_zero_iff.1 (Nat.le_zero.1 (ris_len []))
    rw [hr]
    exact ⟨_, rfl, h.out, fun g e => e, Only.refl _ _⟩
  · obtain ⟨g, cap, cur, rfl, hbase, hb, h1, h2, h3, h4⟩ : ∃ g cap cur, v = .slice (some ⟨g, 0, none⟩) ns.length cap ∧ base ≤ g ∧ w.heap[g]? = some (.cells cur 9 (0, 0)) ∧ ns.length ≤ cap ∧ cap ≤ maxLen ∧ cur.size = cap * 1 ∧ cur.toList.take (ns.length * 1) = ns.map strV := by
      rcases h.2 with ⟨_, hn⟩ | h
      · omega
      · exact h
    have hH : Holds encStr w g 0 ns.toArray := holds_of_block hb (by rw [Nat.mul_one] at h4; exact h4)
    have hg := (Array.getElem?_eq_some_iff.1 hb).1
    have kS := Lib.hid (Try.slices_Sort_string g 0 cap ns w hH hg (by omega))
    have hl : (ns.mergeSort fun x y => decide (x ≤ y)).length = ns.length := List.length_mergeSort _
    have kC := Lib.hid (fun (W : World) (hH : Holds encStr W g 0 (ns.mergeSort fun x y => decide (x ≤ y)).toArray) => Try.slices_Compact_string g 0 cap (ns.mergeSort fun x y => decide (x ≤ y)) W hH (by omega) (by omega))
    rw [hl] at kC
    have hris : Lib.compact (ns.mergeSort fun x y => decide (x ≤ y)) = risF ns := rfl
    rw [hris] at kC
    have hrl := ris_len ns
    replace hb := Lib.hid hb
    clear h hH h4 hris
    go_enter Try.func27, Try.ntmps27
    go_wp2_with fail
    refine kS.out.mono ?_
    rintro e w1 ⟨rfl, n, os, hw1⟩
    have hb1 := heap_sorted (n := n) (os := os) (ns.mergeSort fun x y => decide (x ≤ y)).toArray hb.out
    rw [← hw1] at hb1
    have ho1 : Only (fun k => k = g) w w1 := by
      rw [hw1]
      exact Only.of_grown (grownBy_sorted _) (fun k hk => by injection hk with hk; exact hk.symm)
    have hs1 : (Sort.putCells encStr 0 (ns.mergeSort fun x y => decide (x ≤ y)).toArray cur).size = cap * 1 := by simp [Sort.putCells, h3]
    have ht1 : (Sort.putCells encStr 0 (ns.mergeSort fun x y => decide (x ≤ y)).toArray cur).toList.take (ns.mergeSort fun x y => decide (x ≤ y)).length = (ns.mergeSort fun x y => decide (x ≤ y)).map encStr := take_putCells cur _ (by omega)
    have kC1 := Lib.hid (kC.out w1 (holds_of_block hb1 ht1))
    generalize Sort.putCells encStr 0 (ns.mergeSort fun x y => decide (x ≤ y)).toArray cur = cur1 at *
    replace hb1 := Lib.hid hb1
    replace ho1 := Lib.hid ho1
    clear hw1 kC kS ht1 hl
    go_wp2_with fail
    refine kC1.out.mono ?_
    rintro e w2 ⟨rfl, q, hw2⟩
    have hN : NamesAt w2 base (.slice (some ⟨g, 0, none⟩) ns.length cap) (risF ns ++ List.replicate (ns.length - (risF ns).length) []) := by
      have hln : (risF ns ++ List.replicate (ns.length - (risF ns).length) []).length = ns.length := by rw [List.length_append, List.length_replicate]; omega
      have := ownsRow_sorted (n := q) (os := #[]) (base := base) (e := 9) hln hbase hb1.out h1 h2 hs1
      rw [grow_empty, ← hw2] at this
      unfold NamesAt
      rw [hln]
      exact this
    have ho2 : Only (fun k => k = g) w1 w2 := by
      have := grownBy_sorted (w := w1) (g := g) (n := q) (os := #[]) (risF ns ++ List.replicate (ns.length - (risF ns).length) []).toArray
      rw [grow_empty, ← hw2] at this
      exact Only.of_grown this (fun k hk => by injection hk with hk; exact hk.symm)
    have hN2 := Lib.hid (hN.head (by rw [List.length_append, List.length_replicate]; omega) hrl)
    have ho3 := Lib.hid (ho1.out.trans ho2 (K := fun k => k = g) (fun _ _ e => e) (fun _ _ e => e))
    clear hN ho1 ho2 hw2 kC1
    go_wp2_with fail
    go_ret
    refine ⟨_, rfl, ?_, fun k e => e, ho3.out.mono (fun k _ e => by rw [e]; rfl)⟩
    have := hN2.out
    rw [List.take_left] at this
    exact this
end Go.Proofs.Ytnghfjlmmmjekaa
