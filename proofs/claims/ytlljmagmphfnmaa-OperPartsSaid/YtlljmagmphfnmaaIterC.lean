/- (mkvb.py, out of Iter) The contract of value.nodes, a function that is ranged over: the places of a right value's nodes, and how many values must still come. -/
import Derived.RangeFuncNested
import Derived.RangeFuncBound
import Derived.RangeFuncCalls
import Derived.RangeFuncLeaves
import Derived.RangeFuncBox
import Derived.Shelf.Abstract
import Derived.Shelf.RegionOpen
import Derived.WalkKit
import Derived.OwnWalkIn
import Derived.TacticsInMore
import Derived.LoopNIn
import Derived.LoopIn
import Derived.Test.YtlljmagmphfnmaaRightC
namespace Go.Proofs.Ytlljmagmphfnmaa
open Go.RowKit Go.Shelf
attribute [local go_sem] Oper.semAt_some

/-- A place of a list of nodes, and a number. -/
abbrev PairN (d : List Nd) := { x : Nat × Int // x.1 < d.length }
/-- What comes of a list of nodes when k rounds are over. -/
def comeN (d : List Nd) (k : Nat) : List (Nat × Int) := (List.range k).map fun j => (j, leftN (d.take (j + 1)))
theorem comeN_succ (d : List Nd) (k : Nat) : comeN d (k + 1) = comeN d k ++ [(k, leftN (d.take (k + 1)))] := by simp [comeN, List.range_succ]
theorem comeN_length (d : List Nd) (k : Nat) : (comeN d k).length = k := by simp [comeN]

theorem leftN_take {d : List Nd} {k : Nat} (h : k < d.length) : leftN (d.take (k + 1)) = leftN (d.take k) + (d[k]).kids - 1 := by
  rw [List.take_succ_eq_append_getElem h, leftN_snoc]
theorem leftN_bound {d : List Nd} (hk : ∀ x ∈ d, x.kids ≤ 1024) : ∀ k, k ≤ d.length → leftN (d.take k) ≤ 1 + 1024 * (k : Int) ∧ 1 - (k : Int) ≤ leftN (d.take k)
  | 0, _ => by simp [leftN]
  | k + 1, h => by
    have ih := leftN_bound hk k (by omega)
    have h1 := hk _ (List.getElem_mem (show k < d.length by omega))
    rw [leftN_take (by omega)]
    omega

/-- A right list of nodes, in a row. -/
structure GoodV (d : List Nd) : Prop where
  ne : 0 < d.length
  few : d.length ≤ 1024
  kids : ∀ x ∈ d, x.kids ≤ 1024
  pos : ∀ i, i < d.length → 0 < leftN (d.take i)
  fin : leftN d = 0

set_option maxRecDepth 100000 in
set_option maxHeartbeats 4000000 in
theorem nodes1_in (F : Fence) (n : Nat) (hF : F.fn 69) (hro : F.round = none) (hn : 1 ≤ n) (l Bs n₀ g cap : Nat) (d : List Nd) (hd : GoodV d) (hg : g < n₀) (J Jx : List (PairN d) → World → Prop)
    (hY : ∀ pre x W, J pre W → pre.length < d.length → YieldAt F (n - 1) Try.prog l #[.int .i64 (x.1.1 : Int), .int .i64 x.1.2] W fun e W' =>
      (e = .returned (.bool true) ∧ J (pre ++ [x]) W' ∧ Below n₀ W W') ∨ (e = .returned (.bool false) ∧ Jx (pre ++ [x]) W'))
    (W : World) (hJ : AbidesFrom W.heap.size J) (hn₀ : n₀ ≤ W.heap.size) (hBs : W.cell? ⟨Bs, 0, none⟩ = some (.slice (some ⟨g, 0, none⟩) d.length cap)) (hrow : RowN W 0 (.slice (some ⟨g, 0, none⟩) d.length cap) d) (h0 : J [] W) :
    CallsIn F n Try.prog 69 #[.func (.yield l) #[] #[], .pointer (some ⟨Bs, 0, none⟩)] W fun e W' => (∃ v, e = .returned v) ∧
      ((∃ ys : List (PairN d), ys.map (·.1) = comeN d d.length ∧ J ys W') ∨ (∃ pre, True ∧ Jx pre W')) := by
  have hsc := sc_any
  refine callsIn_of_wp Try.func69 rfl hF ?_ hro
  simp only [Try.ntmps69, List.size_toArray, List.length_cons, List.length_nil, Nat.reduceAdd, Nat.reduceSub, Array.replicate_succ, Array.replicate_zero, List.push_toArray, List.append_toArray, List.nil_append, List.cons_append]
  gi_wp2
  gi_loopw [3, 8] (fun lf i wr => ∃ (k : Nat) (pre : List (PairN d)), k < d.length ∧ i = .int .i64 k ∧ lf = .int .i64 (leftN (d.take k)) ∧ pre.map (·.1) = comeN d k ∧ J pre wr ∧ Below n₀ W wr)
    (fun _ i _ => d.length - (intOf i).toNat)
  case atStart => exact ⟨0, [], hd.ne, rfl, rfl, rfl, h0, Below.refl _ _⟩
  case round =>
    obtain ⟨k, pre, hlt, rfl, rfl, hpre, hJs, hnx⟩ := hrel
    have hpl : pre.length = k := by have := congrArg List.length hpre; simpa [comeN_length] using this
    have hrk : RowN wr 0 (.slice (some ⟨g, 0, none⟩) d.length cap) d := hrow.only (F := fun q => n₀ ≤ q) ⟨hnx.os, hnx.tape, hnx.output, hnx.size, fun q _ hq2 => hnx.block q (by omega)⟩ (fun q hq h => by simp [RowOf, Value.ownBlock] at hq; omega)
    obtain ⟨x0, x1, x2, x3, x4⟩ := rowN_cells hrk hlt
    have hkid := hd.kids _ (List.getElem_mem hlt)
    have hbd := leftN_bound hd.kids k (by omega)
    have hfew := hd.few
    have hlf := leftN_take hlt
    have hpos := hd.pos
    have hfin := hd.fin
    generalize hdk : d[k] = nd at x0 x1 x2 x3 x4 hkid hlf
    obtain ⟨nk, nkids, nn, ns, nx, ny⟩ := nd
    simp only at x0 x1 x2 x3 x4 hkid hlf
    have hW1 : Below n₀ W (wr.alloc (.cells #[.int .u8 nk, .int .i64 nkids, .int .i64 nn, .string ns, .complex .f64 nx ny] 37)) := hnx.alloc (by have := hnx.size; omega) _
    have hJ1 : J pre (wr.alloc (.cells #[.int .u8 nk, .int .i64 nkids, .int .i64 nn, .string ns, .complex .f64 nx ny] 37)) := hJ _ _ _ none hJs (World.grownBy_alloc wr _ none) (fun r e => by cases e)
    obtain ⟨z, hz⟩ := exHid (leftN (d.take k))
    rw [hz.out] at hlf hbd ⊢
    have hki : (k : Int) < d.length := by omega
    obtain ⟨fn, tmps, assign, body, hy, hR⟩ := hY _ ⟨(k, z + ((nkids : Int) - 1)), hlt⟩ _ hJ1 (by omega)
    dsimp only at hy
    have hcome : (pre ++ [(⟨(k, z + ((nkids : Int) - 1)), hlt⟩ : PairN d)]).map (·.1) = comeN d (k + 1) := by
      rw [comeN_succ, List.map_append, hpre, hlf]
      simp; omega
    have hlast : z + ((nkids : Int) - 1) = 0 → k + 1 = d.length := by
      intro e
      rcases Nat.lt_or_ge (k + 1) d.length with h | h
      · have := hpos (k + 1) h; omega
      · omega
    have hnext : z + ((nkids : Int) - 1) ≠ 0 → k + 1 < d.length := by
      intro e
      rcases Nat.lt_or_ge (k + 1) d.length with h | h
      · exact h
      · exfalso
        apply e
        have h1 : leftN (d.take (k + 1)) = leftN d := by rw [List.take_of_length_le h]
        omega
    replace hlast := Lib.hid hlast
    replace hnext := Lib.hid hnext
    replace hcome := Lib.hid hcome
    replace hlf := Lib.hid hlf
    replace hpos := Lib.hid hpos
    replace hfin := Lib.hid hfin
    gi_wp2
    refine hR.mono ?_
    rintro e W3 (⟨rfl, hJ3, hk3⟩ | ⟨rfl, hJx3⟩)
    · by_cases hz0 : z + ((nkids : Int) - 1) = 0
      · have hb0 : (z + ((nkids : Int) - 1) == 0) = true := by simp; omega
        have hl := hlast.out hz0
        replace hz0 := Lib.hid hz0
        gi_wp2
        refine bodyPost_ret (results_none rfl _ _ _) rfl ?_
        exact ⟨⟨_, rfl⟩, .inl ⟨_, by rw [hcome.out, hl], hJ3⟩⟩
      · have hb0 : (z + ((nkids : Int) - 1) == 0) = false := by simp; omega
        have hl := hnext.out hz0
        replace hz0 := Lib.hid hz0
        gi_wp2
        go_roundw
        case rel => exact ⟨k + 1, _, hl, by simp, by rw [hlf.out]; congr 1; omega, hcome.out, hJ3, hW1.trans hk3⟩
        case measure => simp [intOf]; omega
    · gi_wp2
      refine bodyPost_ret (results_none rfl _ _ _) rfl ?_
      exact ⟨⟨_, rfl⟩, .inr ⟨_, trivial, hJx3⟩⟩

/-- What value.nodes hands back. -/
theorem nodes_stops (F : Fence) (n : Nat) (hF : F.fn 69) (hro : F.round = none) (hn : 1 ≤ n) (Bs n₀ g cap : Nat) (d : List Nd) (hd : GoodV d) (hg : g < n₀) (w : World) (hBs : Bs < w.heap.size) (hn₀ : n₀ ≤ w.heap.size)
    (hc : w.cell? ⟨Bs, 0, none⟩ = some (.slice (some ⟨g, 0, none⟩) d.length cap)) (hrow : RowN w 0 (.slice (some ⟨g, 0, none⟩) d.length cap) d) :
    SeqStopsK F n Try.prog 69 #[.pointer (some ⟨Bs, 0, none⟩)] (fun x : PairN d => #[Value.int .i64 (x.1.1 : Int), Value.int .i64 x.1.2]) (Below n₀) (fun ys => ys.map (·.1) = comeN d d.length) (fun _ => True) d.length w := fun l J Jx W hW hJ _ hY h0 => by
  have hc' := (hW.cell (p := ⟨Bs, 0, none⟩) hBs).trans hc
  exact nodes1_in F n hF hro hn l Bs n₀ g cap d hd hg J Jx hY W hJ (Nat.le_trans hn₀ hW.size) hc' (hrow.below hW) h0
end Go.Proofs.Ytlljmagmphfnmaa
