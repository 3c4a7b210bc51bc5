/- The contract of frame.frames, a function that is ranged over: the bodies of the frames with which bytes begin, then what is wrong. -/
import Derived.RangeFuncNested
import Derived.RangeFuncBound
import Derived.RangeFuncCalls
import Derived.RangeFuncLeaves
import Derived.RangeFuncBox
import Derived.Shelf.Abstract
import Derived.Shelf.RegionOpen
import Derived.WalkKit
import Derived.OwnWalkIn
import Derived.TacticsInMore
import Derived.LoopNIn
import Derived.LoopIn
import Derived.Test.YtdeloaknoadpiaaFBox
import Derived.Test.YtdeloaknoadpiaaFCame
import Derived.Test.YtdeloaknoadpiaaFRead
namespace Go.Proofs.Ytdeloaknoadpiaa
open Go.RowKit Go.Shelf Crc
attribute [local go_sem] Oper.semAt_some

/-- What is handed out: a piece of bytes that lie below a number, whatever happens above it, and what Read tells of it. -/
abbrev Fx (n₀ : Nat) (w0 : World) := { x : Value × Fr // (∀ W, Below n₀ w0 W → Bs W x.1 x.2.body) ∧ x.2.body.length ≤ 1000000 ∧ (x.2.code = 0 → x.2.n = x.2.body.length + 12) }
def frOf {n₀ : Nat} {w0 : World} (pre : List (Fx n₀ w0)) : List Fr := pre.map (·.1.2)
theorem frOf_snoc {n₀ : Nat} {w0 : World} (pre : List (Fx n₀ w0)) (x : Fx n₀ w0) : frOf (pre ++ [x]) = frOf pre ++ [x.1.2] := by simp [frOf]
/-- What a round that goes on keeps. -/
def KpF (n₀ B : Nat) (W W' : World) : Prop := Below n₀ W W' ∧ W'.heap[B]? = W.heap[B]?
/-- How long the slice in a box is. -/
def lenBox (B : Nat) (W : World) : Nat := match W.cell? ⟨B, 0, none⟩ with | some (.slice _ L _) => L | _ => 0

theorem Bs.at_ {W W' : World} {v : Value} {l : List Nat} (h : Bs W v l) (hk : ∀ k, RowOf v k → 0 < l.length → W'.heap[k]? = W.heap[k]?) : Bs W' v l := by
  obtain ⟨a, cap, rfl, hB, h1, h2, h3⟩ := h
  refine ⟨a, cap, rfl, fun h0 => ?_, h1, h2, h3⟩
  obtain ⟨b, off, rfl, hb, hc⟩ := hB h0
  have hh := hk b rfl h0
  have hb' : b < W'.heap.size := by
    have : W'.heap[b]? ≠ none := by rw [hh]; simp; omega
    simpa using this
  refine ⟨b, off, rfl, hb', fun j hj => ⟨?_, (hc j hj).2⟩⟩
  have := (hc j hj).1
  unfold World.cell? at this ⊢
  rw [hh]
  exact this

/-- The rest of bytes. -/
def restV (a : Option Addr) (L cap n : Nat) : Value := .slice (if cap = n then a else a.map (·.add n)) (L - n) (cap - n)
theorem restV_bs {W : World} {a : Option Addr} {L cap n : Nat} {l : List Nat} (h : Bs W (.slice a L cap) l) (hn : n ≤ l.length) (h0 : 0 < l.length) : Bs W (restV a L cap n) (l.drop n) ∧ ∀ k, RowOf (restV a L cap n) k → RowOf (.slice a L cap) k := by
  have hB := h
  obtain ⟨a', cap', he, hBy, h1, h2, h3⟩ := h
  cases he
  obtain ⟨b, off, rfl, hb, hc⟩ := hBy h0
  unfold restV
  by_cases hcn : cap = n
  · rw [if_pos hcn]
    have e : l.length - n = 0 := by omega
    have e2 : l.drop n = [] := by apply List.eq_nil_of_length_eq_zero; rw [List.length_drop]; omega
    rw [e, e2, hcn, Nat.sub_self]
    exact ⟨bs_empty (by omega) (fun h => by cases h), fun k hk => hk⟩
  · rw [if_neg hcn]
    have e : (some (⟨b, off, none⟩ : Addr)).map (·.add n) = some ⟨b, off + n, none⟩ := by simp [Addr.add]
    rw [e]
    exact ⟨bs_rest hB n hn, fun k hk => hk⟩

set_option maxRecDepth 100000 in
set_option maxHeartbeats 1000000 in
theorem frames1_in (l B n₀ : Nat) (w0 W : World) (bs : List Nat) (u0 : Value) (J Jx : List (Fx n₀ w0) → World → Prop)
    (hw0 : Below n₀ w0 W) (hn₀ : n₀ ≤ W.heap.size) (hn0 : n₀ ≤ w0.heap.size) (hB0 : n₀ ≤ B) (hBx : Boxed W B 22 u0) (hb0 : Bs W u0 bs) (hu0 : ∀ k, RowOf u0 k → 0 < bs.length → k < n₀) (hbl : bs.length ≤ 1000000)
    (hJ : AbidesFrom W.heap.size J) (hJB : ∀ pre A u, J pre A → IsBox A B → J pre (A.setCell ⟨B, 0, none⟩ u))
    (hY : ∀ pre x A, J pre A → pre.length < bs.length + 1 → YieldAt Fence.wide (5 - 1) Try.prog l #[x.1.1, .int .i64 (x.1.2.code : Int)] A fun e A' => (e = .returned (.bool true) ∧ J (pre ++ [x]) A' ∧ KpF n₀ B A A') ∨ (e = .returned (.bool false) ∧ Jx (pre ++ [x]) A'))
    (h0 : J [] W) :
    CallsIn Fence.wide 5 Try.prog 35 #[.func (.yield l) #[] #[], .pointer (some ⟨B, 0, none⟩)] W fun e W' => (∃ v, e = .returned v) ∧
      ((∃ xs, frOf xs = came bs ∧ J xs W') ∨ (∃ pre, (∃ z, frOf pre ++ z = came bs) ∧ Jx pre W')) := by
  refine callsIn_of_wp Try.func35 rfl trivial ?_ rfl
  simp only [Try.ntmps35, List.size_toArray, List.length_cons, List.length_nil, Nat.reduceAdd, Nat.reduceSub, Array.replicate_succ, Array.replicate_zero, List.push_toArray, List.append_toArray, List.nil_append, List.cons_append]
  gi_wp2
  gi_loopw [3, 4, 5] (fun _ _ _ wr => ∃ (rest : List Nat) (pre : List (Fx n₀ w0)) (u : Value), Boxed wr B 22 u ∧ Bs wr u rest ∧ (∀ k, RowOf u k → 0 < rest.length → k < n₀) ∧ frOf pre ++ came rest = came bs ∧ J pre wr ∧ Below n₀ w0 wr ∧ W.heap.size ≤ wr.heap.size ∧ rest.length ≤ 1000000) (fun _ _ _ wr => lenBox B wr)
  case atStart => exact ⟨bs, [], u0, hBx, hb0, hu0, rfl, h0, hw0, Nat.le_refl _, hbl⟩
  case round =>
    obtain ⟨rest, pre, u, hBx1, hbr, hur, hpre, hJ1, hbw, hszw, hrl⟩ := hrel
    have hsz1 : n₀ ≤ wr.heap.size := Nat.le_trans hn₀ hszw
    by_cases h0r : rest = []
    · subst h0r
      obtain ⟨a, cap, rfl, _, _, _, _⟩ := hbr
      have c1 : wr.cell? ⟨B, 0, none⟩ = some (.slice a 0 cap) := hBx1.cell
      clear hBx1
      gi_wp2
      refine ⟨rfl, _, results_none rfl _ _ _, ?_⟩
      exact ⟨⟨_, rfl⟩, .inl ⟨pre, by simpa [came_nil] using hpre, hJ1⟩⟩
    · have hL : 0 < rest.length := List.length_pos_iff.2 h0r
      have hlook := look_any hbr
      have hcnt : pre.length < bs.length + 1 := by
        have h1 := congrArg List.length hpre
        have h2 := came_length bs.length bs (Nat.le_refl _)
        rw [List.length_append] at h1
        have h3 : (frOf pre).length = pre.length := by simp [frOf]
        omega
      have hbr' := hbr
      obtain ⟨R, hRd⟩ := exHid (readL rest)
      rw [hRd.out] at hlook
      obtain ⟨a, cap, rfl, _, hLc, hcm, _⟩ := hbr
      have c1 := hBx1.cell
      have hLi : (0 : Int) < (rest.length : Int) := by omega
      have hx : ∀ (v' : Value) (W2 : World), Bs W2 v' R.body → (∀ k, RowOf v' k → RowOf (.slice a rest.length cap) k) → Below wr.heap.size wr W2 → ∃ x : Fx n₀ w0, x.1 = (v', R) := fun v' W2 hbv hrow hg2 =>
        ⟨⟨(v', R), fun W' hW' => hbv.at_ (fun k hk _ => by
          have hkn := hur k (hrow k hk) hL
          have e1 := hW'.block k hkn
          have e2 := hbw.block k hkn
          have e3 := hg2.block k (by omega)
          rw [e1, e3, e2]), by have := readL_short rest; rw [hRd.out] at this; show R.body.length ≤ 1000000; omega, fun hc => by have := read_len (l := rest) (by rw [hRd.out]; exact hc); rw [hRd.out] at this; exact this⟩, rfl⟩
      have hJ2 : ∀ W2, Below wr.heap.size wr W2 → J pre W2 := fun W2 hg2 => hJ pre wr W2 none hJ1 ⟨hg2.os, hg2.tape, hg2.output, hg2.size, fun k hk _ => hg2.block k hk⟩ (fun r e => by cases e)
      replace hbr' := Lib.hid hbr'
      replace hx := Lib.hid hx
      replace hJ2 := Lib.hid hJ2
      replace hlook := Lib.hid hlook
      replace hY' := Lib.hid hY
      gi_wp2_with (refine ⟨trivial, ?_⟩; gi_at_call 26; refine (callsIn_wide.2 hlook.out).mono ?_; rintro e W2 ⟨v', rfl, hbv, hrow, hg2⟩; obtain ⟨x, hxe⟩ := hx.out v' W2 hbv hrow hg2; obtain ⟨fn, tmps, assign, body, hy, hR⟩ := hY'.out pre x W2 (hJ2.out W2 hg2) hcnt; rw [hxe] at hy; dsimp only at hy)
      refine hR.mono ?_
      have hbw2 : Below n₀ w0 W2 := hbw.trans (hg2.mono hsz1)
      have hBlt := hBx1.lt
      rintro e W3 (⟨rfl, hJ3, hk3⟩ | ⟨rfl, hJx3⟩)
      · have hbw3 := hbw2.trans hk3.1
        by_cases hc : R.code = 0
        · have hBx3 : Boxed W3 B 22 (.slice a rest.length cap) := (hk3.2.trans (hg2.block B hBlt)).trans hBx1
          have hle := read_le (l := rest) (by rw [hRd.out]; exact hc)
          rw [hRd.out] at hle
          have hbr3 : Bs W3 (.slice a rest.length cap) rest := hbr'.out.at_ (fun k hk _ => by
            have hkn := hur k hk hL
            rw [hk3.1.block k hkn, hg2.block k (by omega)])
          obtain ⟨q1, q2⟩ := restV_bs hbr3 hle.2 hL
          have c3 := hBx3.cell
          have f3 := hBx3.frozen
          have hc0 : ((R.code : Int) != 0) = false := by rw [hc]; rfl
          have n1 : (0 : Int) ≤ (R.n : Int) := by omega
          have n2 : (R.n : Int) ≤ (rest.length : Int) := by omega
          have hcame : frOf (pre ++ [x]) ++ came (rest.drop R.n) = came bs := by
            have h2 := came_step h0r (by rw [hRd.out]; exact hc)
            rw [hRd.out] at h2
            rw [frOf_snoc, List.append_assoc, hxe, List.singleton_append, ← h2]
            exact hpre
          have hrel : ∀ u', u' = restV a rest.length cap R.n → ∃ (rest' : List Nat) (pre' : List (Fx n₀ w0)) (u : Value), Boxed (W3.setCell ⟨B, 0, none⟩ u') B 22 u ∧ Bs (W3.setCell ⟨B, 0, none⟩ u') u rest' ∧ (∀ k, RowOf u k → 0 < rest'.length → k < n₀) ∧ frOf pre' ++ came rest' = came bs ∧ J pre' (W3.setCell ⟨B, 0, none⟩ u') ∧ Below n₀ w0 (W3.setCell ⟨B, 0, none⟩ u') ∧ W.heap.size ≤ (W3.setCell ⟨B, 0, none⟩ u').heap.size ∧ rest'.length ≤ 1000000 := fun u' hu' => by
            subst hu'
            refine ⟨rest.drop R.n, pre ++ [x], restV a rest.length cap R.n, hBx3.set _, ?_, fun k hk _ => hur k (q2 k hk) hL, hcame, hJB _ _ _ hJ3 ⟨_, _, hBx3⟩, hbw3.setCell (p := ⟨B, 0, none⟩) hB0 _, ?_, by rw [List.length_drop]; omega⟩
            · exact q1.at_ (fun k hk _ => Below.heap_setCell _ _ _ _ (by have h3 := hur k (q2 k hk) hL; intro e; have h4 : k = B := e; omega))
            · have h1 := hk3.1.size
              have h2 := hg2.size
              simp [World.setCell]
              omega
          have hmeas : ∀ u', u' = restV a rest.length cap R.n → lenBox B (W3.setCell ⟨B, 0, none⟩ u') < lenBox B wr := fun u' hu' => by
            have e1 : lenBox B wr = rest.length := by unfold lenBox; rw [c1]
            have e2 : lenBox B (W3.setCell ⟨B, 0, none⟩ u') = rest.length - R.n := by unfold lenBox; rw [(hBx3.set u').cell, hu']; rfl
            rw [e1, e2]
            omega
          replace hrel := Lib.hid hrel
          replace hmeas := Lib.hid hmeas
          clear hcame hbr3 q1 q2 hx hlook hJ2 hY' hR hy
          by_cases hcn : cap = R.n
          · subst hcn
            gi_wp2
            go_roundw
            case rel => exact hrel.out _ (by unfold restV; rw [if_pos rfl, Nat.sub_self, show rest.length - R.n = 0 by omega])
            case measure => exact hmeas.out _ (by unfold restV; rw [if_pos rfl, Nat.sub_self, show rest.length - R.n = 0 by omega])
          · gi_wp2
            go_roundw
            case rel => exact hrel.out _ (by unfold restV; rw [if_neg hcn])
            case measure => exact hmeas.out _ (by unfold restV; rw [if_neg hcn])
        · have hc1 : ((R.code : Int) != 0) = true := by simp; omega
          gi_wp2
          refine bodyPost_ret (results_none rfl _ _ _) rfl ?_
          refine ⟨⟨_, rfl⟩, .inl ⟨pre ++ [x], ?_, hJ3⟩⟩
          have h2 := came_stop h0r (by rw [hRd.out]; exact hc)
          rw [hRd.out] at h2
          rw [frOf_snoc, hxe, ← h2]
          exact hpre
      · gi_wp2
        refine bodyPost_ret (results_none rfl _ _ _) rfl ?_
        refine ⟨⟨_, rfl⟩, .inr ⟨pre ++ [x], ?_, hJx3⟩⟩
        by_cases hc : R.code = 0
        · have h2 := came_step h0r (by rw [hRd.out]; exact hc)
          rw [hRd.out] at h2
          exact ⟨came (rest.drop R.n), by rw [frOf_snoc, hxe, List.append_assoc, List.singleton_append, ← h2]; exact hpre⟩
        · have h2 := came_stop h0r (by rw [hRd.out]; exact hc)
          rw [hRd.out] at h2
          exact ⟨[], by rw [frOf_snoc, hxe, List.append_nil, ← h2]; exact hpre⟩
end Go.Proofs.Ytdeloaknoadpiaa
