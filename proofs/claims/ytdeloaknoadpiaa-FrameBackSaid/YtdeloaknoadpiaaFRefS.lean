/- The document's Split, and Same (layer 6), walked. -/
import Derived.Test.YtdeloaknoadpiaaFRead2
import Derived.Test.YtdeloaknoadpiaaFBods
import Derived.Test.YtdeloaknoadpiaaFCame
namespace Go.Proofs.Ytdeloaknoadpiaa
open Go.RowKit Crc

section
variable {w : World} {base : Nat} {v : Value} {l : List Nat}
/-- append onto a row of slices, at the operation. -/
theorem wpList_append_row {ops : Array Oper} {rest : List Oper} {o : Oper} {a : Act} {Q : Exit → Act → World → Prop} (hgd : o.guard = none) (s x : Operand)
    (ho : o.op = .call { callee := .builtin .append, args := #[s, x], argTypes := #[29, 29] })
    {vs : List Value} {k : Nat} (hs : a.eval s = v) (hown : w.ownsRow base 22 1 v k vs) {u : Value}
    {w2 : World} (hw : w = w2.alloc (.cells #[u] 22)) (hx : a.eval x = .slice (some ⟨w2.heap.size, 0, none⟩) 1 1) (hu : u.oneCell' = true)
    (hk : k ≤ 1000000000) (hbase : base ≤ w.heap.size)
    (h : ∀ g' cap w', w'.ownsRow base 22 1 (.slice (some ⟨g', 0, none⟩) (k + 1) cap) (k + 1) (vs ++ [u]) → w.grownBy w' v.ownBlock → wpList Try.prog ops Q rest (a.put o.dst (.slice (some ⟨g', 0, none⟩) (k + 1) cap)) w') : wpList Try.prog ops Q (o :: rest) a w := by
  obtain ⟨i0, hi, hz0, hz1, hz2⟩ := infoS_parts
  subst hw
  refine wpList_append_own_at _ hgd s x 29 ho base 22 i0 (.slice none 0 0) 1 24 Try.underlying29 hi hz0 hz1 hz2 rfl (by decide) v k vs hs hown ⟨w2.heap.size, 0, none⟩ 1 1 [u] hx rfl (cell_one_new _ _ _) (fun y hy => by simp at hy; subst hy; exact hu) (by unfold maxLen; omega) (by omega) hbase ?_
  intro v' w' h2 h3 _ _
  obtain ⟨g', cap, rfl, _⟩ := ownsRow_head h2 (by omega)
  exact h g' cap w' h2 h3

/-- Bodies, one more: what memory comes to. -/
theorem bods_more {w1 W2 : World} {v' u : Value} {ls : List (List Nat)} {m : List Nat} {vs : List Value} (h1 : vs.length = ls.length) (h2 : W2.ownsRow base 22 1 v ls.length vs) (h3 : ∀ i, i < ls.length → ∃ u, vs[i]? = some u ∧ Buf8 W2 base u (ls.getD i []))
    (hu : Buf8 W2 base u m) (hb : base ≤ W2.heap.size) (hown : w1.ownsRow base 22 1 v' (ls.length + 1) (vs ++ [u])) (hgr : (W2.alloc (.cells #[u] 22)).grownBy w1 v.ownBlock) :
    Bods w1 base v' (ls ++ [m]) ∧ Below base W2 w1 := by
  refine ⟨Bods.snoc h1 h2 h3 hu hown hgr, ((Below.refl base W2).alloc hb _).grown hgr (by simp; omega) (fun k hk => ?_)⟩
  exact (h2.lt k hk).1

set_option maxRecDepth 20000 in
set_option maxHeartbeats 1000000 in
theorem refSplit_any (h : Bs w v l) (hl : l.length ≤ 1000000) :
    Calls Try.prog 21 #[v] w fun e w' => ∃ v', e = .returned (.tuple #[v', .int .i64 (splitL l).at_, .int .i64 (splitL l).code]) ∧ Bods w' w.heap.size v' (splitL l).bodies ∧ Below w.heap.size w w' := by
  have hBs := h
  obtain ⟨a, cap, rfl, hBy, h1, h2, h3⟩ := h
  replace hBs := Lib.hid hBs
  go_enter Try.func21, Try.ntmps21
  go_wp2
  go_loopw [5, 6, 7, 8, 9] (fun t5 t6 _ _ _ wr => ∃ (q : List Fr) (rest : List Nat), q ++ came rest = came l ∧ (∀ y ∈ q, y.code = 0) ∧ lensL q + rest.length = l.length ∧ rest = l.drop (lensL q) ∧ t6 = .int .i64 (lensL q : Nat) ∧ Bods wr w.heap.size t5 (q.map (·.body)) ∧ Below w.heap.size w wr) (fun _ t6 _ _ _ _ => l.length - (intOf t6).toNat)
  case atStart => exact ⟨[], l, rfl, fun y hy => by simp at hy, by simp [lensL], rfl, rfl, Bods.nil _ _, Below.refl _ _⟩
  case round =>
    obtain ⟨q, rest, hq, hall, hlen, hrest, rfl, hB, hbw⟩ := hrel
    by_cases h0 : rest = []
    · subst h0
      have hge : ¬ (lensL q : Int) < (l.length : Int) := by simp at hlen; omega
      have e2 := (came_split l.length l (Nat.le_refl _)).1 (by rw [← hq, came_nil, List.append_nil]; exact hall)
      rw [← hq, came_nil, List.append_nil] at e2
      have hlq : lensL q ≤ l.length := by omega
      replace e2 := Lib.hid e2
      clear hlen hrest hq
      go_wp2
      go_ret3
      refine ⟨_, by rw [e2.out]; rfl, by rw [e2.out]; exact hB, hbw⟩
    · have hpos : 0 < rest.length := List.length_pos_iff.2 h0
      obtain ⟨b, off, rfl, _, _⟩ := hBy (by omega)
      have hlt : (lensL q : Int) < (l.length : Int) := by omega
      have hltc : (lensL q : Int) ≤ (cap : Int) := by omega
      have hne : ¬ cap = lensL q := by omega
      have hbr : ∀ W, Below w.heap.size w W → Bs W (.slice (some ⟨b, off + lensL q, none⟩) (l.length - lensL q) (cap - lensL q)) rest := fun W hb => by
        rw [hrest]; exact bs_rest (hBs.out.below hb) (lensL q) (by omega)
      have hRd := refRead_any (hbr wr hbw)
      have hR0 := readL_short rest
      obtain ⟨R, hRe⟩ := exHid (readL rest)
      rw [hRe.out] at hRd hR0
      replace hbr := Lib.hid hbr
      by_cases hc : R.code = 0
      · have hc0 : ((R.code : Int) != 0) = false := by rw [hc]; rfl
        have h2 := came_step h0 (by rw [hRe.out]; exact hc)
        have hle := read_le (l := rest) (by rw [hRe.out]; exact hc)
        rw [hRe.out] at h2 hle
        have hlq : q.length ≤ 1000000 := by
          have h4 := congrArg List.length hq
          have h5 := came_length l.length l (Nat.le_refl _)
          rw [List.length_append] at h4
          omega
        obtain ⟨vs, hv1, hv2, hv3⟩ := hB
        obtain ⟨av, capv, rfl, _, _⟩ := ownsRow_shape hv2
        have hvk : ∀ W, Below wr.heap.size wr W → W.ownsRow w.heap.size 22 1 (.slice av q.length capv) q.length vs := fun W hb => by
          have := ownsRow_kept hv2 (cellsKept_below hb)
          rwa [List.length_map] at this
        have hv2' : ∀ W, Below wr.heap.size wr W → W.ownsRow w.heap.size 22 1 (.slice av q.length capv) (q.map (·.body)).length vs := fun W hb => by rw [List.length_map]; exact hvk W hb
        have hv3' : ∀ W, Below wr.heap.size wr W → ∀ i, i < (q.map (·.body)).length → ∃ u, vs[i]? = some u ∧ Buf8 W w.heap.size u ((q.map (·.body)).getD i []) := fun W hb i hi => by
          obtain ⟨u, hu, hB⟩ := hv3 i hi
          exact ⟨u, hu, ownsRow_kept hB (cellsKept_below hb)⟩
        have hqn : (lensL q : Int) + (R.n : Int) ≤ 1000000 := by omega
        have hqq : ∀ W' v', Bods W' w.heap.size v' (q.map (·.body) ++ [R.body]) → Below w.heap.size w W' → ∃ (q' : List Fr) (rest' : List Nat), q' ++ came rest' = came l ∧ (∀ y ∈ q', y.code = 0) ∧ lensL q' + rest'.length = l.length ∧ rest' = l.drop (lensL q') ∧ Value.int .i64 ((lensL q : Nat) + (R.n : Int)) = .int .i64 (lensL q' : Nat) ∧ Bods W' w.heap.size v' (q'.map (·.body)) ∧ Below w.heap.size w W' := fun W' v' hB' hb' => by
          refine ⟨q ++ [R], rest.drop R.n, ?_, ?_, ?_, ?_, ?_, ?_, hb'⟩
          · rw [List.append_assoc, List.singleton_append, ← h2]; exact hq
          · intro y hy
            rcases List.mem_append.1 hy with h | h
            · exact hall y h
            · simp at h; rw [h]; exact hc
          · rw [lensL_snoc, List.length_drop]; omega
          · rw [lensL_snoc, hrest, List.drop_drop]
          · rw [lensL_snoc]; simp
          · rw [List.map_append]; exact hB'
        replace hqq := Lib.hid hqq
        replace hvk := Lib.hid hvk
        replace hv2' := Lib.hid hv2'
        replace hv3' := Lib.hid hv3'
        have hszr := hbw.size
        clear h2 hq hrest hv2 hv3 hall
        go_wp2_with (first
          | ((with_reducible refine hRd.mono ?_); rintro e w2 ⟨v2, rfl, hu, hg2⟩; obtain ⟨ua, ucap, rfl, _, _⟩ := ownsRow_shape hu)
          | (at_builtin; (refine wpList_append_row (base := w.heap.size) (v := .slice av q.length capv) (k := q.length) (w2 := w2) rfl _ _ rfl rfl (hvk.out _ (hg2.alloc hg2.size _)) rfl rfl rfl (by omega) (by have := hg2.size; simp; omega) ?_; intro g' cap' w3 hown hgr; obtain ⟨hBo, hbo⟩ := bods_more hv1 (hv2'.out _ hg2) (hv3'.out _ hg2) (hu.lift (fun q hq => by have := (hu.base_ q hq).1; omega)) (by have := hg2.size; omega) (by rw [List.length_map]; exact hown) hgr)))
        go_roundw
        case rel => exact hqq.out _ _ hBo ((below_next hbw hg2).trans hbo)
        case measure => simp [intOf]; omega
      · have hc1 : ((R.code : Int) != 0) = true := by simp; omega
        have h2 := came_stop h0 (by rw [hRe.out]; exact hc)
        rw [hRe.out] at h2
        obtain ⟨e2, _⟩ := (came_split l.length l (Nat.le_refl _)).2 q R (by rw [← hq, h2]) hc
        replace e2 := Lib.hid e2
        clear hlen hrest hq h2
        go_wp2_with ((with_reducible refine hRd.mono ?_); rintro e w2 ⟨v2, rfl, _, hg2⟩)
        go_ret3
        exact ⟨_, by rw [e2.out]; rfl, by rw [e2.out]; exact hB.below hg2, below_next hbw hg2⟩
end
end Go.Proofs.Ytdeloaknoadpiaa
