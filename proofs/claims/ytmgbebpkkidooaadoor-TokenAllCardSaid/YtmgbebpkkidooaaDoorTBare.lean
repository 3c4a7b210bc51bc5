/- The law's bare and Alike (layer 7) on any tokens, walked. -/
import Derived.Test.YtmgbebpkkidooaaDoorTBackP
import Derived.Test.YtmgbebpkkidooaaDoorTWake
namespace Go.Proofs.YtmgbebpkkidooaaDoor
open Go.RowKit Tok

theorem tgC_len (t : Tg) : (tgC t).length = 4 := rfl
theorem tgC_one (t : Tg) : ∀ u ∈ tgC t, u.oneCell' = true := by
  intro u hu
  simp only [tgC, List.mem_cons, List.not_mem_nil, or_false] at hu
  rcases hu with rfl | rfl | rfl | rfl <;> rfl
theorem tg_of_tk (t : Tk) : tgC (toG t) = tkC t := rfl
/-- Tokens that were read, as any tokens. -/
theorem TkIn.tgIn {w : World} {v : Value} {ts : List Tk} (h : TkIn w v ts) : TgIn w v (ts.map toG) := by
  obtain ⟨a, cap, rfl, h1, h2, h3⟩ := h
  refine ⟨a, cap, by rw [List.length_map], by rw [List.length_map]; exact h1, h2, fun h0 => ?_⟩
  obtain ⟨g, off, rfl, hg, hc⟩ := h3 (by rwa [List.length_map] at h0)
  refine ⟨g, off, rfl, hg, fun i hi c hc' => ?_⟩
  rw [List.getElem_map, tg_of_tk]
  exact hc i (by rwa [List.length_map] at hi) c hc'
/-- A row of the call's own holds these tokens. -/
def TgsAt (w : World) (base : Nat) (v : Value) (ts : List Tg) : Prop := w.ownsRow base 29 4 v ts.length (rowOf tgC ts)
section
variable {w W : World} {base : Nat} {v : Value} {ts : List Tg}
theorem TgsAt.below (h : TgsAt w base v ts) (hb : Below w.heap.size w W) : TgsAt W base v ts := ownsRow_only (F := fun _ => False) h (Only.of_below hb) (fun _ _ h => h)
theorem TgsAt.shape (h : TgsAt w base v ts) : ∃ a cap, v = .slice a ts.length cap ∧ ts.length ≤ cap ∧ cap ≤ 9223372036854775807 := ownsRow_shape h
theorem TgsAt.tgIn (h : TgsAt w base v ts) : TgIn w v ts := by
  rcases h.2 with ⟨hv, h0⟩ | ⟨g, cap, cur, hv, hb, hg, hnc, hcm, hsz, ht⟩
  · exact ⟨none, 0, by rw [hv, h0], by omega, by omega, fun h => by omega⟩
  · refine ⟨_, cap, hv, hnc, by unfold maxLen at hcm; omega, fun h0 => ⟨g, 0, rfl, (Array.getElem?_eq_some_iff.1 hg).1, fun i hi c hc => ?_⟩⟩
    have hh := h
    unfold TgsAt at hh
    rw [hv] at hh
    have := World.ownsRow.cellAt (g := g) (cap := cap) hh (i * 4 + c) (by omega)
    rw [Nat.zero_add, this]
    exact rowOf_get tgC_len ts i c hi hc
end
/-- append(l, t): at the operation. -/
theorem wpList_append_tg {w : World} {base : Nat} {v : Value} {ts : List Tg} {ops : Array Oper} {rest : List Oper} {o : Oper} {a : Act} {Q : Exit → Act → World → Prop} (hgd : o.guard = none) (s x : Operand)
    (ho : o.op = .call { callee := .builtin .append, args := #[s, x], argTypes := #[22, 22] })
    (hs : a.eval s = v) (hown : TgsAt w base v ts) (t : Tg) {w2 : World} (hw : w = w2.alloc (.cells (tgC t).toArray 29)) {q : Nat} (hx : a.eval x = .slice (some ⟨q, 0, none⟩) 1 1) (hq : q = w2.heap.size)
    (hk : ts.length ≤ 1000000000) (hbase : base ≤ w.heap.size)
    (h : ∀ a' cap w', TgsAt w' base (.slice a' (ts.length + 1) cap) (ts ++ [t]) → Below base w w' → wpList Tryd.prog ops Q rest (a.put o.dst (.slice a' (ts.length + 1) cap)) w') : wpList Tryd.prog ops Q (o :: rest) a w := by
  obtain ⟨i0, hi, hz0, hz1, hz2⟩ := tk_parts
  subst hw
  subst hq
  refine wpList_append_own_at _ hgd s x 22 ho base 29 i0 (.agg #[.int .u8 0, .string ⟨#[]⟩, .int .i64 0, .int .i64 0]) 4 40 Tryd.underlying22 hi hz0 hz1 hz2 rfl (by decide) v ts.length (rowOf tgC ts) hs hown ⟨w2.heap.size, 0, none⟩ 1 1 (tgC t) hx rfl (fun j u hj => cells_new w2 (tgC t) _ j u hj) (tgC_one t) (by unfold maxLen; omega) (by omega) hbase ?_
  intro v' w' h2 h3 _ _
  obtain ⟨a', cap, rfl, _⟩ := ownsRow_shape h2
  refine h a' cap w' ?_ ((Below.refl base _).grown h3 hbase (fun k hk => (World.ownsRow.lt hown k hk).1))
  unfold TgsAt
  rw [rowOf_snoc, List.length_append]
  exact h2

set_option maxRecDepth 20000 in
set_option maxHeartbeats 2000000 in
theorem bare_any {w : World} {v : Value} {ts : List Tg} (h : TgIn w v ts) (hn : ts.length ≤ 100000000) :
    Calls Tryd.prog 13 #[v] w fun e w' => ∃ v', e = .returned v' ∧ TgIn w' v' (ts.map bareG) ∧ Below w.heap.size w w' := by
  obtain ⟨a0, cap0, rfl, hl1, hl2, h3⟩ := h
  replace h3 := Lib.hid h3
  go_enter Tryd.func13, Tryd.ntmps13
  go_wp2
  go_loopw [3, 4, 5] (fun t3 t4 _ wr => ∃ i : Nat, i ≤ ts.length ∧ t4 = .int .i64 i ∧ Hid (TgsAt wr w.heap.size t3 ((ts.take i).map bareG)) ∧ Hid (Below w.heap.size w wr)) (fun _ t4 _ _ => ts.length - (intOf t4).toNat)
  case atStart => exact ⟨0, by omega, rfl, World.ownsRow_nil _ _ _ _, Below.refl _ _⟩
  case round =>
    obtain ⟨i, hi, rfl, hB, hb⟩ := hrel
    have hsz := hb.out.size
    have hln : ((ts.take i).map bareG).length = i := by rw [List.length_map, List.length_take, Nat.min_eq_left hi]
    obtain ⟨a3, cap3, rfl, _, _⟩ := hB.out.shape
    rcases Nat.lt_or_ge i ts.length with hlt | hge
    · have hlti : (i : Int) < (ts.length : Int) := by omega
      obtain ⟨g, off, rfl, hg, hc⟩ := h3.out (by omega)
      have hnx : (ts.take (i + 1)).map bareG = (ts.take i).map bareG ++ [bareG ts[i]] := by
        rw [List.take_succ_eq_append_getElem hlt, List.map_append]; rfl
      rcases hti : ts[i] with ⟨kd, tx, x, at_⟩
      obtain ⟨c0, c1, c2, c3⟩ := tg_cells hg hc hb.out hlt hti
      rw [hti] at hnx
      replace hti := Lib.hid hti
      replace hnx := Lib.hid hnx
      clear hc
      generalize (ts.take i).map bareG = L at *
      have hle : L.length ≤ 100000000 := by omega
      replace hln := Lib.hid hln
      have hB2 := Lib.hid (hB.out.below (((Below.refl wr.heap.size wr).alloc (Nat.le_refl _) (.cells #[.int .u8 kd, .string ⟨tx.toArray⟩, .int .i64 x, .int .i64 0] 29)).alloc (by simp) (.cells (tgC ⟨kd, tx, x, 0⟩).toArray 29)))
      have hb2 := Lib.hid ((hb.out.alloc hsz (.cells #[.int .u8 kd, .string ⟨tx.toArray⟩, .int .i64 x, .int .i64 0] 29)).alloc (by simp; omega) (.cells (tgC ⟨kd, tx, x, 0⟩).toArray 29))
      go_wp2_with (at_builtin; (refine wpList_append_tg rfl _ _ rfl rfl hB2.out ⟨kd, tx, x, 0⟩ rfl rfl (by simp) (by omega) hb2.out.size ?_; intro a' cap' w3 hB3 hO3))
      go_roundw
      case rel => exact ⟨i + 1, by omega, by go_num, by rw [hnx.out]; exact hB3, hb2.out.trans hO3⟩
      case measure => simp [intOf]; omega
    · obtain rfl : i = ts.length := by omega
      have hlti : ¬ ((ts.length : Int) < (ts.length : Int)) := by omega
      rw [List.take_length] at hB
      replace hln := Lib.hid hln
      go_wp2
      go_ret
      refine ⟨_, rfl, ?_, hb.out⟩
      have h := hB.out.tgIn
      rw [List.length_map] at h
      exact h

set_option maxRecDepth 20000 in
set_option maxHeartbeats 1000000 in
/-- Alike of two lists of the same tokens. -/
theorem alike_tg {w : World} {v1 v2 : Value} {ts : List Tg} (h1 : TgIn w v1 ts) (h2 : TgIn w v2 ts) :
    Calls Tryd.prog 10 #[v1, v2] w fun e w' => e = .returned (.bool true) ∧ Below w.heap.size w w' := by
  obtain ⟨a1, cap1, rfl, _, _, k1⟩ := h1
  obtain ⟨a2, cap2, rfl, hlc, hcm, k2⟩ := h2
  have hne : ((ts.length : Int) != (ts.length : Int)) = false := by simp
  replace k1 := Lib.hid k1
  replace k2 := Lib.hid k2
  go_enter Tryd.func10, Tryd.ntmps10
  go_wp2
  go_loopw [5] (fun t5 wr => ∃ i : Nat, i ≤ ts.length ∧ t5 = .int .i64 i ∧ Below w.heap.size w wr) (fun t5 _ => ts.length - (intOf t5).toNat)
  case atStart => exact ⟨0, by omega, rfl, Below.refl _ _⟩
  case round =>
    obtain ⟨i, hi, rfl, hbw⟩ := hrel
    rcases Nat.lt_or_ge i ts.length with hlt | hge
    · obtain ⟨b1, o1, rfl, hl1, hc1⟩ := k1.out (by omega)
      obtain ⟨b2, o2, rfl, hl2, hc2⟩ := k2.out (by omega)
      have hlti : (i : Int) < (ts.length : Int) := by omega
      have x1 := fun n c (h : c < 4) => ((below_drewN hbw n).cell (p := ⟨b1, o1 + i * 4 + c, none⟩) hl1).trans (hc1 i hlt c h)
      have x2 := fun n c (h : c < 4) => ((below_drewN hbw n).cell (p := ⟨b2, o2 + i * 4 + c, none⟩) hl2).trans (hc2 i hlt c h)
      generalize ts[i] = t at *
      obtain ⟨kd, tx, x, at_⟩ := t
      have p0 := fun n => x1 n 0 (by omega); have p1 := fun n => x1 n 1 (by omega); have p2 := fun n => x1 n 2 (by omega); have p3 := fun n => x1 n 3 (by omega)
      have q0 := fun n => x2 n 0 (by omega); have q1 := fun n => x2 n 1 (by omega); have q2 := fun n => x2 n 2 (by omega); have q3 := fun n => x2 n 3 (by omega)
      simp only [tgC, List.getElem?_cons_succ, List.getElem?_cons_zero, Nat.add_zero] at p0 p1 p2 p3 q0 q1 q2 q3
      clear x1 x2 hc1 hc2
      replace hbw := Lib.hid hbw
      go_wp2
      go_quiet (fail)
      go_wp2
      go_roundw
      case rel => exact ⟨i + 1, by omega, by go_num, below_drewN hbw.out _⟩
      case measure => simp [intOf]; omega
    · obtain rfl : i = ts.length := by omega
      have hlti : ¬ ((ts.length : Int) < (ts.length : Int)) := by omega
      go_wp2
      go_ret
      exact ⟨rfl, hbw⟩
end Go.Proofs.YtmgbebpkkidooaaDoor
