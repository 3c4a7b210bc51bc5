/- token.Spell (layer 7), walked: it answers the tokens' spelling, one behind the other. Conditions: token.signs holds the signs, the library's table of powers of ten its numbers. -/
import Derived.Test.YtkmhdhnoghbkgaaGreatDoorQ32
set_option linter.unusedVariables false
/- token.Spell (layer 7), walked: it answers the tokens' spelling, one behind the other. Conditions: token.signs holds the signs, the library's table of powers of ten its numbers. -/
namespace Go.Proofs.YtkmhdhnoghbkgaaGreatDoor
open Go.RowKit Tok

/-- What a token of a list may hold. -/
def Fit (t : Tg) : Prop := t.text.length ≤ 9223372036854775807 ∧ I64 t.num
/-- Tokens lie in memory as v, whatever they hold. -/
def TgIn (w : World) (v : Value) (ts : List Tg) : Prop :=
  ∃ a cap, v = .slice a ts.length cap ∧ ts.length ≤ cap ∧ cap ≤ 9223372036854775807 ∧ (0 < ts.length → ∃ g off, a = some ⟨g, off, none⟩ ∧ g < w.heap.size ∧ ∀ i (hi : i < ts.length) (c : Nat), c < 4 → w.cell? ⟨g, off + i * 4 + c, none⟩ = (tgC ts[i])[c]?)
theorem TgIn.below {w W : World} {v : Value} {ts : List Tg} (h : TgIn w v ts) (hb : Below w.heap.size w W) : TgIn W v ts := by
  obtain ⟨a, cap, rfl, h1, h2, h3⟩ := h
  refine ⟨a, cap, rfl, h1, h2, fun h0 => ?_⟩
  obtain ⟨g, off, rfl, hg, hc⟩ := h3 h0
  exact ⟨g, off, rfl, Nat.lt_of_lt_of_le hg hb.size, fun i hi c hc' => (hb.cell (p := ⟨g, off + i * 4 + c, none⟩) hg).trans (hc i hi c hc')⟩
/-- The four cells of a token. -/
theorem tg_cells {w W : World} {g off : Nat} {ts : List Tg} (hg : g < w.heap.size) (hc : ∀ i (hi : i < ts.length) (c : Nat), c < 4 → w.cell? ⟨g, off + i * 4 + c, none⟩ = (tgC ts[i])[c]?) (hb : Below w.heap.size w W) {i : Nat} (hi : i < ts.length) {kd : Nat} {tx : List UInt8} {x at_ : Int} (ht : ts[i] = ⟨kd, tx, x, at_⟩) :
    W.cell? ⟨g, off + i * 4, none⟩ = some (.int .u8 kd) ∧ W.cell? ⟨g, off + i * 4 + 1, none⟩ = some (.string ⟨tx.toArray⟩) ∧ W.cell? ⟨g, off + i * 4 + 2, none⟩ = some (.int .i64 x) ∧ W.cell? ⟨g, off + i * 4 + 3, none⟩ = some (.int .i64 at_) := by
  have h0 := (hb.cell (p := ⟨g, off + i * 4 + 0, none⟩) hg).trans (hc i hi 0 (by omega))
  have h1 := (hb.cell (p := ⟨g, off + i * 4 + 1, none⟩) hg).trans (hc i hi 1 (by omega))
  have h2 := (hb.cell (p := ⟨g, off + i * 4 + 2, none⟩) hg).trans (hc i hi 2 (by omega))
  have h3 := (hb.cell (p := ⟨g, off + i * 4 + 3, none⟩) hg).trans (hc i hi 3 (by omega))
  rw [ht] at h0 h1 h2 h3
  exact ⟨h0, h1, h2, h3⟩

/-- Tokens, spelled one behind the other. -/
def joinL : List Tg → List UInt8
  | [] => []
  | t :: r => spellL t ++ r.flatMap fun u => 32 :: spellL u
theorem joinL_snoc (ts : List Tg) (t : Tg) : joinL (ts ++ [t]) = if ts = [] then spellL t else joinL ts ++ 32 :: spellL t := by
  match ts with
  | [] => simp [joinL]
  | u :: r => simp [joinL]
theorem joinL_take {ts : List Tg} {i : Nat} (h : i < ts.length) : joinL (ts.take (i + 1)) = if i = 0 then spellL ts[i] else joinL (ts.take i) ++ 32 :: spellL ts[i] := by
  rw [List.take_succ_eq_append_getElem h, joinL_snoc]
  by_cases h0 : i = 0
  · subst h0; rw [if_pos (by simp), if_pos rfl]
  · have hne : ts.take i ≠ [] := fun he => h0 (by have := congrArg List.length he; rw [List.length_take, Nat.min_eq_left (by omega)] at this; simpa using this)
    rw [if_neg hne, if_neg h0]
theorem joinL_len (ts us : List Tg) : (joinL ts).length ≤ (joinL (ts ++ us)).length := by
  match ts with
  | [] => simp [joinL]
  | t :: r => simp [joinL] <;> omega
theorem joinL_le (ts : List Tg) (i : Nat) : (joinL (ts.take i)).length ≤ (joinL ts).length := by
  have := joinL_len (ts.take i) (ts.drop i)
  rwa [List.take_append_drop] at this
/-- What Spell answers: the source, and the error. -/
def spellR (ts : List Tg) : List UInt8 × Nat := if ts.all told then (if 16384 < (joinL ts).length then ([], 2) else (joinL ts, 0)) else ([], 3)
def spellV (r : List UInt8 × Nat) : Value := .tuple #[.string ⟨r.1.toArray⟩, .int .i64 r.2]
theorem spellR_bad {ts : List Tg} {i : Nat} (hi : i < ts.length) (h : told ts[i] = false) : spellR ts = ([], 3) := by
  unfold spellR
  rw [if_neg]
  intro hall
  have := List.all_eq_true.1 hall ts[i] (List.getElem_mem hi)
  rw [h] at this
  cases this
theorem all_more {ts : List Tg} {i : Nat} (hi : i < ts.length) (ha : (ts.take i).all told = true) (h : told ts[i] = true) : (ts.take (i + 1)).all told = true := by
  rw [List.take_succ_eq_append_getElem hi, List.all_append, ha]
  simp [h]

theorem told_len {t : Tg} (h : told t = true) : t.text.length ≤ 4095 := by
  unfold told at h
  by_cases c1 : t.kind = 1
  · rw [if_pos c1, Bool.and_eq_true] at h
    have h1 := h.1
    unfold nameL at h1
    cases ht : t.text with
    | nil => simp
    | cons c r => rw [ht] at h1; simp at h1; simp; omega
  · rw [if_neg c1] at h
    by_cases c2 : t.kind = 2
    · rw [if_pos c2, Bool.and_eq_true] at h
      rw [of_decide_eq_true h.2]; simp
    · rw [if_neg c2] at h
      by_cases c3 : t.kind = 3
      · rw [if_pos c3, Bool.and_eq_true] at h
        exact of_decide_eq_true h.1
      · rw [if_neg c3] at h
        by_cases c4 : t.kind = 4
        · rw [if_pos c4, Bool.and_eq_true] at h
          have h1 : t.text ∈ signs := of_decide_eq_true h.1
          have : ∀ s ∈ signs, s.length ≤ 4095 := by decide
          exact this _ h1
        · rw [if_neg c4] at h; cases h

section
variable {w W : World} {base : Nat} {v : Value} {l : List UInt8}
/-- append(b, ..) of bytes that lie in a new block, at the operation; other blocks are as they were. -/
theorem wpList_append_us2 {ops : Array Oper} {rest : List Oper} {o : Oper} {a : Act} {Q : Exit → Act → World → Prop} (hgd : o.guard = none) (s x : Operand)
    (ho : o.op = .call { callee := .builtin .append, args := #[s, x], argTypes := #[69, 69] })
    (hs : a.eval s = v) (hown : BufU w base v l) (m : List UInt8) {w2 : World} (hw : w = w2.alloc (.cells (Lib.byteCells m).toArray 5)) {q : Nat} (hx : a.eval x = .slice (some ⟨q, 0, none⟩) m.length m.length) (hq : q = w2.heap.size)
    (hk : l.length + m.length ≤ 1000000000) (hbase : base ≤ w.heap.size)
    (h : ∀ a' cap w', BufU w' base (.slice a' (l.length + m.length) cap) (l ++ m) → Below base w w' → (∀ p : Addr, p.block < w.heap.size → some p.block ≠ v.ownBlock → w'.cell? p = w.cell? p) → wpList Tryz.prog ops Q rest (a.put o.dst (.slice a' (l.length + m.length) cap)) w') : wpList Tryz.prog ops Q (o :: rest) a w := by
  obtain ⟨i0, hi, hz0, hz1, hz2⟩ := u8_parts
  subst hw
  subst hq
  refine wpList_append_own_at _ hgd s x 69 ho base 5 i0 (.int .u8 0) 1 1 Tryz.underlying69 hi hz0 hz1 hz2 rfl (by decide) v l.length (Lib.byteCells l) hs hown ⟨w2.heap.size, 0, none⟩ m.length m.length (Lib.byteCells m) hx (by rw [Lib.byteCells_length]; omega) (fun j u hj => cells_new w2 (Lib.byteCells m) _ j u hj) (byteCells_one m) (by unfold maxLen; omega) (by omega) hbase ?_
  intro v' w' h2 h3 _ _
  obtain ⟨a', cap, rfl, _⟩ := ownsRow_shape h2
  refine h a' cap w' ?_ ((Below.refl base _).grown h3 hbase (fun k hk => (World.ownsRow.lt hown k hk).1)) (fun p hp hne => h3.cell_far p hp hne)
  unfold BufU
  rw [List.length_append, show Lib.byteCells (l ++ m) = Lib.byteCells l ++ Lib.byteCells m by simp [Lib.byteCells]]
  exact h2
end

/-- The cells of a block that was made ahead of another one. -/
theorem ttwo_cells (w : World) (cs : Array Value) (t : TypeId) (o : Obj) (j : Nat) : ((w.alloc (.cells cs t)).alloc o).cell? ⟨w.heap.size, j, none⟩ = cs[j]? := by
  have h := ((Below.refl (w.alloc (.cells cs t)).heap.size (w.alloc (.cells cs t))).alloc (Nat.le_refl _) o).block w.heap.size (by simp)
  rw [heap_alloc_new] at h
  simp [World.cell?, h]

set_option maxRecDepth 20000 in
set_option maxHeartbeats 4000000 in
theorem Spell_any {w : World} {v : Value} {ts : List Tg} (h : TgIn w v ts) (hf : ∀ t ∈ ts, Fit t) (hS : SignsOK w) (hT : PowOK w.heap.size w) :
    Calls Tryz.prog 18 #[v] w fun e w' => e = .returned (spellV (spellR ts)) ∧ Below w.heap.size w w' := by
  obtain ⟨a0, cap0, rfl, hl1, hl2, h3⟩ := h
  obtain ⟨R, hR⟩ := exHid (spellR ts)
  rw [hR.out]
  replace h3 := Lib.hid h3
  replace hf := Lib.hid hf
  replace hS := Lib.hid hS
  replace hT := Lib.hid hT
  go_enter Tryz.func18, Tryz.ntmps18
  go_wp2
  go_loopw [5, 11] (fun _ t11 wr => ∃ i : Nat, i ≤ ts.length ∧ t11 = .int .i64 i ∧ Hid (Below w.heap.size w wr) ∧ Hid ((ts.take i).all told = true)) (fun _ t11 _ => ts.length - (intOf t11).toNat)
  case atStart => exact ⟨0, by omega, rfl, Below.refl _ _, rfl⟩
  case round =>
    obtain ⟨i, hi, rfl, hb, hall⟩ := hrel
    rcases Nat.lt_or_ge i ts.length with hlt | hge
    · have hlti : (i : Int) < (ts.length : Int) := by omega
      obtain ⟨g, off, rfl, hg, hc⟩ := h3.out (by omega)
      have hfit := hf.out ts[i] (List.getElem_mem hlt)
      have hbad := Lib.hid (fun h => spellR_bad hlt h)
      have hmore := Lib.hid (fun h => all_more hlt hall.out h)
      rcases hti : ts[i] with ⟨kd, tx, x, at_⟩
      obtain ⟨c0, c1, c2, c3⟩ := tg_cells hg hc hb.out hlt hti
      rw [hti] at hfit hbad hmore
      clear hc
      have k := Lib.hid (fun W (hW : Below w.heap.size w W) => isTold_any ⟨kd, tx, x, at_⟩ W (hS.out.below hW) hfit.1)
      unfold tgV at k
      dsimp only at k
      replace hfit := Lib.hid hfit
      replace hti := Lib.hid hti
      rcases hB : told ⟨kd, tx, x, at_⟩ with _ | _
      · rw [hB] at k
        have hv := Lib.hid (hbad.out hB)
        clear hB hbad hmore
        go_wp2_with fail
        refine (k.out _ (by exact hb.out.alloc hb.out.size _)).mono ?_
        rintro e w2 ⟨rfl, hb2⟩
        go_wp2
        go_ret2
        refine ⟨?_, below_next (hb.out.alloc hb.out.size _) hb2⟩
        rw [← hR.out, hv.out]; rfl
      · rw [hB] at k
        have hv := Lib.hid (hmore.out hB)
        clear hB hbad hmore
        go_wp2_with fail
        refine (k.out _ (by exact hb.out.alloc hb.out.size _)).mono ?_
        rintro e w2 ⟨rfl, hb2⟩
        go_wp2
        go_roundw
        case rel => exact ⟨i + 1, by omega, by go_num, below_next (hb.out.alloc hb.out.size _) hb2, hv⟩
        case measure => simp [intOf]; omega
    · obtain rfl : i = ts.length := by omega
      have hlti : ¬ ((ts.length : Int) < (ts.length : Int)) := by omega
      rw [List.take_length] at hall
      go_wp2
      clear hlti
      generalize hq0 : wr = wq0 at *
      replace hq0 := Lib.hid hq0
      go_loopw [6, 7, 8, 21] (fun t6 _ _ t21 wq => ∃ i : Nat, i ≤ ts.length ∧ t21 = .int .i64 i ∧ (joinL (ts.take i)).length ≤ 16384 ∧ Hid (BufU wq w.heap.size t6 (joinL (ts.take i))) ∧ Hid (Below w.heap.size w wq)) (fun _ _ _ t21 _ => ts.length - (intOf t21).toNat)
      case atStart => exact ⟨0, by omega, rfl, by simp [joinL], World.ownsRow_nil _ _ _ _, hb⟩
      case round =>
        obtain ⟨i, hi, rfl, hlen, hB, hbq⟩ := hrel
        have hsz := hbq.out.size
        obtain ⟨a6, cap6, rfl, _, _⟩ := hB.out.shape
        rcases Nat.lt_or_ge i ts.length with hlt | hge
        · have hlti : (i : Int) < (ts.length : Int) := by omega
          obtain ⟨g, off, rfl, hg, hc⟩ := h3.out (by omega)
          have hfit := (hf.out ts[i] (List.getElem_mem hlt)).2
          have htl := told_len (List.all_eq_true.1 hall.out ts[i] (List.getElem_mem hlt))
          have hnx := joinL_take hlt
          have hle := joinL_le ts (i + 1)
          rcases hti : ts[i] with ⟨kd, tx, x, at_⟩
          obtain ⟨c0, c1, c2, c3⟩ := tg_cells hg hc hbq.out hlt hti
          rw [hti] at hfit htl hnx
          dsimp only at htl hfit
          replace hti := Lib.hid hti
          clear hc
          have hB1 := BufU.below hB.out ((Below.refl wr.heap.size wr).alloc (Nat.le_refl _) (.cells #[.int .u8 kd, .string ⟨tx.toArray⟩, .int .i64 x, .int .i64 at_] 60))
          have hb1 := hbq.out.alloc hsz (.cells #[.int .u8 kd, .string ⟨tx.toArray⟩, .int .i64 x, .int .i64 at_] 60)
          have hown1 : some wr.heap.size ≠ (Value.slice a6 (joinL (ts.take i)).length cap6).ownBlock := fun he => by
            have := (World.ownsRow.lt hB.out wr.heap.size he.symm).2
            omega
          rcases Nat.eq_zero_or_pos i with h0 | h0
          · rw [if_pos h0] at hnx
            have hi0 : ¬ (0 : Int) < (i : Int) := by omega
            have hL0 : joinL (ts.take i) = [] := by rw [h0]; rfl
            have hnx' : joinL (ts.take i) ++ spellL ⟨kd, tx, x, at_⟩ = joinL (ts.take (i + 1)) := by rw [hnx, hL0]; rfl
            obtain ⟨X, hXe⟩ := exHid (joinL (ts.take (i + 1)))
            rw [hXe.out] at hnx' hle
            have k := Lib.hid (putToken_any hB1 (Nat.le_trans hsz (by simp)) ⟨kd, tx, x, at_⟩ hfit (by dsimp only; omega) (hT.out.on hb1))
            rw [hnx'] at k
            unfold tgV at k; dsimp only at k
            generalize joinL (ts.take i) = L at *
            replace hb1 := Lib.hid hb1
            clear hnx hnx' hB1 hL0 h0
            rcases Nat.lt_or_ge 16384 X.length with hX | hX
            · have hXi : (16384 : Int) < (X.length : Int) := by omega
              have hv : R = ([], 2) := by
                rw [← hR.out]; unfold spellR
                rw [if_pos hall.out, if_pos (by omega)]
              replace hv := Lib.hid hv
              go_wp2_with fail
              refine k.out.mono ?_
              rintro e w4 ⟨v4, rfl, hB4, hO4⟩
              obtain ⟨a4, cap4, rfl, _, _⟩ := hB4.shape
              replace hB4 := Lib.hid hB4
              go_wp2
              go_ret2
              exact ⟨by rw [hv.out]; rfl, hb1.out.trans hO4⟩
            · have hXi : ¬ (16384 : Int) < (X.length : Int) := by omega
              go_wp2_with fail
              refine k.out.mono ?_
              rintro e w4 ⟨v4, rfl, hB4, hO4⟩
              obtain ⟨a4, cap4, rfl, _, _⟩ := hB4.shape
              replace hB4 := Lib.hid hB4
              go_wp2
              go_roundw
              case rel => exact ⟨i + 1, by omega, by go_num, by rw [hXe.out]; exact hX, by rw [hXe.out]; exact hB4, hb1.out.trans hO4⟩
              case measure => simp [intOf]; omega
          · rw [if_neg (by omega)] at hnx
            have hi0 : (0 : Int) < (i : Int) := by omega
            have hnx' : (joinL (ts.take i) ++ [32]) ++ spellL ⟨kd, tx, x, at_⟩ = joinL (ts.take (i + 1)) := by rw [hnx]; simp
            obtain ⟨X, hXe⟩ := exHid (joinL (ts.take (i + 1)))
            rw [hXe.out] at hnx' hle
            have hs1 : w.heap.size ≤ ((wr.alloc (.cells #[.int .u8 kd, .string ⟨tx.toArray⟩, .int .i64 x, .int .i64 at_] 60)).alloc (.cells (Lib.byteCells [32]).toArray 5)).heap.size := by simp; omega
            have hB2 := Lib.hid (BufU.below hB1 ((Below.refl _ _).alloc (Nat.le_refl _) (.cells (Lib.byteCells [32]).toArray 5)))
            have hb2 := Lib.hid (hb1.alloc (Nat.le_trans hsz (by simp)) (.cells (Lib.byteCells [32]).toArray 5))
            have e0 := ttwo_cells wr #[.int .u8 kd, .string ⟨tx.toArray⟩, .int .i64 x, .int .i64 at_] 60 (.cells (Lib.byteCells [32]).toArray 5)
            have hlt2 : wr.heap.size < ((wr.alloc (.cells #[.int .u8 kd, .string ⟨tx.toArray⟩, .int .i64 x, .int .i64 at_] 60)).alloc (.cells (Lib.byteCells [32]).toArray 5)).heap.size := by simp; omega
            have k := Lib.hid (fun W (V : Value) (hBW : BufU W w.heap.size V (joinL (ts.take i) ++ [32])) (hbW : Below w.heap.size w W) => putToken_any hBW hbW.size ⟨kd, tx, x, at_⟩ hfit (by dsimp only; rw [List.length_append]; simp; omega) (hT.out.on hbW))
            rw [hnx'] at k
            unfold tgV at k; dsimp only at k
            generalize joinL (ts.take i) = L at *
            replace hb1 := Lib.hid hb1
            clear hnx hnx' hB1
            rcases Nat.lt_or_ge 16384 X.length with hX | hX
            · have hXi : (16384 : Int) < (X.length : Int) := by omega
              have hv : R = ([], 2) := by
                rw [← hR.out]; unfold spellR
                rw [if_pos hall.out, if_pos (by omega)]
              replace hv := Lib.hid hv
              go_wp2_with (at_builtin; (refine wpList_append_us2 rfl _ _ rfl rfl hB2.out [32] rfl rfl (by simp) (by simp; omega) hs1 ?_; intro a' cap' w3 hB3 hO3 hkp; have d0 := (hkp ⟨wr.heap.size, 0, none⟩ hlt2 hown1).trans (e0 0); have d1 := (hkp ⟨wr.heap.size, 1, none⟩ hlt2 hown1).trans (e0 1); have d2 := (hkp ⟨wr.heap.size, 2, none⟩ hlt2 hown1).trans (e0 2); have d3 := (hkp ⟨wr.heap.size, 3, none⟩ hlt2 hown1).trans (e0 3); simp only [List.getElem?_toArray, List.getElem?_cons_succ, List.getElem?_cons_zero] at d0 d1 d2 d3; clear hkp; replace hB3 := Lib.hid hB3; have hb3 := Lib.hid (hb2.out.trans hO3)))
              refine (k.out _ _ hB3.out hb3.out).mono ?_
              rintro e w4 ⟨v4, rfl, hB4, hO4⟩
              obtain ⟨a4, cap4, rfl, _, _⟩ := hB4.shape
              replace hB4 := Lib.hid hB4
              go_wp2
              go_ret2
              exact ⟨by rw [hv.out]; rfl, hb3.out.trans hO4⟩
            · have hXi : ¬ (16384 : Int) < (X.length : Int) := by omega
              go_wp2_with (at_builtin; (refine wpList_append_us2 rfl _ _ rfl rfl hB2.out [32] rfl rfl (by simp) (by simp; omega) hs1 ?_; intro a' cap' w3 hB3 hO3 hkp; have d0 := (hkp ⟨wr.heap.size, 0, none⟩ hlt2 hown1).trans (e0 0); have d1 := (hkp ⟨wr.heap.size, 1, none⟩ hlt2 hown1).trans (e0 1); have d2 := (hkp ⟨wr.heap.size, 2, none⟩ hlt2 hown1).trans (e0 2); have d3 := (hkp ⟨wr.heap.size, 3, none⟩ hlt2 hown1).trans (e0 3); simp only [List.getElem?_toArray, List.getElem?_cons_succ, List.getElem?_cons_zero] at d0 d1 d2 d3; clear hkp; replace hB3 := Lib.hid hB3; have hb3 := Lib.hid (hb2.out.trans hO3)))
              refine (k.out _ _ hB3.out hb3.out).mono ?_
              rintro e w4 ⟨v4, rfl, hB4, hO4⟩
              obtain ⟨a4, cap4, rfl, _, _⟩ := hB4.shape
              replace hB4 := Lib.hid hB4
              go_wp2
              go_roundw
              case rel => exact ⟨i + 1, by omega, by go_num, by rw [hXe.out]; exact hX, by rw [hXe.out]; exact hB4, hb3.out.trans hO4⟩
              case measure => simp [intOf]; omega
        · obtain rfl : i = ts.length := by omega
          have hlti : ¬ ((ts.length : Int) < (ts.length : Int)) := by omega
          rw [List.take_length] at hB hlen
          have hv : R = (joinL ts, 0) := by
            rw [← hR.out]; unfold spellR
            rw [if_pos hall.out, if_neg (by omega)]
          replace hv := Lib.hid hv
          have hstr := BufU.string hB.out
          go_wp2
          go_ret2
          exact ⟨by rw [hv.out]; rfl, hbq.out⟩
end Go.Proofs.YtkmhdhnoghbkgaaGreatDoor
