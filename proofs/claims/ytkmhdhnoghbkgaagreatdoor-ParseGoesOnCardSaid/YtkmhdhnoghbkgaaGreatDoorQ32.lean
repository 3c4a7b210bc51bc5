/- token's putToken (layer 7), walked: what a token is spelled as goes behind b. Condition: the library's table of powers of ten holds its numbers. -/
import Derived.Test.YtkmhdhnoghbkgaaGreatDoorQ31
import Derived.Lib.AppendStr
import Derived.Lib.ItoaLen
import Derived.Lib.ItoaMem
set_option linter.unusedVariables false
/- token's putToken (layer 7), walked: what a token is spelled as goes behind b. Condition: the library's table of powers of ten holds its numbers. -/
namespace Go.Proofs.YtkmhdhnoghbkgaaGreatDoor
open Go.RowKit Tok

/-- What a token is spelled as. -/
def spellL (t : Tg) : List UInt8 := if t.kind = 2 then Lib.itoa t.num else if t.kind = 3 then textL t.text else t.text
/-- The table of powers of ten. -/
abbrev PowOK (base : Nat) (w : World) : Prop := Lib.TabBelow Tryz.prog base w "internal/strconv.uint64pow10" .u64 Lib.pow10Tab
section
variable {w W : World} {base : Nat} {v : Value} {l : List UInt8}
theorem strCells_eq (m : List UInt8) : Lib.strCells ⟨m.toArray⟩ = Lib.byteCells m := by
  simp [Lib.strCells, Lib.byteCells]
/-- append(b, s...): at the operation. -/
theorem wpList_append_ustr {ops : Array Oper} {rest : List Oper} {o : Oper} {a : Act} {Q : Exit → Act → World → Prop} (hgd : o.guard = none) (s x : Operand)
    (ho : o.op = .call { callee := .builtin .append, args := #[s, x], argTypes := #[69, 9] })
    (hs : a.eval s = v) (hown : BufU w base v l) (m : List UInt8) (hx : a.eval x = .string ⟨m.toArray⟩)
    (hk : l.length + m.length ≤ 1000000000) (hbase : base ≤ w.heap.size)
    (h : ∀ a' cap w', BufU w' base (.slice a' (l.length + m.length) cap) (l ++ m) → Below base w w' → wpList Tryz.prog ops Q rest (a.put o.dst (.slice a' (l.length + m.length) cap)) w') : wpList Tryz.prog ops Q (o :: rest) a w := by
  obtain ⟨i0, hi, hz0, hz1, hz2⟩ := u8_parts
  have hsz : (⟨m.toArray⟩ : ByteArray).size = m.length := by simp [ByteArray.size]
  refine Lib.wpList_append_own_string w hgd s x 69 9 ho base 5 i0 Tryz.underlying69 Tryz.underlying9 hi hz0 hz1 hz2 v l.length (Lib.byteCells l) hs hown ⟨m.toArray⟩ hx (by rw [hsz]; unfold maxLen; omega) (by rw [hsz]; omega) hbase ?_
  intro v' w' h2 h3 _
  rw [hsz, strCells_eq] at h2
  obtain ⟨a', cap, rfl, _⟩ := ownsRow_shape h2
  refine h a' cap w' ?_ ((Below.refl base _).grown h3 hbase (fun k hk => (World.ownsRow.lt hown k hk).1))
  unfold BufU
  rw [List.length_append, show Lib.byteCells (l ++ m) = Lib.byteCells l ++ Lib.byteCells m by simp [Lib.byteCells]]
  exact h2

theorem append_int (h : BufU w base v l) (hb : base ≤ w.heap.size) (hl : l.length ≤ 1000000000) {x : Int} (hx : I64 x) (hT : PowOK base w) :
    Calls Tryz.prog 75 #[v, .int .i64 x, .int .i64 10] w (PutU w base (l ++ Lib.itoa x)) := by
  refine (Tryz.strconv_AppendInt_10 base l.length x hx.1 hx.2 v (Lib.byteCells l) w h hb (by omega) hT).mono ?_
  rintro e w2 ⟨v', rfl, h2, h3, _⟩
  refine ⟨v', rfl, ?_, h3⟩
  unfold BufU
  rw [List.length_append, show Lib.byteCells (l ++ Lib.itoa x) = Lib.byteCells l ++ Lib.byteCells (Lib.itoa x) by simp [Lib.byteCells]]
  exact h2

set_option maxRecDepth 20000 in
set_option maxHeartbeats 2000000 in
theorem putToken_any (h : BufU w base v l) (hb : base ≤ w.heap.size) (t : Tg) (hx : I64 t.num) (hl : l.length + 4 * t.text.length ≤ 80000000) (hT : PowOK base w) :
    Calls Tryz.prog 39 #[v, tgV t] w (PutU w base (l ++ spellL t)) := by
  obtain ⟨kd, tx, x, at_⟩ := t
  unfold tgV; dsimp only at *
  have hB := Lib.hid (BufU.below h ((Below.refl w.heap.size w).alloc (Nat.le_refl _) (.cells #[.int .u8 kd, .string ⟨tx.toArray⟩, .int .i64 x, .int .i64 at_] 60)))
  have hO := Lib.hid ((Below.refl base w).alloc hb (.cells #[.int .u8 kd, .string ⟨tx.toArray⟩, .int .i64 x, .int .i64 at_] 60))
  have hb' : base ≤ (w.alloc (.cells #[.int .u8 kd, .string ⟨tx.toArray⟩, .int .i64 x, .int .i64 at_] 60)).heap.size := Nat.le_trans hb hO.out.size
  have hsz : (⟨tx.toArray⟩ : ByteArray).size = tx.length := by simp [ByteArray.size]
  by_cases c2 : kd = 2
  · subst c2
    have he : spellL ⟨2, tx, x, at_⟩ = Lib.itoa x := rfl
    rw [he]
    have k := Lib.hid (append_int hB.out hb' (by omega) hx (hT.on hO.out))
    clear hT he hb'
    go_enter Tryz.func39, Tryz.ntmps39
    go_wp2_with fail
    refine k.out.mono ?_
    rintro e w2 ⟨v2, rfl, hB2, hO2⟩
    go_wp2
    go_ret
    exact ⟨v2, rfl, hB2, hO.out.trans hO2⟩
  · have n2 : ((kd : Int) == 2) = false := beq_eq_false_iff_ne.2 (by omega)
    by_cases c3 : kd = 3
    · subst c3
      have he : spellL ⟨3, tx, x, at_⟩ = textL tx := rfl
      rw [he]
      have k := Lib.hid (putText_any hB.out hb' ⟨tx.toArray⟩ (by rw [hsz]; omega))
      clear hT he hb' hsz
      go_enter Tryz.func39, Tryz.ntmps39
      go_wp2_with fail
      refine k.out.mono ?_
      rintro e w2 ⟨v2, rfl, hB2, hO2⟩
      go_wp2
      go_ret
      exact ⟨v2, rfl, by simpa using hB2, hO.out.trans hO2⟩
    · have n3 : ((kd : Int) == 3) = false := beq_eq_false_iff_ne.2 (by omega)
      have he : spellL ⟨kd, tx, x, at_⟩ = tx := by
        unfold spellL
        rw [if_neg c2, if_neg c3]
      rw [he]
      clear hT he hsz
      go_enter Tryz.func39, Tryz.ntmps39
      go_wp2_with (at_builtin; (refine wpList_append_ustr rfl _ _ rfl rfl hB.out tx rfl (by omega) hb' ?_; intro a' cap' w3 hB3 hO3))
      go_ret
      exact ⟨_, rfl, hB3, hO.out.trans hO3⟩
end
end Go.Proofs.YtkmhdhnoghbkgaaGreatDoor
