import Derived.Test.YtmgbebpkkidooaaDoorTSpellP
import Derived.Deep.AppendLies
import Derived.Deep.RegionLaw
/- token's putByte writes what TSpellP.escL says: all four ways walked (the fourth by go_region_law and step_append_lies). -/
namespace Go.Proofs.YtmgbebpkkidooaaDoor
open Go.RowKit Tok
section
variable {w W : World} {base : Nat} {v : Value} {l : List UInt8}
/-- append(b, ..) of bytes that lie in a new block: at the operation. -/
theorem wpList_append_us {ops : Array Oper} {rest : List Oper} {o : Oper} {a : Act} {Q : Exit → Act → World → Prop} (hgd : o.guard = none) (s x : Operand)
    (ho : o.op = .call { callee := .builtin .append, args := #[s, x], argTypes := #[50, 50] })
    (hs : a.eval s = v) (hown : BufU w base v l) (m : List UInt8) {w2 : World} (hw : w = w2.alloc (.cells (Lib.byteCells m).toArray 5)) (hx : a.eval x = .slice (some ⟨w2.heap.size, 0, none⟩) m.length m.length)
    (hk : l.length + m.length ≤ 1000000000) (hbase : base ≤ w.heap.size)
    (h : ∀ a' cap w', BufU w' base (.slice a' (l.length + m.length) cap) (l ++ m) → Below base w w' → wpList Tryd.prog ops Q rest (a.put o.dst (.slice a' (l.length + m.length) cap)) w') : wpList Tryd.prog ops Q (o :: rest) a w := by
  obtain ⟨i0, hi, hz0, hz1, hz2⟩ := u8_parts
  subst hw
  refine wpList_append_own_at _ hgd s x 50 ho base 5 i0 (.int .u8 0) 1 1 Tryd.underlying50 hi hz0 hz1 hz2 rfl (by decide) v l.length (Lib.byteCells l) hs hown ⟨w2.heap.size, 0, none⟩ m.length m.length (Lib.byteCells m) hx (by rw [Lib.byteCells_length]; omega) (fun j u hj => cells_new w2 (Lib.byteCells m) _ j u hj) (byteCells_one m) (by unfold maxLen; omega) (by omega) hbase ?_
  intro v' w' h2 h3 _ _
  obtain ⟨a', cap, rfl, _⟩ := ownsRow_shape h2
  refine h a' cap w' ?_ ((Below.refl base _).grown h3 hbase (fun k hk => (World.ownsRow.lt hown k hk).1))
  unfold BufU
  rw [List.length_append, show Lib.byteCells (l ++ m) = Lib.byteCells l ++ Lib.byteCells m by simp [Lib.byteCells]]
  exact h2
/-- What a call that puts bytes behind b answers. -/
def PutU (w : World) (base : Nat) (l : List UInt8) (e : Ending) (w' : World) : Prop := ∃ v', e = .returned v' ∧ BufU w' base v' l ∧ Below base w w'

/-- A digit of the constant, as the walk reads it. -/
def hxV (x : Int) (h0 : 0 ≤ x) (h1 : x < 16) : Value := .int .u8 (((⟨#[48, 49, 50, 51, 52, 53, 54, 55, 56, 57, 97, 98, 99, 100, 101, 102]⟩ : ByteArray)[x.toNat]'(by show x.toNat < 16; omega)).toNat : Int)
theorem hx_eq (n : Nat) (x : Int) (h0 : 0 ≤ x) (h1 : x < 16) (hn : x = (n : Int)) : hxV x h0 h1 = .int .u8 ((hexD n).toNat : Int) := by
  subst hn
  have key : ∀ m, (h : m < 16) → (⟨#[48, 49, 50, 51, 52, 53, 54, 55, 56, 57, 97, 98, 99, 100, 101, 102]⟩ : ByteArray)[m]'h = hexD m := by decide +kernel
  unfold hxV
  simp only [Int.toNat_natCast]
  rw [key n (by omega)]
theorem hx_one (x y : Int) (h0 : 0 ≤ x) (h1 : x < 16) (h2 : 0 ≤ y) (h3 : y < 16) : ∀ u ∈ [Value.int .u8 92, .int .u8 120, hxV x h0 h1, hxV y h2 h3], u.oneCell' = true := by
  intro u hu
  simp only [List.mem_cons, List.not_mem_nil, or_false] at hu
  rcases hu with rfl | rfl | rfl | rfl <;> rfl
theorem and_all (c : UInt8) : bits BinOp.and IntKind.u8 (c.toNat : Int) 15 = (c.toNat : Int) % 16 := by
  revert c
  refine byte_all ?_
  decide +kernel
set_option maxRecDepth 20000 in
set_option maxHeartbeats 2000000 in
theorem putByte_any (h : BufU w base v l) (hb : base ≤ w.heap.size) (hl : l.length ≤ 100000000) (c : UInt8) :
    Calls Tryd.prog 54 #[v, .int .u8 (c.toNat : Int)] w (PutU w base (l ++ escL c)) := by
  have hsh := h.shape
  have hB := Lib.hid (fun (m : List UInt8) => BufU.below h ((Below.refl w.heap.size w).alloc (Nat.le_refl _) (.cells (Lib.byteCells m).toArray 5)))
  by_cases h1 : c.toNat = 34 ∨ c.toNat = 92
  · have he : escL c = [92, c] := if_pos h1
    rw [he]
    have hq : (((c.toNat : Int) == 34) = true) ∨ ((((c.toNat : Int) == 34) = false) ∧ (((c.toNat : Int) == 92) = true)) := by
      rcases h1 with h1 | h1
      · left; rw [h1]; rfl
      · right; rw [h1]; exact ⟨rfl, rfl⟩
    clear h1 he
    rcases hq with q1 | ⟨q1, q2⟩
    all_goals
      go_enter Tryd.func54, Tryd.ntmps54
      go_wp2_with (at_builtin; (refine wpList_append_us rfl _ _ rfl rfl (hB.out [92, c]) [92, c] rfl rfl (by simp; omega) (by simp; omega) ?_; intro a' cap' w3 hB3 hO3))
      go_ret
      exact ⟨_, rfl, hB3, ((Below.refl base w).alloc hb _).trans hO3⟩
  · have n1 : ((c.toNat : Int) == 34) = false := beq_eq_false_iff_ne.2 (by omega)
    have n2 : ((c.toNat : Int) == 92) = false := beq_eq_false_iff_ne.2 (by omega)
    by_cases h2 : c.toNat = 10
    · have he : escL c = [92, 110] := by unfold escL; rw [if_neg h1, if_pos h2]
      rw [he]
      have q1 : ((c.toNat : Int) == 10) = true := by rw [h2]; rfl
      clear h1 he
      replace h2 := Lib.hid h2
      go_enter Tryd.func54, Tryd.ntmps54
      go_wp2_with (at_builtin; (refine wpList_append_us rfl _ _ rfl rfl (hB.out [92, 110]) [92, 110] rfl rfl (by simp; omega) (by simp; omega) ?_; intro a' cap' w3 hB3 hO3))
      go_ret
      exact ⟨_, rfl, hB3, ((Below.refl base w).alloc hb _).trans hO3⟩
    · have q1 : ((c.toNat : Int) == 10) = false := beq_eq_false_iff_ne.2 (by omega)
      rcases hp : plainC c with _ | _
      · have k1 := Lib.hid (fun W => calls_at (isPlain_any c W) hp)
        have he : escL c = [92, 120, hexD (c.toNat / 16), hexD (c.toNat % 16)] := by unfold escL; rw [if_neg h1, if_neg h2, if_neg (by rw [hp]; simp)]
        rw [he]
        clear h1 h2 hp he
        go_enter Tryd.func54, Tryd.ntmps54
        go_wp2_with fail
        refine (k1.out _).mono ?_
        rintro e w2 ⟨rfl, rfl⟩
        obtain ⟨i0, hi, hz0, hz1, hz2⟩ := u8_parts
        have b1 : (0 : Int) ≤ (c.toNat : Int) / 16 := by omega
        have b2 : (c.toNat : Int) / 16 < 16 := by have := UInt8.toNat_lt c; omega
        have hand : bits BinOp.and IntKind.u8 (c.toNat : Int) 15 = (c.toNat : Int) % 16 := and_all c
        have b3 : (0 : Int) ≤ (c.toNat : Int) % 16 := by omega
        have b4 : (c.toNat : Int) % 16 < 16 := by omega
        have hown := Lib.hid (fun W (hW : Below w2.heap.size w2 W) => BufU.below h hW)
        go_wp2_with fail
        go_region_law ((refine step_append_lies (w2.drew.alloc (.cells #[.int .u8 92, .int .u8 120, hxV ((c.toNat : Int) / 16) b1 b2, hxV ((c.toNat : Int) % 16) b3 b4] 5)) rfl (.tmp 26) (.tmp 33) 50 rfl base 5 i0 (.int .u8 0) 1 1 Tryd.underlying50 hi hz0 hz1 hz2 rfl (by decide) v l.length (Lib.byteCells l) rfl (hown.out _ ((Below.refl _ w2).drew.alloc (Nat.le_refl _) _)) ⟨w2.heap.size, 0, none⟩ 4 4 [.int .u8 92, .int .u8 120, hxV ((c.toNat : Int) / 16) b1 b2, hxV ((c.toNat : Int) % 16) b3 b4] rfl rfl (fun j u hj => cells_new w2.drew _ _ j u hj) (hx_one _ _ _ _ _ _) (by omega) (by unfold maxLen; omega) (by omega) (by simp; omega) _ rfl ?_; intro g cap w3 h2 h3 _ _))
        all_goals
          go_wp2_with fail
          go_ret
          refine ⟨_, rfl, ?_, ((Below.refl base w2).drew.alloc hb _).grown h3 (by simp; omega) (fun k hk => (World.ownsRow.lt h k hk).1)⟩
          rw [hx_eq (c.toNat / 16) _ b1 b2 (by omega), hx_eq (c.toNat % 16) _ b3 b4 (by omega)] at h2
          unfold BufU
          rw [List.length_append, show Lib.byteCells (l ++ [92, 120, hexD (c.toNat / 16), hexD (c.toNat % 16)]) = Lib.byteCells l ++ Lib.byteCells [92, 120, hexD (c.toNat / 16), hexD (c.toNat % 16)] by simp [Lib.byteCells]]
          exact h2
      · have k1 := Lib.hid (fun W => calls_at (isPlain_any c W) hp)
        have he : escL c = [c] := by unfold escL; rw [if_neg h1, if_neg h2, if_pos hp]
        rw [he]
        clear h1 h2 hp he
        go_enter Tryd.func54, Tryd.ntmps54
        go_wp2_with fail
        refine (k1.out _).mono ?_
        rintro e w2 ⟨rfl, rfl⟩
        go_wp2_with (at_builtin; (refine wpList_append_us rfl _ _ rfl rfl (hB.out [c]) [c] rfl rfl (by simp; omega) (by simp; omega) ?_; intro a' cap' w3 hB3 hO3))
        go_ret
        exact ⟨_, rfl, hB3, ((Below.refl base _).alloc hb _).trans hO3⟩
end
end Go.Proofs.YtmgbebpkkidooaaDoor
