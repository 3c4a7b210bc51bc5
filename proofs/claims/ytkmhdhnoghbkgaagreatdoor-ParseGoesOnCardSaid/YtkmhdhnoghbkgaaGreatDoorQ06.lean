/- token's text (layer 7), walked: a text at the beginning of a source. Conditions: the source is no longer than it may be. -/
import Derived.Test.YtkmhdhnoghbkgaaGreatDoorQ05
import Derived.Test.YtkmhdhnoghbkgaaGreatDoorQ01
import Derived.Laws.BitsAllLaws
import Derived.Deep.QuietTactic
import Derived.BigQuiet
import Derived.RegionTactic
import Derived.Maps.AppendAt
import Derived.Laws.AppendOwnNone
import Derived.Lib.BufferRead
import Derived.Lib.AppendStr
import Derived.Lib.UnsafeStr
import Derived.Laws.IdiomStrings
set_option linter.unusedVariables false
/- token's text (layer 7), walked: a text at the beginning of a source. Conditions: the source is no longer than it may be. -/
namespace Go.Proofs.YtkmhdhnoghbkgaaGreatDoor
open Go.RowKit Tok

/-- A row of the call's own holds these bytes. -/
def BufU (w : World) (base : Nat) (v : Value) (l : List UInt8) : Prop := w.ownsRow base 5 1 v l.length (Lib.byteCells l)
theorem u8_info : (Tryz.prog.info? 5).map (fun i => (i.zero, i.size, i.bytes)) = some (some (.int .u8 0), 1, 1) := by kernel_rfl
theorem u8_parts : ∃ i0, Tryz.prog.info? 5 = some i0 ∧ i0.zero = some (.int .u8 0) ∧ i0.size = 1 ∧ i0.bytes = 1 := by
  have h := u8_info
  cases hi : Tryz.prog.info? 5 with
  | none => rw [hi] at h; simp at h
  | some i0 =>
    rw [hi] at h
    simp at h
    exact ⟨i0, rfl, h.1, h.2.1, h.2.2⟩
theorem byteCells_snoc (l : List UInt8) (c : UInt8) : Lib.byteCells (l ++ [c]) = Lib.byteCells l ++ [.int .u8 (c.toNat : Int)] := by simp [Lib.byteCells]
theorem byteCells_one (l : List UInt8) : ∀ u ∈ Lib.byteCells l, u.oneCell' = true := by
  intro u hu
  simp only [Lib.byteCells, List.mem_map] at hu
  obtain ⟨b, _, rfl⟩ := hu
  rfl
section
variable {w W : World} {base : Nat} {v : Value} {l : List UInt8}
theorem BufU.nil (w : World) (base : Nat) : BufU w base (.slice none 0 0) [] := World.ownsRow_nil _ _ _ _
theorem BufU.below (h : BufU w base v l) (hb : Below w.heap.size w W) : BufU W base v l := ownsRow_only (F := fun _ => False) h (Only.of_below hb) (fun _ _ h => h)
theorem BufU.shape (h : BufU w base v l) : ∃ a cap, v = .slice a l.length cap ∧ l.length ≤ cap ∧ cap ≤ 9223372036854775807 := ownsRow_shape h

/-- string(b) -/
theorem BufU.string (h : BufU w base v l) : (convert 69 9 v).run Tryz.prog w = .ok (.string ⟨l.toArray⟩) w := by
  rcases h.2 with ⟨hv, h0⟩ | ⟨g, cap, cur, hv, hb, hg, hnc, hcm, hsz, ht⟩
  · have h1 : l = [] := List.eq_nil_of_length_eq_zero h0
    subst h1
    rw [hv]
    exact Lib.run_convert_nil_bytes w _ _ _ 0 Tryz.underlying69 Tryz.underlying5 Tryz.underlying9
  · have hh := h
    unfold BufU at hh
    rw [hv] at hh ⊢
    refine run_convert_bytes_back w _ _ 5 ⟨g, 0, none⟩ cap l Tryz.underlying69 Tryz.underlying5 Tryz.underlying9 (fun j hj => ?_)
    rw [show (⟨g, 0, none⟩ : Addr).add j = ⟨g, j, none⟩ by simp [Addr.add]; omega, World.ownsRow.cellAt (g := g) (cap := cap) hh j (by omega)]
    simp [Lib.byteCells, List.getElem?_eq_getElem hj]

/-- append(b, c): at the operation. -/
theorem wpList_append_u8 {ops : Array Oper} {rest : List Oper} {o : Oper} {a : Act} {Q : Exit → Act → World → Prop} (hgd : o.guard = none) (s x : Operand) (T : TypeId) (hT : Tryz.prog.underlying T = some (.slice 5))
    (ho : o.op = .call { callee := .builtin .append, args := #[s, x], argTypes := #[T, T] })
    (hs : a.eval s = v) (hown : BufU w base v l) {c : UInt8} {w2 : World} (hw : w = w2.alloc (.cells #[.int .u8 (c.toNat : Int)] 5)) (hx : a.eval x = .slice (some ⟨w2.heap.size, 0, none⟩) 1 1)
    (hk : l.length ≤ 1000000000) (hbase : base ≤ w.heap.size)
    (h : ∀ a' cap w', BufU w' base (.slice a' (l.length + 1) cap) (l ++ [c]) → Below base w w' → wpList Tryz.prog ops Q rest (a.put o.dst (.slice a' (l.length + 1) cap)) w') : wpList Tryz.prog ops Q (o :: rest) a w := by
  obtain ⟨i0, hi, hz0, hz1, hz2⟩ := u8_parts
  subst hw
  refine wpList_append_own_at _ hgd s x T ho base 5 i0 (.int .u8 0) 1 1 hT hi hz0 hz1 hz2 rfl (by decide) v l.length (Lib.byteCells l) hs hown ⟨w2.heap.size, 0, none⟩ 1 1 [.int .u8 (c.toNat : Int)] hx rfl (cell_one_new _ _ _) (fun y hy => by simp at hy; subst hy; rfl) (by unfold maxLen; omega) (by omega) hbase ?_
  intro v' w' h2 h3 _ _
  obtain ⟨a', cap, rfl, _⟩ := ownsRow_shape h2
  refine h a' cap w' ?_ ((Below.refl base _).grown h3 hbase (fun k hk => (World.ownsRow.lt hown k hk).1))
  unfold BufU
  rw [byteCells_snoc, List.length_append]
  exact h2
end

def txtV : Res → Value
  | .ok _ tx _ n => .tuple #[.string ⟨tx.toArray⟩, .int .i64 n, .int .i64 0]
  | .bad n e => .tuple #[.string ⟨#[]⟩, .int .i64 n, .int .i64 e]
theorem hexT_le {r : List UInt8} {b : UInt8} {n : Nat} (h : hexT r = .ok b n) : n ≤ r.length + 2 := by
  match r with
  | [] => simp [hexT] at h
  | [e] => simp only [hexT] at h; split at h <;> simp at h
  | e :: f :: r =>
    simp only [hexT] at h
    repeat' split at h
    all_goals first
      | (simp at h; done)
      | (simp at h; simp; omega)
theorem hexT_code {r : List UInt8} {i e : Nat} (h : hexT r = .bad i e) : (e = 4 ∨ e = 9) ∧ i ≤ 3 := by
  unfold hexT at h
  repeat' split at h
  all_goals first
    | (cases h; omega)
    | (cases h)
theorem itemT_code {c : UInt8} {r : List UInt8} {i e : Nat} (h : itemT c r = .bad i e) : (e = 4 ∨ e = 9) ∧ i ≤ 3 := by
  unfold itemT at h
  repeat' split at h
  all_goals first
    | (cases h; omega)
    | (cases h; done)
    | (exact hexT_code h)
theorem itemT_le {c : UInt8} {r : List UInt8} {b : UInt8} {n : Nat} (h : itemT c r = .ok b n) : n ≤ r.length + 1 := by
  unfold itemT at h
  split at h
  · cases h
  · split at h
    · cases h; omega
    · match r, h with
      | [], h => cases h
      | d :: r, h =>
        dsimp only at h
        split at h
        · cases h; simp
        · split at h
          · cases h; simp
          · split at h
            · have := hexT_le h; simp; omega
            · cases h
theorem sub_at {s : ByteArray} {n : Nat} (h : n < s.size) : ∃ h0 : 0 < (s.extract n s.size).size, (s.extract n s.size)[0] = s[n] ∧ (s.extract n s.size).data.toList.drop 1 = s.data.toList.drop (n + 1) := by
  have e : (s.extract n s.size).data.toList = s.data.toList.drop n := Lib.extract_to_end s n
  have hsz : (s.extract n s.size).size = s.size - n := by simp
  refine ⟨by omega, ?_, by rw [e, List.drop_drop]⟩
  have h1 : (s.extract n s.size).data.toList[0]'(by rw [size_list]; omega) = s[n] := by
    simp only [e, List.getElem_drop]
    rfl
  exact h1

set_option maxRecDepth 20000 in
set_option maxHeartbeats 2000000 in
theorem text_any (s : ByteArray) (w : World) (hs : s.size ≤ 16384) (h0 : 0 < s.size) :
    Calls Tryz.prog 35 #[.string s] w fun e w' => e = .returned (txtV (textT s.data.toList)) ∧ Below w.heap.size w w' := by
  obtain ⟨R, hR⟩ := exHid (textT s.data.toList)
  rw [hR.out]
  go_enter Tryz.func35, Tryz.ntmps35
  go_wp2
  go_loopw [3, 5, 6, 7, 8] (fun t3 t5 _ _ _ wr => ∃ (n : Nat) (acc : List UInt8), 1 ≤ n ∧ n ≤ s.size ∧ t3 = .int .i64 n ∧ acc.length ≤ 4095 ∧ Hid (BufU wr w.heap.size t5 acc) ∧ Hid (Below w.heap.size w wr) ∧ Hid (textR (s.data.toList.drop n) acc n = R)) (fun t3 _ _ _ _ _ => s.size - (intOf t3).toNat)
  case atStart => exact ⟨1, [], by omega, by omega, rfl, by simp, BufU.nil _ _, Below.refl _ _, hR⟩
  case round =>
    obtain ⟨n, acc, hn1, hn, rfl, hacc, hB, hb, hT⟩ := hrel
    rcases Nat.lt_or_ge n s.size with hlt | hge
    · have hlti : (n : Int) < (s.size : Int) := by omega
      have hT' := hT.out
      rw [at_drop hlt] at hT'
      by_cases c34 : s[n].toNat = 34
      · have q1 : (((s[n].toNat : Nat) : Int) != 34) = false := by rw [c34]; rfl
        have q2 : ((n : Int) == (s.size : Int)) = false := beq_eq_false_iff_ne.2 (by omega)
        rw [textR_end _ _ _ c34] at hT'
        have hstr := hB.out.string
        obtain ⟨a5, c5, rfl, _, _⟩ := hB.out.shape
        replace hT' := Lib.hid hT'
        replace c34 := Lib.hid c34
        clear hT
        go_wp2
        go_ret3
        exact ⟨by rw [← hT'.out]; rfl, hb.out⟩
      · have q1 : (((s[n].toNat : Nat) : Int) != 34) = true := by simp; omega
        obtain ⟨e0, e1, e2⟩ := sub_at hlt
        have k1 := saidByte_any (s.extract n s.size) wr (by simp; omega) e0
        rw [e1, e2] at k1
        clear e0 e1 e2
        rcases hi : itemT s[n] (s.data.toList.drop (n + 1)) with ⟨b, i⟩ | ⟨i, e⟩
        · rw [hi] at k1
          have hip := itemT_pos hi
          have hil := itemT_le hi
          rw [List.length_drop, size_list] at hil
          by_cases hl : acc.length = 4095
          · rw [textR_long _ c34 hi hl] at hT'
            obtain ⟨a5, c5, rfl, _, _⟩ := hB.out.shape
            have q3 : ((acc.length : Int) == 4095) = true := by rw [hl]; rfl
            replace hT' := Lib.hid hT'
            replace k1 := Lib.hid k1
            clear hT hi
            go_wp2_with fail
            refine k1.out.mono ?_
            rintro e w2 ⟨rfl, rfl⟩
            unfold itemV
            go_wp2
            go_ret3
            exact ⟨by rw [← hT'.out]; rfl, hb.out⟩
          · rw [textR_more _ c34 hi hl, ← at_drop hlt, List.drop_drop] at hT'
            have q3 : ((acc.length : Int) == 4095) = false := beq_eq_false_iff_ne.2 (by omega)
            have hsz := hb.out.size
            have hB2 := Lib.hid (BufU.below hB.out ((Below.refl wr.heap.size wr).alloc (Nat.le_refl _) (.cells #[.int .u8 (b.toNat : Int)] 5)))
            obtain ⟨a5, c5, rfl, _, _⟩ := hB.out.shape
            replace hT' := Lib.hid hT'
            replace k1 := Lib.hid k1
            clear hT hi
            go_wp2_with fail
            refine k1.out.mono ?_
            rintro e w2 ⟨rfl, rfl⟩
            unfold itemV
            go_wp2_with (at_builtin; (refine wpList_append_u8 rfl _ _ _ Tryz.underlying69 rfl rfl hB2.out rfl rfl (by omega) (by simp; omega) ?_; intro a' cap' w3 hB3 hO3))
            go_roundw
            case rel => exact ⟨n + i, acc ++ [b], by omega, by omega, by simp, by simp; omega, hB3, (hb.out.alloc hsz _).trans hO3, hT'.out⟩
            case measure => simp [intOf]; omega
        · rw [hi] at k1
          rw [textR_bad _ _ c34 hi] at hT'
          obtain ⟨hc1, hc2⟩ := itemT_code hi
          have q4 : ((e : Int) != 0) = true := by simp; omega
          replace hT' := Lib.hid hT'
          replace k1 := Lib.hid k1
          clear hT hi
          go_wp2_with fail
          refine k1.out.mono ?_
          rintro e' w2 ⟨rfl, rfl⟩
          unfold itemV
          go_wp2
          go_ret3
          exact ⟨by rw [← hT'.out]; rfl, hb.out⟩
    · obtain rfl : n = s.size := by omega
      have hT' := hT.out
      rw [no_drop (Nat.le_refl _), textR_nil] at hT'
      replace hT' := Lib.hid hT'
      obtain ⟨a5, c5, rfl, _, _⟩ := hB.out.shape
      go_wp2
      go_ret3
      exact ⟨by rw [← hT'.out]; rfl, hb.out⟩
end Go.Proofs.YtkmhdhnoghbkgaaGreatDoor
