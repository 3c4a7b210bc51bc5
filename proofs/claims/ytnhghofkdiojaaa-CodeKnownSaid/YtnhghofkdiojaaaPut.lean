/- Contracts of code's writers: a number, a whole number, a text. -/
import Derived.Test.YtnhghofkdiojaaaCLst
import Derived.Test.YtnhghofkdiojaaaRd3
import Derived.Maps.AppendAt
import Derived.Lib.AppendStr
namespace Go.Proofs.Ytnhghofkdiojaaa
open Go.RowKit

/-- Bytes as cells. -/
def cellsN (l : List Nat) : List Value := l.map fun (b : Nat) => Value.int .u8 (b : Int)
theorem cellsN_append (l m : List Nat) : cellsN (l ++ m) = cellsN l ++ cellsN m := by simp [cellsN]
/-- A row of the call's own holds bytes. -/
def Buf8 (w : World) (base : Nat) (v : Value) (l : List Nat) : Prop := w.ownsRow base 5 1 v l.length (cellsN l)
/-- Where the bytes lie next. -/
def OwnNext (w : World) (v v' : Value) : Prop := ∀ k, v'.ownBlock = some k → v.ownBlock = some k ∨ w.heap.size ≤ k
/-- The blocks of a row. -/
def RowOf (v : Value) (k : Nat) : Prop := v.ownBlock = some k

theorem info8 : (Try.prog.info? 5).map (fun i => (i.zero, i.size, i.bytes)) = some (some (.int .u8 0), 1, 1) := by kernel_rfl
theorem info8_parts : ∃ i0, Try.prog.info? 5 = some i0 ∧ i0.zero = some (.int .u8 0) ∧ i0.size = 1 ∧ i0.bytes = 1 := by
  have h := info8
  cases hi : Try.prog.info? 5 with
  | none => rw [hi] at h; simp at h
  | some i0 =>
    rw [hi] at h
    simp at h
    exact ⟨i0, rfl, h.1, h.2.1, h.2.2⟩
set_option maxRecDepth 20000 in
theorem or128 : ∀ x, x < 256 → x ||| 128 = x % 128 + 128 := by decide
theorem one_byte {a : Int} : ∀ u ∈ [Value.int .u8 a], u.oneCell' = true := by
  intro u hu; simp at hu; subst hu; rfl

section
variable {w : World} {base : Nat} {v : Value} {l : List Nat}
theorem Buf8.only {w' : World} {F : Nat → Prop} (h : Buf8 w base v l) (ho : Only F w w') (hF : ∀ k, RowOf v k → ¬ F k) : Buf8 w' base v l := ownsRow_only h ho hF
theorem Buf8.nil (w : World) (base : Nat) : Buf8 w base (.slice none 0 0) [] := World.ownsRow_nil _ _ _ _

theorem grown_next {W : World} {v v1 : Value} (hloc : v1.ownBlock = v.ownBlock ∨ v1.ownBlock = some W.heap.size) (hz : w.heap.size ≤ W.heap.size) : OwnNext w v v1 := by
  intro k hk
  rcases hloc with h | h
  · exact .inl (h ▸ hk)
  · rw [h] at hk; injection hk with hk; exact .inr (by omega)
theorem OwnNext.then {W : World} {v0 v1 v2 : Value} (h1 : OwnNext w v0 v1) (h2 : OwnNext W v1 v2) (hz : w.heap.size ≤ W.heap.size) : OwnNext w v0 v2 := by
  intro k hk
  rcases h2 k hk with h | h
  · exact h1 k h
  · exact .inr (by omega)
theorem Only.next {W w2 : World} {v0 v1 : Value} (h1 : Only (RowOf v0) w W) (h2 : Only (RowOf v1) W w2) (hn : OwnNext w v0 v1) : Only (RowOf v0) w w2 :=
  h1.trans h2 (fun _ _ h => h) (fun k hk h => by
    rcases hn k h with h' | h'
    · exact h'
    · exact absurd hk (by omega))

/-- What one append makes. -/
theorem put_step {wr w1 : World} {v0 t0 v1 : Value} {l' : List Nat} {c : Int} {b : Nat} (ho : Only (RowOf v0) w wr) (hn : OwnNext w v0 t0)
    (hown : w1.ownsRow base 5 1 v1 (l'.length + 1) (cellsN l' ++ [.int .u8 c])) (hc : c = (b : Int)) (hg : (wr.alloc (.cells #[.int .u8 c] 5)).grownBy w1 t0.ownBlock)
    (hloc : v1.ownBlock = t0.ownBlock ∨ v1.ownBlock = some (wr.alloc (.cells #[.int .u8 c] 5)).heap.size) :
    Buf8 w1 base v1 (l' ++ [b]) ∧ Only (RowOf v0) w w1 ∧ OwnNext w v0 v1 := by
  have h1 : Only (RowOf t0) wr w1 := ((Only.refl (RowOf t0) wr).alloc _).then (Only.of_grown hg (fun k hk => hk))
  refine ⟨?_, ho.next h1 hn, hn.then (W := wr) (grown_next hloc (by simp)) ho.size⟩
  unfold Buf8
  rw [cellsN_append, List.length_append, ← show [Value.int .u8 c] = cellsN [b] by rw [hc]; rfl]
  exact hown

set_option maxRecDepth 100000 in
set_option maxHeartbeats 2000000 in
theorem putUint_any (h : Buf8 w base v l) (hb : base ≤ w.heap.size) (hlen : l.length ≤ 1099511627776) (n : Nat) (hn : n < 18446744073709551616) :
    Calls Try.prog 30 #[v, .int .u64 n] w fun e w' => ∃ v', e = .returned v' ∧ Buf8 w' base v' (l ++ uintL n) ∧ Only (RowOf v) w w' ∧ OwnNext w v v' := by
  obtain ⟨i0, hi, hz0, hz1, hz2⟩ := info8_parts
  have h10 := uintL_len10 hn
  replace h := Lib.hid h
  go_enter Try.func30, Try.ntmps30
  go_wp2
  go_loopw [0, 1] (fun t0 t1 wr => ∃ (l' : List Nat) (m : Nat), Hid (l' ++ uintL m = l ++ uintL n) ∧ t1 = .int .u64 m ∧ m < 18446744073709551616 ∧ Buf8 wr base t0 l' ∧ Only (RowOf v) w wr ∧ OwnNext w v t0) (fun _ t1 _ => (intOf t1).toNat)
  case atStart => exact ⟨l, n, rfl, rfl, hn, h.out, Only.refl _ _, fun k hk => .inl hk⟩
  case round =>
    obtain ⟨l', m, hl, rfl, hm, hB, hO, hN⟩ := hrel
    have hbl : base ≤ wr.heap.size := Nat.le_trans hb hO.size
    have hll : l'.length ≤ 2199023255552 := by
      have h1 : (l' ++ uintL m).length = (l ++ uintL n).length := by rw [hl.out]
      rw [List.length_append, List.length_append] at h1
      omega
    by_cases h128 : m < 128
    · have hlt : ¬ (128 : Int) ≤ m := by omega
      have hc8 : IntKind.u8.wrap (m : Int) = (m : Int) := by rw [IntKind.wrap_u8']; omega
      have hown := World.ownsRow.alloc hB (.cells #[.int .u8 (m : Int)] 5)
      have hS := Lib.hid (uintL_small h128)
      replace hown := Lib.hid hown
      replace hO := Lib.hid hO
      replace hN := Lib.hid hN
      go_wp2_with (at_builtin; (refine wpList_append_own_at _ rfl _ _ 22 rfl base 5 i0 (.int .u8 0) 1 1 Try.underlying22 hi hz0 hz1 hz2 rfl (by decide) _ l'.length (cellsN l') rfl hown.out ⟨wr.heap.size, 0, none⟩ 1 1 [.int .u8 (m : Int)] rfl rfl (cell_one_new _ _ _) one_byte (by unfold maxLen; omega) (by omega) (by simp; omega) ?_; intro v1 w1 hown1 hg1 _ hloc1))
      go_ret
      obtain ⟨q1, q2, q3⟩ := put_step hO.out hN.out hown1 rfl hg1 hloc1
      refine ⟨v1, rfl, ?_, q2, q3⟩
      rw [← hl.out, hS.out]
      exact q1
    · have hlt : (128 : Int) ≤ m := by omega
      have hc8 : IntKind.u8.wrap (m : Int) = ((m % 256 : Nat) : Int) := by rw [IntKind.wrap_u8']; omega
      have hor : bits .or .u8 (IntKind.u8.wrap (m : Int)) 128 = ((m % 128 + 128 : Nat) : Int) := by
        rw [hc8, show (128 : Int) = ((128 : Nat) : Int) by rfl, u8_or_nat _ _ (by omega) (by omega)]
        rw [or128 _ (by omega), show m % 256 % 128 = m % 128 by omega]
      have hown := World.ownsRow.alloc hB (.cells #[.int .u8 (bits .or .u8 (IntKind.u8.wrap (m : Int)) 128)] 5)
      have hS := Lib.hid (uintL_big h128)
      replace hown := Lib.hid hown
      replace hO := Lib.hid hO
      replace hN := Lib.hid hN
      replace hor := Lib.hid hor
      clear hc8
      go_wp2_with (at_builtin; (refine wpList_append_own_at _ rfl _ _ 22 rfl base 5 i0 (.int .u8 0) 1 1 Try.underlying22 hi hz0 hz1 hz2 rfl (by decide) _ l'.length (cellsN l') rfl hown.out ⟨wr.heap.size, 0, none⟩ 1 1 [.int .u8 (bits .or .u8 (IntKind.u8.wrap (m : Int)) 128)] rfl rfl (cell_one_new _ _ _) one_byte (by unfold maxLen; omega) (by omega) (by simp; omega) ?_; intro v1 w1 hown1 hg1 _ hloc1))
      go_roundw
      case rel =>
        obtain ⟨q1, q2, q3⟩ := put_step hO.out hN.out hown1 hor.out hg1 hloc1
        refine ⟨l' ++ [m % 128 + 128], m / 128, ?_, by go_num, by omega, q1, q2, q3⟩
        show _ = _
        rw [← hl.out, hS.out, List.append_assoc]
        rfl
      case measure => simp [intOf]; omega

theorem not64 (x : Nat) (h : x < 18446744073709551616) : 18446744073709551615 ^^^ x = 18446744073709551615 - x := by
  have h1 : (BitVec.allOnes 64 ^^^ BitVec.ofNat 64 x).toNat = 18446744073709551615 ^^^ x := by
    rw [BitVec.toNat_xor, BitVec.toNat_allOnes, BitVec.toNat_ofNat, Nat.mod_eq_of_lt h]
  rw [← h1, BitVec.allOnes_xor, BitVec.toNat_not, BitVec.toNat_ofNat, Nat.mod_eq_of_lt h]
theorem notU {x : Nat} (h : x < 18446744073709551616) : bits .xor .u64 18446744073709551615 (x : Int) = ((18446744073709551615 - x : Nat) : Int) := by
  have := u64_xor_nat 18446744073709551615 x (by omega) h
  rw [show ((18446744073709551615 : Nat) : Int) = 18446744073709551615 by rfl] at this
  rw [this, not64 x h]

set_option maxHeartbeats 400000 in
theorem fold_any {i : Int} (hi : I64 i) (w : World) :
    Calls Try.prog 37 #[.int .i64 i] w fun e w' => e = .returned (.int .u64 (foldN i : Nat)) ∧ w = w' := by
  obtain ⟨h1, h2⟩ := hi
  rcases Int.lt_or_le i 0 with hs | hs
  · have E : Hid (foldN i = 18446744073709551615 - (2 * (i + 18446744073709551616) - 18446744073709551616).toNat) := by show foldN i = _; unfold foldN; rw [if_pos hs]; omega
    have e1 : Hid (IntKind.u64.wrap (IntKind.u64.wrap i * 2) = (((2 * (i + 18446744073709551616) - 18446744073709551616).toNat : Nat) : Int)) := by
      show IntKind.u64.wrap (IntKind.u64.wrap i * 2) = _
      rw [IntKind.wrap_u64, IntKind.wrap_u64]; omega
    have hsg : IntKind.u64.signed = false := rfl
    go_enter Try.func37, Try.ntmps37
    go_wp2
    go_ret
    refine ⟨ret_int ?_, rfl⟩
    rw [E.out, e1.out]
    exact notU (by omega)
  · have E : Hid ((foldN i : Int) = 2 * i) := by show (foldN i : Int) = _; unfold foldN; rw [if_neg (by omega)]; omega
    have hs' : ¬ i < 0 := by omega
    go_enter Try.func37, Try.ntmps37
    go_wp2
    go_ret
    refine ⟨ret_int ?_, rfl⟩
    rw [E.out]
    omega

/-- New bytes. -/
def Wrote (l : List Nat) (w : World) (e : Ending) (w' : World) : Prop := ∃ v, e = .returned v ∧ Buf8 w' w.heap.size v l ∧ Below w.heap.size w w'
theorem wrote_of {l : List Nat} {w' : World} {e : Ending} (h : ∃ v', e = .returned v' ∧ Buf8 w' w.heap.size v' l ∧ Only (RowOf (.slice none 0 0)) w w' ∧ OwnNext w (.slice none 0 0) v') : Wrote l w e w' := by
  obtain ⟨v', he, hB, hO, _⟩ := h
  exact ⟨v', he, hB, hO.below (Nat.le_refl _) (fun k _ h => by simp [RowOf, Value.ownBlock] at h)⟩

set_option maxHeartbeats 400000 in
theorem PutUint_any (n : Nat) (hn : n < 18446744073709551616) (w : World) : Calls Try.prog 8 #[.int .u64 n] w (Wrote (uintL n) w) := by
  have hP := (putUint_any (Buf8.nil w w.heap.size) (Nat.le_refl _) (by simp) n hn).mono fun e w' h => wrote_of h
  go_enter Try.func8, Try.ntmps8
  go_wp2_with ((with_reducible refine hP.mono ?_); rintro e w' ⟨v, rfl, hB, hb⟩)
  go_ret
  exact ⟨v, rfl, hB, hb⟩
set_option maxHeartbeats 400000 in
theorem PutInt_any {i : Int} (hi : I64 i) (w : World) : Calls Try.prog 14 #[.int .i64 i] w (Wrote (uintL (foldN i)) w) := by
  have hP := (putUint_any (Buf8.nil w w.heap.size) (Nat.le_refl _) (by simp) (foldN i) (foldN_lt hi.1 hi.2)).mono fun e w' h => wrote_of h
  have hF := fold_any hi
  go_enter Try.func14, Try.ntmps14
  go_wp2_with (first
    | ((with_reducible refine (hF _).mono ?_); rintro e w' ⟨rfl, rfl⟩)
    | ((with_reducible refine hP.mono ?_); rintro e w' ⟨v, rfl, hB, hb⟩))
  go_ret
  exact ⟨v, rfl, hB, hb⟩

/-- A text's bytes. -/
def strN (s : ByteArray) : List Nat := s.data.toList.map (·.toNat)
theorem strN_length (s : ByteArray) : (strN s).length = s.size := by simp [strN]
theorem strCells_eq (s : ByteArray) : Lib.strCells s = cellsN (strN s) := by
  unfold Lib.strCells cellsN strN
  rw [List.map_map]
  rfl

/-- Bytes are put behind others of the call's own: the row may move; what lies below the base stays. -/
def PutOn (base : Nat) (w : World) (l : List Nat) (e : Ending) (w' : World) : Prop := ∃ v', e = .returned v' ∧ Buf8 w' base v' l ∧ Below base w w'
theorem row_base {w : World} {base k n : Nat} {e : TypeId} {v : Value} {xs : List Value} (h : w.ownsRow base e k v n xs) : ∀ q, RowOf v q → base ≤ q := fun q hq => (h.lt q hq).1
theorem putUint_on {w : World} {base : Nat} {v : Value} {l : List Nat} (h : Buf8 w base v l) (hb : base ≤ w.heap.size) (hlen : l.length ≤ 1099511627776) (n : Nat) (hn : n < 18446744073709551616) :
    Calls Try.prog 30 #[v, .int .u64 n] w (PutOn base w (l ++ uintL n)) :=
  (putUint_any h hb hlen n hn).mono fun _ _ ⟨v', he, hB, hO, _⟩ => ⟨v', he, hB, hO.below hb (fun k hk h' => by have := row_base h k h'; omega)⟩

set_option maxHeartbeats 1000000 in
theorem putText_on {w : World} {base : Nat} {v : Value} {l : List Nat} (h : Buf8 w base v l) (hb : base ≤ w.heap.size) (hlen : l.length ≤ 1099511627776) (s : ByteArray) (hs : s.size ≤ 1099511627776) :
    Calls Try.prog 38 #[v, .string s] w (PutOn base w (l ++ (uintL s.size ++ strN s))) := by
  obtain ⟨i0, hi, hz0, hz1, hz2⟩ := info8_parts
  have hP := putUint_on h hb hlen s.size (by omega)
  have h10 := uintL_len10 (n := s.size) (by omega)
  have hsn := strN_length s
  have hcl := Lib.hid (strCells_eq s)
  replace hsn := Lib.hid hsn
  go_enter Try.func38, Try.ntmps38
  go_wp2_with (first
    | ((with_reducible refine hP.mono ?_); rintro e w1 ⟨v1, rfl, hB1, hb1⟩)
    | (at_builtin; (refine Lib.wpList_append_own_string _ rfl _ _ 22 9 rfl base 5 i0 Try.underlying22 Try.underlying9 hi hz0 hz1 hz2 v1 (l ++ uintL s.size).length (cellsN (l ++ uintL s.size)) rfl hB1 s rfl (by rw [List.length_append]; unfold maxLen; omega) (by rw [List.length_append]; omega) (Nat.le_trans hb hb1.size) ?_; intro v2 w2 hown2 hg2 _)))
  go_ret
  refine ⟨v2, rfl, ?_, hb1.grown hg2 (Nat.le_trans hb hb1.size) (fun k hk => row_base hB1 k hk)⟩
  have e1 : (l ++ (uintL s.size ++ strN s)).length = (l ++ uintL s.size).length + s.size := by
    have := hsn.out
    simp only [List.length_append]
    omega
  unfold Buf8
  rw [e1, ← List.append_assoc, cellsN_append, ← hcl.out]
  exact hown2

set_option maxHeartbeats 400000 in
theorem PutText_any (s : ByteArray) (hs : s.size ≤ 1099511627776) (w : World) : Calls Try.prog 15 #[.string s] w (Wrote (uintL s.size ++ strN s) w) := by
  have hP := putText_on (Buf8.nil w w.heap.size) (Nat.le_refl _) (by simp) s hs
  go_enter Try.func15, Try.ntmps15
  go_wp2_with ((with_reducible refine hP.mono ?_); rintro e w' ⟨v, rfl, hB, hb⟩)
  go_ret
  exact ⟨v, rfl, hB, hb⟩
end
end Go.Proofs.Ytnhghofkdiojaaa
