/- A part of the proof: UPut. No condition. -/
import Derived.Laws.DeepNot64
import Derived.Laws.IdiomStrings
import Derived.Maps.AppendAt
import Derived.Lib.AppendStr
import Derived.Laws.AppendOwnNone
import Derived.Lib.BufferRead
import Derived.Test.YtcabolfookofoaaGreatDoorQ02
set_option linter.unusedVariables false
set_option linter.unusedSimpArgs false
namespace Go.Proofs.YtcabolfookofoaaGreatDoor
open Go.RowKit
def cellsN (l : List Nat) : List Value := l.map fun (b : Nat) => Value.int .u8 (b : Int)
theorem cellsN_append (l m : List Nat) : cellsN (l ++ m) = cellsN l ++ cellsN m := by simp [cellsN]
def Buf8 (w : World) (base : Nat) (v : Value) (l : List Nat) : Prop := w.ownsRow base 5 1 v l.length (cellsN l)
def OwnNext (w : World) (v v' : Value) : Prop := ∀ k, v'.ownBlock = some k → v.ownBlock = some k ∨ w.heap.size ≤ k
def RowOf (v : Value) (k : Nat) : Prop := v.ownBlock = some k
theorem info8 : (Tryz.prog.info? 5).map (fun i => (i.zero, i.size, i.bytes)) = some (some (.int .u8 0), 1, 1) := by kernel_rfl
theorem info8_parts : ∃ i0, Tryz.prog.info? 5 = some i0 ∧ i0.zero = some (.int .u8 0) ∧ i0.size = 1 ∧ i0.bytes = 1 := by
 have h := info8;cases hi : Tryz.prog.info? 5 with
 | none => rw [hi] at h; simp at h
 | some i0 =>
   rw [hi] at h;simp at h
   exact ⟨i0, rfl, h.1, h.2.1, h.2.2⟩
set_option maxRecDepth 20000 in
theorem or128 : ∀ x, x < 256 → x ||| 128 = x % 128 + 128 := by decide
theorem one_byte {a : Int} : ∀ u ∈ [Value.int .u8 a], u.oneCell' = true := by
 intro u hu; simp at hu; subst hu; rfl
section
variable {w : World} {base : Nat} {v : Value} {l : List Nat}
theorem Buf8.only {w' : World} {F : Nat → Prop} (h : Buf8 w base v l) (ho : Only F w w') (hF : ∀ k, RowOf v k → ¬ F k) : Buf8 w' base v l := ownsRow_only h ho hF
theorem Buf8.nil (w : World) (base : Nat) : Buf8 w base (.slice none 0 0) [] := World.ownsRow_nil _ _ _ _
theorem grown_next {W : World} {v v1 : Value} (hloc : v1.ownBlock = v.ownBlock ∨ v1.ownBlock = some W.heap.size) (hz : w.heap.size ≤ W.heap.size) : OwnNext w v v1 := by
 intro k hk;rcases hloc with h | h
 · exact .inl (h ▸ hk)
 · rw [h] at hk; injection hk with hk; exact .inr (by omega)
theorem OwnNext.then {W : World} {v0 v1 v2 : Value} (h1 : OwnNext w v0 v1) (h2 : OwnNext W v1 v2) (hz : w.heap.size ≤ W.heap.size) : OwnNext w v0 v2 := by
 intro k hk;rcases h2 k hk with h | h
 · exact h1 k h
 · exact .inr (by omega)
theorem Only.next {W w2 : World} {v0 v1 : Value} (h1 : Only (RowOf v0) w W) (h2 : Only (RowOf v1) W w2) (hn : OwnNext w v0 v1) : Only (RowOf v0) w w2 :=
 h1.trans h2 (fun _ _ h => h) (fun k hk h => by
   rcases hn k h with h' | h'
   · exact h'
   · exact absurd hk (by omega))
theorem put_step {wr w1 : World} {v0 t0 v1 : Value} {l' : List Nat} {c : Int} {b : Nat} (ho : Only (RowOf v0) w wr) (hn : OwnNext w v0 t0)
   (hown : w1.ownsRow base 5 1 v1 (l'.length + 1) (cellsN l' ++ [.int .u8 c])) (hc : c = (b : Int)) (hg : (wr.alloc (.cells #[.int .u8 c] 5)).grownBy w1 t0.ownBlock)
   (hloc : v1.ownBlock = t0.ownBlock ∨ v1.ownBlock = some (wr.alloc (.cells #[.int .u8 c] 5)).heap.size) :
   Buf8 w1 base v1 (l' ++ [b]) ∧ Only (RowOf v0) w w1 ∧ OwnNext w v0 v1 := by
 have h1 : Only (RowOf t0) wr w1 := ((Only.refl (RowOf t0) wr).alloc _).then (Only.of_grown hg (fun k hk => hk));refine ⟨?_, ho.next h1 hn, hn.then (W := wr) (grown_next hloc (by simp)) ho.size⟩;unfold Buf8;rw [cellsN_append, List.length_append, ← show [Value.int .u8 c] = cellsN [b] by rw [hc]; rfl];exact hown
set_option maxRecDepth 100000 in
set_option maxHeartbeats 2000000 in
theorem putUint_any (h : Buf8 w base v l) (hb : base ≤ w.heap.size) (hlen : l.length ≤ 1099511627776) (n : Nat) (hn : n < 18446744073709551616) :
   Calls Tryz.prog 80 #[v, .int .u64 n] w fun e w' => ∃ v', e = .returned v' ∧ Buf8 w' base v' (l ++ uintL n) ∧ Only (RowOf v) w w' ∧ OwnNext w v v' := by
 obtain ⟨i0, hi, hz0, hz1, hz2⟩ := info8_parts;have h10 := uintL_len10 hn;replace h := Lib.hid h;go_enter Tryz.func80, Tryz.ntmps80
 go_wp2
 go_loopw [0, 1] (fun t0 t1 wr => ∃ (l' : List Nat) (m : Nat), Hid (l' ++ uintL m = l ++ uintL n) ∧ t1 = .int .u64 m ∧ m < 18446744073709551616 ∧ Buf8 wr base t0 l' ∧ Only (RowOf v) w wr ∧ OwnNext w v t0) (fun _ t1 _ => (intOf t1).toNat)
 case atStart => exact ⟨l, n, rfl, rfl, hn, h.out, Only.refl _ _, fun k hk => .inl hk⟩
 case round =>
   obtain ⟨l', m, hl, rfl, hm, hB, hO, hN⟩ := hrel;have hbl : base ≤ wr.heap.size := Nat.le_trans hb hO.size;have hll : l'.length ≤ 2199023255552 := by
     have h1 : (l' ++ uintL m).length = (l ++ uintL n).length := by rw [hl.out]
     rw [List.length_append, List.length_append] at h1;omega
   by_cases h128 : m < 128
   · have hlt : ¬ (128 : Int) ≤ m := by omega
     have hc8 : IntKind.u8.wrap (m : Int) = (m : Int) := by rw [IntKind.wrap_u8']; omega
     have hown := World.ownsRow.alloc hB (.cells #[.int .u8 (m : Int)] 5);have hS := Lib.hid (uintL_small h128);replace hown := Lib.hid hown;replace hO := Lib.hid hO;replace hN := Lib.hid hN;go_wp2_with (at_builtin; (refine wpList_append_own_at _ rfl _ _ 36 rfl base 5 i0 (.int .u8 0) 1 1 Tryz.underlying36 hi hz0 hz1 hz2 rfl (by decide) _ l'.length (cellsN l') rfl hown.out ⟨wr.heap.size, 0, none⟩ 1 1 [.int .u8 (m : Int)] rfl rfl (cell_one_new _ _ _) one_byte (by unfold maxLen; omega) (by omega) (by simp; omega) ?_; intro v1 w1 hown1 hg1 _ hloc1))
     go_ret
     obtain ⟨q1, q2, q3⟩ := put_step hO.out hN.out hown1 rfl hg1 hloc1;refine ⟨v1, rfl, ?_, q2, q3⟩;rw [← hl.out, hS.out];exact q1
   · have hlt : (128 : Int) ≤ m := by omega
     have hc8 : IntKind.u8.wrap (m : Int) = ((m % 256 : Nat) : Int) := by rw [IntKind.wrap_u8']; omega
     have hor : bits .or .u8 (IntKind.u8.wrap (m : Int)) 128 = ((m % 128 + 128 : Nat) : Int) := by
       rw [hc8, show (128 : Int) = ((128 : Nat) : Int) by rfl, u8_or_nat _ _ (by omega) (by omega)];rw [or128 _ (by omega), show m % 256 % 128 = m % 128 by omega]
     have hown := World.ownsRow.alloc hB (.cells #[.int .u8 (bits .or .u8 (IntKind.u8.wrap (m : Int)) 128)] 5);have hS := Lib.hid (uintL_big h128);replace hown := Lib.hid hown;replace hO := Lib.hid hO;replace hN := Lib.hid hN;replace hor := Lib.hid hor;clear hc8;go_wp2_with (at_builtin; (refine wpList_append_own_at _ rfl _ _ 36 rfl base 5 i0 (.int .u8 0) 1 1 Tryz.underlying36 hi hz0 hz1 hz2 rfl (by decide) _ l'.length (cellsN l') rfl hown.out ⟨wr.heap.size, 0, none⟩ 1 1 [.int .u8 (bits .or .u8 (IntKind.u8.wrap (m : Int)) 128)] rfl rfl (cell_one_new _ _ _) one_byte (by unfold maxLen; omega) (by omega) (by simp; omega) ?_; intro v1 w1 hown1 hg1 _ hloc1))
     go_roundw
     case rel =>
       obtain ⟨q1, q2, q3⟩ := put_step hO.out hN.out hown1 hor.out hg1 hloc1;refine ⟨l' ++ [m % 128 + 128], m / 128, ?_, by go_num, by omega, q1, q2, q3⟩;show _ = _
       rw [← hl.out, hS.out, List.append_assoc];rfl
     case measure => simp [intOf]; omega
theorem not64 (x : Nat) (h : x < 18446744073709551616) : 18446744073709551615 ^^^ x = 18446744073709551615 - x := by
 have h1 : (BitVec.allOnes 64 ^^^ BitVec.ofNat 64 x).toNat = 18446744073709551615 ^^^ x := by
   rw [BitVec.toNat_xor, BitVec.toNat_allOnes, BitVec.toNat_ofNat, Nat.mod_eq_of_lt h]
 rw [← h1, BitVec.allOnes_xor, BitVec.toNat_not, BitVec.toNat_ofNat, Nat.mod_eq_of_lt h]
theorem notU {x : Nat} (h : x < 18446744073709551616) : bits .xor .u64 18446744073709551615 (x : Int) = ((18446744073709551615 - x : Nat) : Int) := by
 have := u64_xor_nat 18446744073709551615 x (by omega) h;rw [show ((18446744073709551615 : Nat) : Int) = 18446744073709551615 by rfl] at this;rw [this, not64 x h]
set_option maxHeartbeats 400000 in
theorem fold_any {i : Int} (hi : I64 i) (w : World) :
   Calls Tryz.prog 81 #[.int .i64 i] w fun e w' => e = .returned (.int .u64 (foldN i : Nat)) ∧ w = w' := by
 obtain ⟨h1, h2⟩ := hi;rcases Int.lt_or_le i 0 with hs | hs
 · have E : Hid (foldN i = 18446744073709551615 - (2 * (i + 18446744073709551616) - 18446744073709551616).toNat) := by show foldN i = _; unfold foldN; rw [if_pos hs]; omega
   have e1 : Hid (IntKind.u64.wrap (IntKind.u64.wrap i * 2) = (((2 * (i + 18446744073709551616) - 18446744073709551616).toNat : Nat) : Int)) := by
     show IntKind.u64.wrap (IntKind.u64.wrap i * 2) = _
     rw [IntKind.wrap_u64, IntKind.wrap_u64]; omega
   have hsg : IntKind.u64.signed = false := rfl;go_enter Tryz.func81, Tryz.ntmps81
   go_wp2
   go_ret
   refine ⟨ret_int ?_, rfl⟩;rw [E.out, e1.out];exact notU (by omega)
 · have E : Hid ((foldN i : Int) = 2 * i) := by show (foldN i : Int) = _; unfold foldN; rw [if_neg (by omega)]; omega
   have hs' : ¬ i < 0 := by omega
   go_enter Tryz.func81, Tryz.ntmps81
   go_wp2
   go_ret
   refine ⟨ret_int ?_, rfl⟩;rw [E.out];omega
def Wrote (l : List Nat) (w : World) (e : Ending) (w' : World) : Prop := ∃ v, e = .returned v ∧ Buf8 w' w.heap.size v l ∧ Below w.heap.size w w'
theorem wrote_of {l : List Nat} {w' : World} {e : Ending} (h : ∃ v', e = .returned v' ∧ Buf8 w' w.heap.size v' l ∧ Only (RowOf (.slice none 0 0)) w w' ∧ OwnNext w (.slice none 0 0) v') : Wrote l w e w' := by
 obtain ⟨v', he, hB, hO, _⟩ := h;exact ⟨v', he, hB, hO.below (Nat.le_refl _) (fun k _ h => by simp [RowOf, Value.ownBlock] at h)⟩
set_option maxHeartbeats 400000 in
theorem PutUint_any (n : Nat) (hn : n < 18446744073709551616) (w : World) : Calls Tryz.prog 48 #[.int .u64 n] w (Wrote (uintL n) w) := by
 have hP := (putUint_any (Buf8.nil w w.heap.size) (Nat.le_refl _) (by simp) n hn).mono fun e w' h => wrote_of h;go_enter Tryz.func48, Tryz.ntmps48
 go_wp2_with ((with_reducible refine hP.mono ?_); rintro e w' ⟨v, rfl, hB, hb⟩)
 go_ret
 exact ⟨v, rfl, hB, hb⟩
set_option maxHeartbeats 400000 in
theorem PutInt_any {i : Int} (hi : I64 i) (w : World) : Calls Tryz.prog 49 #[.int .i64 i] w (Wrote (uintL (foldN i)) w) := by
 have hP := (putUint_any (Buf8.nil w w.heap.size) (Nat.le_refl _) (by simp) (foldN i) (foldN_lt hi.1 hi.2)).mono fun e w' h => wrote_of h;have hF := fold_any hi;go_enter Tryz.func49, Tryz.ntmps49
 go_wp2_with (first
   | ((with_reducible refine (hF _).mono ?_); rintro e w' ⟨rfl, rfl⟩)
   | ((with_reducible refine hP.mono ?_); rintro e w' ⟨v, rfl, hB, hb⟩))
 go_ret
 exact ⟨v, rfl, hB, hb⟩
def strN8 (s : ByteArray) : List Nat := s.data.toList.map (·.toNat)
theorem strN8_length (s : ByteArray) : (strN8 s).length = s.size := by simp [strN8]
theorem strCells_eq (s : ByteArray) : Lib.strCells s = cellsN (strN8 s) := by
 unfold Lib.strCells cellsN strN8;rw [List.map_map];rfl
def PutOn (base : Nat) (w : World) (l : List Nat) (e : Ending) (w' : World) : Prop := ∃ v', e = .returned v' ∧ Buf8 w' base v' l ∧ Below base w w'
theorem row_base {w : World} {base k n : Nat} {e : TypeId} {v : Value} {xs : List Value} (h : w.ownsRow base e k v n xs) : ∀ q, RowOf v q → base ≤ q := fun q hq => (h.lt q hq).1
theorem putUint_on {w : World} {base : Nat} {v : Value} {l : List Nat} (h : Buf8 w base v l) (hb : base ≤ w.heap.size) (hlen : l.length ≤ 1099511627776) (n : Nat) (hn : n < 18446744073709551616) :
   Calls Tryz.prog 80 #[v, .int .u64 n] w (PutOn base w (l ++ uintL n)) :=
 (putUint_any h hb hlen n hn).mono fun _ _ ⟨v', he, hB, hO, _⟩ => ⟨v', he, hB, hO.below hb (fun k hk h' => by have := row_base h k h'; omega)⟩
set_option maxHeartbeats 1000000 in
theorem putText_on {w : World} {base : Nat} {v : Value} {l : List Nat} (h : Buf8 w base v l) (hb : base ≤ w.heap.size) (hlen : l.length ≤ 1099511627776) (s : ByteArray) (hs : s.size ≤ 1099511627776) :
   Calls Tryz.prog 82 #[v, .string s] w (PutOn base w (l ++ (uintL s.size ++ strN8 s))) := by
 obtain ⟨i0, hi, hz0, hz1, hz2⟩ := info8_parts;have hP := putUint_on h hb hlen s.size (by omega);have h10 := uintL_len10 (n := s.size) (by omega);have hsn := strN8_length s;have hcl := Lib.hid (strCells_eq s);replace hsn := Lib.hid hsn;go_enter Tryz.func82, Tryz.ntmps82
 go_wp2_with (first
   | ((with_reducible refine hP.mono ?_); rintro e w1 ⟨v1, rfl, hB1, hb1⟩)
   | (at_builtin; (refine Lib.wpList_append_own_string _ rfl _ _ 36 9 rfl base 5 i0 Tryz.underlying36 Tryz.underlying9 hi hz0 hz1 hz2 v1 (l ++ uintL s.size).length (cellsN (l ++ uintL s.size)) rfl hB1 s rfl (by rw [List.length_append]; unfold maxLen; omega) (by rw [List.length_append]; omega) (Nat.le_trans hb hb1.size) ?_; intro v2 w2 hown2 hg2 _)))
 go_ret
 refine ⟨v2, rfl, ?_, hb1.grown hg2 (Nat.le_trans hb hb1.size) (fun k hk => row_base hB1 k hk)⟩;have e1 : (l ++ (uintL s.size ++ strN8 s)).length = (l ++ uintL s.size).length + s.size := by
   have := hsn.out;simp only [List.length_append];omega
 unfold Buf8;rw [e1, ← List.append_assoc, cellsN_append, ← hcl.out];exact hown2
set_option maxHeartbeats 400000 in
theorem PutText_any (s : ByteArray) (hs : s.size ≤ 1099511627776) (w : World) : Calls Tryz.prog 50 #[.string s] w (Wrote (uintL s.size ++ strN8 s) w) := by
 have hP := putText_on (Buf8.nil w w.heap.size) (Nat.le_refl _) (by simp) s hs;go_enter Tryz.func50, Tryz.ntmps50
 go_wp2_with ((with_reducible refine hP.mono ?_); rintro e w' ⟨v, rfl, hB, hb⟩)
 go_ret
 exact ⟨v, rfl, hB, hb⟩
end
section
variable {w : World} {base : Nat} {v : Value} {l : List Nat}
theorem Buf8.below {w' : World} (h : Buf8 w base v l) (hb : Below w.heap.size w w') : Buf8 w' base v l := h.only (F := fun _ => False) (Only.of_below hb) (fun _ _ h => h)
theorem Buf8.shape (h : Buf8 w base v l) : ∃ a cap, v = .slice a l.length cap ∧ l.length ≤ cap ∧ cap ≤ 9223372036854775807 := ownsRow_shape h
theorem cellsN_one : ∀ (l : List Nat), ∀ u ∈ cellsN l, u.oneCell' = true := by
 intro l u hu;simp only [cellsN, List.mem_map] at hu;obtain ⟨b, _, rfl⟩ := hu;rfl
theorem wpList_append_buf {ops : Array Oper} {rest : List Oper} {o : Oper} {a : Act} {Q : Exit → Act → World → Prop} (hgd : o.guard = none) (s x : Operand)
   (ho : o.op = .call { callee := .builtin .append, args := #[s, x], argTypes := #[36, 36] })
   (hs : a.eval s = v) (hown : Buf8 w base v l) {b2 : Nat} {vx : Value} {m : List Nat} (hx : a.eval x = vx) (hm : Buf8 w b2 vx m)
   (hlen : l.length + m.length ≤ 140737488355328) (hbase : base ≤ w.heap.size)
   (h : ∀ v' w', Buf8 w' base v' (l ++ m) → Only (RowOf v) w w' → OwnNext w v v' → wpList Tryz.prog ops Q rest (a.put o.dst v') w') :
   wpList Tryz.prog ops Q (o :: rest) a w := by
 obtain ⟨i0, hi, hz0, hz1, hz2⟩ := info8_parts;have hm' := hm;unfold Buf8 at hm';obtain ⟨_, hcase⟩ := hm';rcases hcase with ⟨rfl, h0⟩ | ⟨g, cap, cur, rfl, hg, hh, hnc, hcm, hsz, ht⟩
 · have hm0 : m = [] := List.eq_nil_of_length_eq_zero h0
   subst hm0;refine wpList_append_own_none hgd s x 36 ho base 5 i0 1 Tryz.underlying36 hi v l.length (cellsN l) hs hown hx ?_;exact h v w (by rw [List.append_nil]; exact hown) (Only.refl _ _) (fun _ hk => .inl hk)
 · refine wpList_append_own_at _ hgd s x 36 ho base 5 i0 (.int .u8 0) 1 1 Tryz.underlying36 hi hz0 hz1 hz2 rfl (by decide) v l.length (cellsN l) hs hown ⟨g, 0, none⟩ m.length cap (cellsN m) hx (by simp [cellsN]) ?_ (cellsN_one m) (by unfold maxLen; omega) (by omega) hbase ?_
   · intro j u hj
     have hjm : j < m.length := by
       have := (List.getElem?_eq_some_iff.1 hj).1
       simpa [cellsN] using this
     have hc := World.ownsRow.cellAt (g := g) (cap := cap) hm j (by omega);rw [show (⟨g, 0, none⟩ : Addr).add j = ⟨g, j, none⟩ by simp [Addr.add]; omega, hc, hj]
   · intro v' w' hown' hg' _ hloc
     refine h v' w' ?_ (Only.of_grown hg' (fun k hk => hk)) (grown_next hloc (Nat.le_refl _));unfold Buf8;rw [List.length_append, cellsN_append];exact hown'
end
def Bs (w : World) (v : Value) (l : List Nat) : Prop :=
 ∃ a cap, v = .slice a l.length cap ∧ By w a l.length (fun j => l.getD j 0) ∧ l.length ≤ cap ∧ cap ≤ 9223372036854775807 ∧ (a = none → cap = 0)
theorem Bs.below {w w' : World} {v : Value} {l : List Nat} (h : Bs w v l) (hb : Below w.heap.size w w') : Bs w' v l := by
 obtain ⟨a, cap, rfl, hB, h1, h2, h3⟩ := h;exact ⟨a, cap, rfl, hB.kept (F := fun _ => False) (Only.of_below hb) (fun _ _ _ h => h), h1, h2, h3⟩
theorem Bs.byte {w : World} {v : Value} {l : List Nat} (h : Bs w v l) : ∀ b ∈ l, b < 256 := by
 obtain ⟨a, cap, rfl, hB, h1, h2, h3⟩ := h;intro b hb;obtain ⟨i, hi, rfl⟩ := List.getElem_of_mem hb;obtain ⟨_, _, _, _, hc⟩ := hB (by omega);have := (hc i hi).2
 simpa [List.getD_eq_getElem?_getD, List.getElem?_eq_getElem hi] using this
theorem Buf8.bs {w : World} {base : Nat} {v : Value} {l : List Nat} (h : Buf8 w base v l) (hl : ∀ b ∈ l, b < 256) : Bs w v l := by
 have h' := h;unfold Buf8 at h';obtain ⟨_, hcase⟩ := h';rcases hcase with ⟨rfl, h0⟩ | ⟨g, cap, cur, rfl, hg, hh, hnc, hcm, hsz, ht⟩
 · exact ⟨none, 0, by rw [h0], fun h1 => by omega, by omega, by omega, fun _ => rfl⟩
 · refine ⟨some ⟨g, 0, none⟩, cap, rfl, fun h0 => ⟨g, 0, rfl, (Array.getElem?_eq_some_iff.1 hh).1, fun j hj => ?_⟩, hnc, hcm, fun h => by cases h⟩
   have hc := World.ownsRow.cellAt (g := g) (cap := cap) h j (by omega);have hb := hl (l.getD j 0) (by
     rw [List.getD_eq_getElem?_getD, List.getElem?_eq_getElem hj]; exact List.getElem_mem _)
   refine ⟨?_, hb⟩;rw [Nat.zero_add, hc];simp [cellsN, List.getElem?_eq_getElem hj, List.getD_eq_getElem?_getD]
def bytesB (l : List Nat) : ByteArray := ⟨(l.map (·.toUInt8)).toArray⟩
theorem Bs.string {w : World} {v : Value} {l : List Nat} (h : Bs w v l) : (convert 36 9 v).run Tryz.prog w = .ok (.string (bytesB l)) w := by
 obtain ⟨a, cap, rfl, hB, h1, h2, h3⟩ := h;rcases a with _ | q
 · obtain rfl := h3 rfl
   have h0 : l = [] := List.eq_nil_of_length_eq_zero (by omega);subst h0;exact Lib.run_convert_nil_bytes w _ _ _ 0 Tryz.underlying36 Tryz.underlying5 Tryz.underlying9
 · have := run_convert_bytes_back (P := Tryz.prog) w 36 9 5 q cap (l.map (·.toUInt8)) Tryz.underlying36 Tryz.underlying5 Tryz.underlying9 (fun j hj => by
     have hj' : j < l.length := by simpa using hj
     obtain ⟨b, off, he, hb, hc⟩ := hB (by omega);cases he
     rw [show (⟨b, off, none⟩ : Addr).add j = ⟨b, off + j, none⟩ by simp [Addr.add], (hc j hj').1];have := (hc j hj').2;simp only [List.getElem_map];have e : l.getD j 0 = l[j] := by rw [List.getD_eq_getElem?_getD, List.getElem?_eq_getElem hj']; rfl
     dsimp only at this;rw [e] at this ⊢;simp; omega)
   rw [List.length_map] at this;exact this
end Go.Proofs.YtcabolfookofoaaGreatDoor
