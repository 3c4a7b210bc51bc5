/- Bytes in memory (layer 6): as a slice (Bs), as a row of the call's own (Buf8), as a text. No condition. -/
import Derived.Test.YtdeloaknoadpiaaCFoot
import Derived.Test.YtdeloaknoadpiaaRows
import Derived.WalkKit
import Derived.WalkSpells
import Derived.WalkLawsBesides
import Derived.Handy
import Derived.Lib.Hide
import Derived.Laws.BitsAllLaws
import Derived.LoopTactic
import Derived.Deep.QuietTactic
import Derived.BigQuiet
import Derived.RegionTactic
import Derived.Maps.AppendAt
import Derived.Laws.AppendOwnNone
import Derived.Lib.BufferRead
import Derived.Lib.AppendStr
import Derived.Test.YtdeloaknoadpiaaCrc
namespace Go.Proofs.Ytdeloaknoadpiaa
open Go.RowKit

/-- Bytes that lie in memory. -/
def By (w : World) (a : Option Addr) (L : Nat) (f : Nat → Nat) : Prop :=
  0 < L → ∃ b off, a = some ⟨b, off, none⟩ ∧ b < w.heap.size ∧ ∀ j, j < L → w.cell? ⟨b, off + j, none⟩ = some (.int .u8 (f j)) ∧ f j < 256
theorem By.kept {w w' : World} {a : Option Addr} {L : Nat} {f : Nat → Nat} (h : By w a L f) {F : Nat → Prop} (ho : Only F w w') (hF : ∀ p, a = some p → 0 < L → ¬ F p.block) : By w' a L f := by
  intro h0
  obtain ⟨b, off, rfl, hb, hc⟩ := h h0
  exact ⟨b, off, rfl, Nat.lt_of_lt_of_le hb ho.size, fun j hj => ⟨(ho.cell (p := ⟨b, off + j, none⟩) hb (hF (⟨b, off, none⟩ : Addr) rfl h0)).trans (hc j hj).1, (hc j hj).2⟩⟩
theorem only_drewN {F : Nat → Prop} {w w' : World} {n : Nat} (h : Only F (w.drewN n) w') : Only F w w' := ⟨h.os, h.tape, h.output, h.size, h.block⟩
theorem wrap64_id {x : Int} (h1 : -9223372036854775808 ≤ x) (h2 : x ≤ 9223372036854775807) : wrap64 x = x := by simp only [wrap64]; omega

/-- Bytes l lie in memory as v. -/
def Bs (w : World) (v : Value) (l : List Nat) : Prop :=
  ∃ a cap, v = .slice a l.length cap ∧ By w a l.length (fun j => l.getD j 0) ∧ l.length ≤ cap ∧ cap ≤ 9223372036854775807 ∧ (a = none → cap = 0)
/-- The block of a slice. -/
def RowOf (v : Value) (k : Nat) : Prop := v.ownBlock = some k
theorem Bs.only {w w' : World} {v : Value} {l : List Nat} {F : Nat → Prop} (h : Bs w v l) (ho : Only F w w') (hF : ∀ k, RowOf v k → 0 < l.length → ¬ F k) : Bs w' v l := by
  obtain ⟨a, cap, rfl, hB, h1, h2, h3⟩ := h
  exact ⟨a, cap, rfl, hB.kept ho (fun p hp h0 => hF p.block (by rw [hp]; rfl) h0), h1, h2, h3⟩
theorem Bs.below {w w' : World} {v : Value} {l : List Nat} (h : Bs w v l) (hb : Below w.heap.size w w') : Bs w' v l := h.only (F := fun _ => False) (Only.of_below hb) (fun _ _ _ h => h)
theorem Bs.byte {w : World} {v : Value} {l : List Nat} (h : Bs w v l) : ∀ b ∈ l, b < 256 := by
  obtain ⟨a, cap, rfl, hB, h1, h2, h3⟩ := h
  intro b hb
  obtain ⟨i, hi, rfl⟩ := List.getElem_of_mem hb
  obtain ⟨_, _, _, _, hc⟩ := hB (by omega)
  have := (hc i hi).2
  simpa [List.getD_eq_getElem?_getD, List.getElem?_eq_getElem hi] using this
theorem Bs.nil (w : World) : Bs w (.slice none 0 0) [] := ⟨none, 0, rfl, fun h => by simp at h, Nat.le_refl _, by omega, fun _ => rfl⟩
theorem Bs.block {w : World} {v : Value} {l : List Nat} (h : Bs w v l) (h0 : 0 < l.length) : ∃ k, RowOf v k ∧ k < w.heap.size := by
  obtain ⟨a, cap, rfl, hB, _⟩ := h
  obtain ⟨b, off, rfl, hb, _⟩ := hB h0
  exact ⟨b, rfl, hb⟩

/-- A piece of bytes. -/
theorem By.cut {w : World} {b off L : Nat} {l : List Nat} (h : By w (some ⟨b, off, none⟩) l.length (fun j => l.getD j 0)) (i n : Nat) (hn : i + n ≤ l.length) :
    By w (some ⟨b, off + i, none⟩) ((l.drop i).take n).length (fun j => ((l.drop i).take n).getD j 0) := by
  intro h0
  have hlen : ((l.drop i).take n).length = n := by rw [List.length_take, List.length_drop]; omega
  rw [hlen] at h0 ⊢
  obtain ⟨b', off', he, hb, hc⟩ := h (by omega)
  simp only [Option.some.injEq, Addr.mk.injEq, and_true] at he
  obtain ⟨rfl, rfl⟩ := he
  refine ⟨b, off + i, rfl, hb, fun j hj => ?_⟩
  have e : ((l.drop i).take n).getD j 0 = l.getD (i + j) 0 := by
    rw [List.getD_eq_getElem?_getD, List.getD_eq_getElem?_getD, List.getElem?_take, if_pos hj, List.getElem?_drop]
  have := hc (i + j) (by omega)
  dsimp only at this ⊢
  rw [e, Nat.add_assoc]
  exact this
theorem take_drop_all {l : List Nat} (i : Nat) : (l.drop i).take (l.length - i) = l.drop i := by
  apply List.take_of_length_le
  rw [List.length_drop]
  exact Nat.le_refl _
/-- v[i:i+n] (within the room, and not at its very end). -/
theorem bs_piece {w : World} {b off cap : Nat} {l : List Nat} (h : Bs w (.slice (some ⟨b, off, none⟩) l.length cap) l) (i n : Nat) (hn : i + n ≤ l.length) :
    Bs w (.slice (some ⟨b, off + i, none⟩) n (cap - i)) ((l.drop i).take n) := by
  obtain ⟨a, cap', he, hB, h1, h2, h3⟩ := h
  simp only [Value.slice.injEq] at he
  obtain ⟨rfl, _, rfl⟩ := he
  have hlen : ((l.drop i).take n).length = n := by rw [List.length_take, List.length_drop]; omega
  refine ⟨_, _, by rw [hlen], hB.cut (L := 0) i n hn, by rw [hlen]; omega, by omega, fun h => by cases h⟩
theorem bs_head {w : World} {a : Option Addr} {L cap : Nat} {l : List Nat} (h : Bs w (.slice a L cap) l) (n : Nat) (hn : n ≤ l.length) : Bs w (.slice a n cap) (l.take n) := by
  obtain ⟨a', cap', he, hB, h1, h2, h3⟩ := h
  simp only [Value.slice.injEq] at he
  obtain ⟨rfl, rfl, rfl⟩ := he
  have hlen : (l.take n).length = n := by rw [List.length_take]; omega
  refine ⟨_, _, by rw [hlen], ?_, by rw [hlen]; omega, h2, h3⟩
  rw [hlen]
  intro h0
  obtain ⟨b, off, rfl, hb, hc⟩ := hB (by omega)
  refine ⟨b, off, rfl, hb, fun j hj => ?_⟩
  have e : (l.take n).getD j 0 = l.getD j 0 := by
    rw [List.getD_eq_getElem?_getD, List.getD_eq_getElem?_getD, List.getElem?_take, if_pos hj]
  dsimp only
  rw [e]
  exact hc j (by omega)
theorem bs_empty {w : World} {a : Option Addr} {cap : Nat} (hc : cap ≤ 9223372036854775807) (hn : a = none → cap = 0) : Bs w (.slice a 0 cap) [] := ⟨a, cap, rfl, fun h => by simp at h, by simp, hc, hn⟩

/-! ### as a row of the call's own -/
/-- Bytes as cells. -/
def cellsN (l : List Nat) : List Value := l.map fun (b : Nat) => Value.int .u8 (b : Int)
theorem cellsN_append (l m : List Nat) : cellsN (l ++ m) = cellsN l ++ cellsN m := by simp [cellsN]
/-- A row of the call's own holds bytes. -/
def Buf8 (w : World) (base : Nat) (v : Value) (l : List Nat) : Prop := w.ownsRow base 5 1 v l.length (cellsN l)
/-- Where the bytes lie next. -/
def OwnNext (w : World) (v v' : Value) : Prop := ∀ k, v'.ownBlock = some k → v.ownBlock = some k ∨ w.heap.size ≤ k

theorem info8 : (Try.prog.info? 5).map (fun i => (i.zero, i.size, i.bytes)) = some (some (.int .u8 0), 1, 1) := by kernel_rfl
theorem info8_parts : ∃ i0, Try.prog.info? 5 = some i0 ∧ i0.zero = some (.int .u8 0) ∧ i0.size = 1 ∧ i0.bytes = 1 := by
  have h := info8
  cases hi : Try.prog.info? 5 with
  | none => rw [hi] at h; simp at h
  | some i0 =>
    rw [hi] at h
    simp at h
    exact ⟨i0, rfl, h.1, h.2.1, h.2.2⟩
theorem cellsN_one : ∀ (l : List Nat), ∀ u ∈ cellsN l, u.oneCell' = true := by
  intro l u hu
  simp only [cellsN, List.mem_map] at hu
  obtain ⟨b, _, rfl⟩ := hu
  rfl
theorem cellsN_get {l : List Nat} {j : Nat} {u : Value} (h : (cellsN l)[j]? = some u) : j < l.length ∧ u = .int .u8 (l.getD j 0 : Nat) := by
  simp only [cellsN, List.getElem?_map, Option.map_eq_some_iff] at h
  obtain ⟨b, hb, rfl⟩ := h
  obtain ⟨hj, rfl⟩ := List.getElem?_eq_some_iff.1 hb
  exact ⟨hj, by rw [List.getD_eq_getElem?_getD, hb]; rfl⟩

section
variable {w : World} {base : Nat} {v : Value} {l : List Nat}
theorem Buf8.only {w' : World} {F : Nat → Prop} (h : Buf8 w base v l) (ho : Only F w w') (hF : ∀ k, RowOf v k → ¬ F k) : Buf8 w' base v l := ownsRow_only h ho hF
theorem Buf8.below {w' : World} (h : Buf8 w base v l) (hb : Below w.heap.size w w') : Buf8 w' base v l := h.only (F := fun _ => False) (Only.of_below hb) (fun _ _ h => h)
theorem Buf8.nil (w : World) (base : Nat) : Buf8 w base (.slice none 0 0) [] := World.ownsRow_nil _ _ _ _
theorem row_base {w : World} {base k n : Nat} {e : TypeId} {v : Value} {xs : List Value} (h : w.ownsRow base e k v n xs) : ∀ q, RowOf v q → base ≤ q := fun q hq => (h.lt q hq).1
theorem Buf8.base_ (h : Buf8 w base v l) : ∀ q, RowOf v q → base ≤ q ∧ q < w.heap.size := fun q hq => World.ownsRow.lt h q hq
theorem Buf8.lift {b2 : Nat} (h : Buf8 w base v l) (hb : ∀ q, RowOf v q → b2 ≤ q) : Buf8 w b2 v l := ownsRow_base h hb
theorem Buf8.bs (h : Buf8 w base v l) (hl : ∀ b ∈ l, b < 256) : Bs w v l := by
  have h' := h
  unfold Buf8 at h'
  obtain ⟨_, hcase⟩ := h'
  rcases hcase with ⟨rfl, h0⟩ | ⟨g, cap, cur, rfl, hg, hh, hnc, hcm, hsz, ht⟩
  · exact ⟨none, 0, by rw [h0], fun h1 => by omega, by omega, by omega, fun _ => rfl⟩
  · refine ⟨some ⟨g, 0, none⟩, cap, rfl, fun h0 => ⟨g, 0, rfl, (Array.getElem?_eq_some_iff.1 hh).1, fun j hj => ?_⟩, hnc, hcm, fun h => by cases h⟩
    have hc := World.ownsRow.cellAt (g := g) (cap := cap) h j (by omega)
    have hb := hl (l.getD j 0) (by
      rw [List.getD_eq_getElem?_getD, List.getElem?_eq_getElem hj]; exact List.getElem_mem _)
    refine ⟨?_, hb⟩
    rw [Nat.zero_add, hc]
    simp [cellsN, List.getElem?_eq_getElem hj, List.getD_eq_getElem?_getD]

theorem grown_next {W : World} {v v1 : Value} (hloc : v1.ownBlock = v.ownBlock ∨ v1.ownBlock = some W.heap.size) (hz : w.heap.size ≤ W.heap.size) : OwnNext w v v1 := by
  intro k hk
  rcases hloc with h | h
  · exact .inl (h ▸ hk)
  · rw [h] at hk; injection hk with hk; exact .inr (by omega)
theorem OwnNext.then {W : World} {v0 v1 v2 : Value} (h1 : OwnNext w v0 v1) (h2 : OwnNext W v1 v2) (hz : w.heap.size ≤ W.heap.size) : OwnNext w v0 v2 := by
  intro k hk
  rcases h2 k hk with h | h
  · exact h1 k h
  · exact .inr (by omega)
theorem OwnNext.refl (w : World) (v : Value) : OwnNext w v v := fun _ h => .inl h

/-- append, bytes behind bytes of the call's own: at the operation. -/
theorem wpList_append_bs {ops : Array Oper} {rest : List Oper} {o : Oper} {a : Act} {Q : Exit → Act → World → Prop} (hgd : o.guard = none) (s x : Operand)
    (ho : o.op = .call { callee := .builtin .append, args := #[s, x], argTypes := #[22, 22] })
    (hs : a.eval s = v) (hown : Buf8 w base v l) {vx : Value} {m : List Nat} (hx : a.eval x = vx) (hm : Bs w vx m)
    (hlen : l.length + m.length ≤ 140737488355328) (hbase : base ≤ w.heap.size)
    (h : ∀ v' w', Buf8 w' base v' (l ++ m) → Only (RowOf v) w w' → OwnNext w v v' → (v' = .slice none 0 0 ↔ v = .slice none 0 0 ∧ m.length = 0) → wpList Try.prog ops Q rest (a.put o.dst v') w') :
    wpList Try.prog ops Q (o :: rest) a w := by
  obtain ⟨i0, hi, hz0, hz1, hz2⟩ := info8_parts
  obtain ⟨ad, cap, rfl, hB, h1, h2, h3⟩ := hm
  rcases ad with _ | ad
  · obtain rfl := h3 rfl
    have hm0 : m = [] := List.eq_nil_of_length_eq_zero (by omega)
    subst hm0
    refine wpList_append_own_none hgd s x 22 ho base 5 i0 1 Try.underlying22 hi v l.length (cellsN l) hs hown hx ?_
    exact h v w (by rw [List.append_nil]; exact hown) (Only.refl _ _) (OwnNext.refl _ _) (by simp)
  · refine wpList_append_own_at _ hgd s x 22 ho base 5 i0 (.int .u8 0) 1 1 Try.underlying22 hi hz0 hz1 hz2 rfl (by decide) v l.length (cellsN l) hs hown ad m.length cap (cellsN m) hx (by simp [cellsN]) ?_ (cellsN_one m) (by unfold maxLen; omega) (by omega) hbase ?_
    · intro j u hj
      obtain ⟨hj1, rfl⟩ := cellsN_get hj
      obtain ⟨b, off, he, _, hc⟩ := hB (by omega)
      cases he
      rw [show (⟨b, off, none⟩ : Addr).add j = ⟨b, off + j, none⟩ by simp [Addr.add]]
      exact (hc j hj1).1
    · intro v' w' hown' hg hnil hloc
      refine h v' w' ?_ (Only.of_grown hg (fun k hk => hk)) (grown_next hloc (Nat.le_refl _)) hnil
      unfold Buf8
      rw [List.length_append, cellsN_append]
      exact hown'
end

/-! ### as a text -/
/-- Bytes as a text. -/
def bytesB (l : List Nat) : ByteArray := ⟨(l.map (·.toUInt8)).toArray⟩
theorem Bs.string {w : World} {v : Value} {l : List Nat} (h : Bs w v l) : (convert 22 9 v).run Try.prog w = .ok (.string (bytesB l)) w := by
  obtain ⟨a, cap, rfl, hB, h1, h2, h3⟩ := h
  rcases a with _ | q
  · obtain rfl := h3 rfl
    have h0 : l = [] := List.eq_nil_of_length_eq_zero (by omega)
    subst h0
    exact Lib.run_convert_nil_bytes w _ _ _ 0 Try.underlying22 Try.underlying5 Try.underlying9
  · have := run_convert_bytes_back (P := Try.prog) w 22 9 5 q cap (l.map (·.toUInt8)) Try.underlying22 Try.underlying5 Try.underlying9 (fun j hj => by
      have hj' : j < l.length := by simpa using hj
      obtain ⟨b, off, he, hb, hc⟩ := hB (by omega)
      cases he
      rw [show (⟨b, off, none⟩ : Addr).add j = ⟨b, off + j, none⟩ by simp [Addr.add], (hc j hj').1]
      have := (hc j hj').2
      simp only [List.getElem_map]
      have e : l.getD j 0 = l[j] := by rw [List.getD_eq_getElem?_getD, List.getElem?_eq_getElem hj']; rfl
      dsimp only at this
      rw [e] at this ⊢
      simp; omega)
    rw [List.length_map] at this
    exact this
theorem u8_inj {x y : Nat} (hx : x < 256) (hy : y < 256) (h : x.toUInt8 = y.toUInt8) : x = y := by
  have := congrArg UInt8.toNat h
  simpa [Nat.mod_eq_of_lt hx, Nat.mod_eq_of_lt hy] using this
theorem bytesB_inj : ∀ {l m : List Nat}, (∀ b ∈ l, b < 256) → (∀ b ∈ m, b < 256) → (bytesB l).toList = (bytesB m).toList → l = m := by
  intro l m hl hm h
  have h1 : l.map (·.toUInt8) = m.map (·.toUInt8) := by
    have e : ∀ k : List Nat, (bytesB k).toList = k.map (·.toUInt8) := fun k => by simp [bytesB]
    rw [e, e] at h
    exact h
  clear h
  induction l generalizing m with
  | nil => cases m with
    | nil => rfl
    | cons => simp at h1
  | cons x l ih => cases m with
    | nil => simp at h1
    | cons y m =>
      simp only [List.map_cons, List.cons.injEq] at h1
      rw [u8_inj (hl x (by simp)) (hm y (by simp)) h1.1, ih (fun b hb => hl b (by simp [hb])) (fun b hb => hm b (by simp [hb])) h1.2]
end Go.Proofs.Ytdeloaknoadpiaa
