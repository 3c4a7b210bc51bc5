/- The law FrameBack: frames, one behind the other, are told as their bodies, however they are cut into pieces. -/
import Derived.Test.YtdeloaknoadpiaaFBackP
import Derived.Test.YtdeloaknoadpiaaFAwake
import Derived.Test.YtdeloaknoadpiaaFPair
import Derived.Test.YtdeloaknoadpiaaFKnown
import Derived.Test.YtdeloaknoadpiaaHOpen
namespace Go.Proofs.Ytdeloaknoadpiaa
open Go.RowKit Crc
section
variable {w W W2 : World} {base r p q left taken fault B i j : Nat} {v v1 v2 gv vl Av u : Value} {A rest : List Nat} {ls ms : List (List Nat)} {F F' : Nat → Prop}

/-- What is left of a beginning; what was taken; what was told. -/
def leftA (A : List Nat) (k : Nat) : List Nat := (A.take k).drop (splitL (A.take k)).at_
def takenA (A : List Nat) (k : Nat) : Nat := (splitL (A.take k)).at_
def toldA (A : List Nat) (k : Nat) : List (List Nat) := (splitL (A.take k)).bodies
theorem left_taken {A : List Nat} {k : Nat} (hk : k ≤ A.length) : (leftA A k).length + takenA A k = k := by
  have := split_le _ (A.take k) (Nat.le_refl _)
  unfold leftA takenA
  rw [List.length_drop]
  rw [List.length_take] at *
  omega

/-- The reader has been fed the first k bytes. -/
def St (W : World) (B r : Nat) (Av gv : Value) (A : List Nat) (k : Nat) : Prop :=
  B ≤ r ∧ r < W.heap.size ∧ Buf8 W B Av A ∧ (∀ j, RowOf Av j → j < r) ∧ ∃ v1, RdAt W r v1 (leftA A k) (leftA A k).length (takenA A k) 0 ∧ (∀ j, RowOf v1 j → r < j) ∧ GotX W (r + 1) (fun j => j = r ∨ RowOf v1 j) gv (toldA A k)
/-- A piece more has been fed, what it told not yet put behind. -/
def Fd (W : World) (B r : Nat) (Av gv vl : Value) (p q : Nat) (A : List Nat) (i j : Nat) (ms : List (List Nat)) : Prop :=
  B ≤ r ∧ r < W.heap.size ∧ Buf8 W B Av A ∧ (∀ j, RowOf Av j → j < r) ∧ r < p ∧ q ≤ W.heap.size ∧ BodsQ W p q vl ms ∧ toldA A i ++ ms = toldA A j ∧
  ∃ v1, RdAt W r v1 (leftA A j) (leftA A j).length (takenA A j) 0 ∧ (∀ j, RowOf v1 j → r < j ∧ (j < p ∨ q ≤ j)) ∧ GotX W (r + 1) (fun j => j = r ∨ RowOf v1 j) gv (toldA A i)

theorem Fd.below (h : Fd W B r Av gv vl p q A i j ms) (hb : Below W.heap.size W W2) : Fd W2 B r Av gv vl p q A i j ms := by
  obtain ⟨h1, h2, h3, h4, h5, h6, h7, h8, v1, h9, h10, h11⟩ := h
  have hz := hb.size
  exact ⟨h1, by omega, h3.below hb, h4, h5, by omega, h7.only (F := fun _ => False) (Only.of_below hb) (fun _ _ _ h => h), h8, v1, h9.below hb, h10, h11.only (Only.of_below hb)⟩
theorem St.below (h : St W B r Av gv A i) (hb : Below W.heap.size W W2) : St W2 B r Av gv A i := by
  obtain ⟨h1, h2, h3, h4, v1, h9, h10, h11⟩ := h
  have hz := hb.size
  exact ⟨h1, by omega, h3.below hb, h4, v1, h9.below hb, h10, h11.only (Only.of_below hb)⟩

theorem st_feed (h : St W B r Av gv A i) (hA : (splitL A).code = 0) (hij : i ≤ j) (hj : j ≤ A.length) (hl : A.length ≤ 10000) (hu : Bs W u ((A.drop i).take (j - i))) :
    Calls Try.prog 11 #[.pointer (some ⟨r, 0, none⟩), u] W fun e W2 => ∃ a cap p q ms, e = .returned (.tuple #[.slice a ms.length cap, .int .i64 0]) ∧ Fd W2 B r Av gv (.slice a ms.length cap) p q A i j ms ∧ Below B W W2 := by
  obtain ⟨h1, h2, h3, h4, v1, h5, h6, h7⟩ := h
  have hlt := left_taken (A := A) (k := i) (by omega)
  obtain ⟨s1, s2, s3, s4⟩ := split_piece hA hij
  refine (Feed_any h5 (by omega) (by omega) hu (by rw [List.length_take]; omega)).mono ?_
  rintro e W2 ⟨vl, v1', p, q, rfl, hp, hq, hQ, hR, hk1, hk2, hO⟩
  obtain ⟨a, cap, rfl, _, _⟩ := ownsRow_shape hQ.choose_spec.2.1
  have hc := split_begin hA j
  have s1' : (splitL (leftA A i ++ (A.drop i).take (j - i))).code = (splitL (A.take j)).code := s1
  have hcode : (if (splitL (leftA A i ++ (A.drop i).take (j - i))).code = 4 then 0 else (splitL (leftA A i ++ (A.drop i).take (j - i))).code) = 0 := by
    rw [s1']; split <;> omega
  have hcc : (splitL (leftA A i ++ (A.drop i).take (j - i))).code = 0 ∨ (splitL (leftA A i ++ (A.drop i).take (j - i))).code = 4 := by rw [s1']; exact hc
  have s4' : (leftA A i ++ (A.drop i).take (j - i)).drop (splitL (leftA A i ++ (A.drop i).take (j - i))).at_ = leftA A j := s4
  have s3' : takenA A i + (splitL (leftA A i ++ (A.drop i).take (j - i))).at_ = takenA A j := s3
  have s2' : toldA A i ++ (splitL (leftA A i ++ (A.drop i).take (j - i))).bodies = toldA A j := s2
  have hle := split_le _ (leftA A i ++ (A.drop i).take (j - i)) (Nat.le_refl _)
  have hdl : (leftA A i ++ (A.drop i).take (j - i)).length - (splitL (leftA A i ++ (A.drop i).take (j - i))).at_ = (leftA A j).length := by rw [← s4', List.length_drop]
  rw [if_pos hcc, hcode, s4', s3', hdl] at hR
  rw [hcode]
  have hz := hO.size
  have hOF : Only (fun k => k = r ∨ RowOf v1 k) W W2 := hO
  refine ⟨a, cap, p, q, _, rfl, ⟨h1, by omega, h3.only hO (fun k hk e => ?_), h4, by omega, hq, hQ, s2', v1', hR, fun k hk => ⟨?_, hk2 k hk⟩, h7.turn hO (fun k hk => ?_)⟩, hO.below (by omega) (fun k hk e => ?_)⟩
  · have := h4 k hk
    rcases e with e | e
    · omega
    · have := h6 k e; omega
  · rcases hk1 k hk with e | e
    · exact h6 k e
    · omega
  · rcases hk with e | e
    · exact .inl (.inl e)
    · rcases hk1 k e with e | e
      · exact .inl (.inr e)
      · exact .inr e
  · rcases e with e | e
    · omega
    · have := h6 k e; omega

/-- got = append(got, m...), at the operation. -/
theorem wpList_append_fd {ops : Array Oper} {rest : List Oper} {o : Oper} {a : Act} {Q : Exit → Act → World → Prop} (hgd : o.guard = none) (s x : Operand)
    (ho : o.op = .call { callee := .builtin .append, args := #[s, x], argTypes := #[29, 29] })
    (hs : a.eval s = gv) (hx : a.eval x = vl) (h : Fd w B r Av gv vl p q A i j ms) (hlen : (toldA A i).length + ms.length ≤ 1000000)
    (hn : ∀ a' cap w', St w' B r Av (.slice a' (toldA A j).length cap) A j → Below B w w' → wpList Try.prog ops Q rest (a.put o.dst (.slice a' (toldA A j).length cap)) w') :
    wpList Try.prog ops Q (o :: rest) a w := by
  obtain ⟨h1, h2, h3, h4, h5, h6, h7, h8, v1, h9, h10, h11⟩ := h
  refine wpList_append_got hgd s x ho hs h11 hx h7 hlen (by omega) (by omega) h6 (fun k hk1 hk2 e => ?_) (fun k e => ?_) (fun v' w' hG hO => ?_)
  · rcases e with e | e
    · omega
    · have := (h10 k e).2; omega
  · rcases e with e | e
    · omega
    · exact (h9.row.choose_spec.base_ k e).2
  · rw [h8] at hG
    obtain ⟨a', cap, rfl⟩ := hG.length
    have hz := hO.size
    have hgb : ∀ k, RowOf gv k → r < k := fun k hk => by
      obtain ⟨_, _, g2, _⟩ := h11
      have := (World.ownsRow.lt g2 k hk).1; omega
    have hgF : ∀ k, RowOf gv k → ¬ (k = r ∨ RowOf v1 k) := by obtain ⟨_, _, _, g3, _⟩ := h11; exact g3
    refine hn a' cap w' ⟨h1, by omega, h3.only hO (fun k hk e => ?_), h4, v1, h9.only hO (fun e => ?_) (fun k hk e => ?_), fun k hk => (h10 k hk).1, hG⟩ (hO.below (by omega) (fun k hk e => ?_))
    · have := h4 k hk; have := hgb k e; omega
    · have := hgb r e; omega
    · exact hgF k e (.inr hk)
    · have := hgb k e; omega

/-- all[i:j] -/
theorem piece_bs {a : Option Addr} {cap : Nat} (h : Bs W (.slice a A.length cap) A) (hij : i ≤ j) (hj : j ≤ A.length) :
    Bs W (.slice (if cap = i then a else a.map (·.add i)) (j - i) (cap - i)) ((A.drop i).take (j - i)) := by
  rcases Nat.eq_zero_or_pos A.length with h0 | h0
  · have hA0 : A = [] := List.eq_nil_of_length_eq_zero h0
    subst hA0
    obtain rfl : j = 0 := by simpa using hj
    obtain rfl : i = 0 := by omega
    obtain ⟨a', cap', he, _, h1, h2, h3⟩ := h
    injection he with e1 e2 e3
    subst e1 e3
    simp only [List.drop_nil, List.take_nil, Nat.sub_zero]
    refine bs_empty h2 (fun hn => ?_)
    split at hn
    · exact h3 hn
    · exact h3 (by simpa using hn)
  · have := (restV_bs h (Nat.le_trans hij hj) h0).1
    unfold restV at this
    exact bs_head this (j - i) (by rw [List.length_drop]; omega)
theorem St.cells (h : St W B r Av gv A i) : W.cell? ⟨r, 1, none⟩ = some (.int .i64 (leftA A i).length) ∧ W.cell? ⟨r, 3, none⟩ = some (.int .i64 (takenA A i)) := by
  obtain ⟨_, _, _, _, v1, h9, _⟩ := h
  exact ⟨h9.cell.2.1, h9.cell.2.2.2.1⟩
theorem Fd.cells (h : Fd W B r Av gv vl p q A i j ms) : W.cell? ⟨r, 1, none⟩ = some (.int .i64 (leftA A j).length) ∧ W.cell? ⟨r, 3, none⟩ = some (.int .i64 (takenA A j)) := by
  obtain ⟨_, _, _, _, _, _, _, _, v1, h9, _⟩ := h
  exact ⟨h9.cell.2.1, h9.cell.2.2.2.1⟩
theorem left_code {A : List Nat} (h : (splitL A).code = 0) {j : Nat} (hj : j ≤ A.length) : ((splitL (A.take j)).code = 0 ∧ (leftA A j).length = 0) ∨ ((splitL (A.take j)).code = 4 ∧ 0 < (leftA A j).length) := by
  have h1 := split_all _ (A.take j) (Nat.le_refl _)
  have h2 := left_taken hj
  have h3 := split_le _ (A.take j) (Nat.le_refl _)
  unfold takenA at h2
  rw [List.length_take, Nat.min_eq_left hj] at h1 h3
  rcases split_begin h j with hc | hc
  · exact .inl ⟨hc, by have := h1.1 hc; omega⟩
  · refine .inr ⟨hc, ?_⟩
    rcases Nat.eq_zero_or_pos (leftA A j).length with h4 | h4
    · have := h1.2 (by omega); omega
    · exact h4
theorem told_le : ∀ (k : Nat) (l : List Nat), l.length ≤ k → (splitL l).bodies.length ≤ l.length
  | k, l, hk => by
    by_cases h0 : l = []
    · subst h0; simp [splitL_nil]
    by_cases hc : (readL l).code = 0
    · have hr := read_le hc
      rw [splitL_step h0 hc]
      match k with
      | 0 => omega
      | k + 1 =>
        have := told_le k (l.drop (readL l).n) (by rw [List.length_drop]; omega)
        rw [List.length_drop] at this
        show (_ :: _).length ≤ _
        rw [List.length_cons]
        have h5 := hr.1
        omega
    · rw [splitL_stop h0 hc]; exact Nat.zero_le _
/-- Where a cut leads. -/
theorem cut_to {z : Int} {n i : Nat} (hi : i ≤ n) (hn : n ≤ 10000) : ∃ j : Nat, i ≤ j ∧ j ≤ n ∧ wrap64 ((i : Int) + wrap64 ((IntKind.u64.wrap z).tmod ((n : Int) - (i : Int) + 1))) = (j : Int) := by
  have h0 : 0 ≤ IntKind.u64.wrap z := by rw [IntKind.wrap_u64]; omega
  generalize IntKind.u64.wrap z = y at *
  have e : y.tmod ((n : Int) - (i : Int) + 1) = y % ((n : Int) - (i : Int) + 1) := Int.tmod_eq_emod_of_nonneg h0
  rw [e]
  have h1 := Int.emod_nonneg y (show (n : Int) - (i : Int) + 1 ≠ 0 by omega)
  have h2 := Int.emod_lt_of_pos y (show 0 < (n : Int) - (i : Int) + 1 by omega)
  generalize y % ((n : Int) - (i : Int) + 1) = q at *
  rw [wrap64_id (x := q) (by omega) (by omega), wrap64_id (by omega) (by omega)]
  exact ⟨i + q.toNat, by omega, by omega, by omega⟩
theorem told_ms (h : toldA A i ++ ms = toldA A j) (h3 : A.length ≤ 3360) : (toldA A i).length + ms.length ≤ 1000000 := by
  have h1 := told_le _ (A.take j) (Nat.le_refl _)
  have h2 := congrArg List.length h
  rw [List.length_append] at h2
  rw [List.length_take] at h1
  unfold toldA at *
  omega
end
end Go.Proofs.Ytdeloaknoadpiaa
