/- token's noToken and All (layer 7), walked. -/
import Derived.Test.YtmgbebpkkidooaaDoorTTxt
namespace Go.Proofs.YtmgbebpkkidooaaDoor
open Go.RowKit Tok

def noV : Res → Value
  | .ok _ _ _ n => .tuple #[.int .i64 n, .int .i64 0]
  | .bad n e => .tuple #[.int .i64 n, .int .i64 e]
set_option maxHeartbeats 400000 in
theorem noToken_any (s : ByteArray) (w : World) (hs : s.size ≤ 16384) (h0 : 0 < s.size) :
    Calls Tryd.prog 20 #[.string s] w fun e w' => e = .returned (noV (noneT s.data.toList)) ∧ w' = w := by
  have e0 : s.data.toList = s[0] :: s.data.toList.drop 1 := by
    have := at_drop (s := s) (i := 0) h0
    rwa [List.drop_zero] at this
  obtain ⟨R, hR⟩ := exHid (noneT s.data.toList)
  rw [hR.out]
  have hR' := hR.out
  rw [e0] at hR'
  by_cases c33 : s[0].toNat = 33
  · have q1 : (((s[0].toNat : Nat) : Int) != 33) = false := by rw [c33]; rfl
    rcases Nat.lt_or_ge 1 s.size with h1 | h1
    · have q2 : ((s.size : Int) == 1) = false := beq_eq_false_iff_ne.2 (by omega)
      have hRv : R = .bad 1 9 := by
        rw [← hR', at_drop h1]; simp [noneT, c33]
      replace hRv := Lib.hid hRv
      replace c33 := Lib.hid c33
      clear hR' e0
      go_enter Tryd.func20, Tryd.ntmps20
      go_wp2
      go_ret2
      exact ⟨by rw [hRv.out]; rfl, rfl⟩
    · have q2 : ((s.size : Int) == 1) = true := beq_iff_eq.2 (by omega)
      have hRv : R = .bad 1 4 := by
        rw [← hR', no_drop h1]; simp [noneT, c33]
      replace hRv := Lib.hid hRv
      replace c33 := Lib.hid c33
      clear hR' e0
      go_enter Tryd.func20, Tryd.ntmps20
      go_wp2
      go_ret2
      exact ⟨by rw [hRv.out]; rfl, rfl⟩
  · have q1 : (((s[0].toNat : Nat) : Int) != 33) = true := by simp; omega
    have hRv : R = .bad 0 9 := by
      rw [← hR']; simp [noneT, c33]
    replace hRv := Lib.hid hRv
    clear hR' e0
    go_enter Tryd.func20, Tryd.ntmps20
    go_wp2
    go_ret2
    exact ⟨by rw [hRv.out]; rfl, rfl⟩

/-- A token's four cells. -/
def tkC (t : Tk) : List Value := [.int .u8 t.kind, .string ⟨t.text.toArray⟩, .int .i64 t.num, .int .i64 t.at_]
/-- A row of the call's own holds these tokens. -/
def TksAt (w : World) (base : Nat) (v : Value) (ts : List Tk) : Prop := w.ownsRow base 29 4 v ts.length (rowOf tkC ts)
section
variable {w W : World} {base : Nat} {v : Value} {ts : List Tk}
theorem TksAt.nil (w : World) (base : Nat) : TksAt w base (.slice none 0 0) [] := World.ownsRow_nil _ _ _ _
theorem TksAt.below (h : TksAt w base v ts) (hb : Below w.heap.size w W) : TksAt W base v ts := ownsRow_only (F := fun _ => False) h (Only.of_below hb) (fun _ _ h => h)
theorem TksAt.shape (h : TksAt w base v ts) : ∃ a cap, v = .slice a ts.length cap ∧ ts.length ≤ cap ∧ cap ≤ 9223372036854775807 := ownsRow_shape h
end
/-- token.signs holds the signs. -/
def SignsOK (w : World) : Prop := ∀ i, i < 17 → w.cell? ⟨0, i, none⟩ = some (.string ⟨(signs.getD i []).toArray⟩)

theorem tk_info : (Tryd.prog.info? 29).map (fun i => (i.zero, i.size, i.bytes)) = some (some (.agg #[.int .u8 0, .string ⟨#[]⟩, .int .i64 0, .int .i64 0]), 4, 40) := by kernel_rfl
theorem tk_parts : ∃ i0, Tryd.prog.info? 29 = some i0 ∧ i0.zero = some (.agg #[.int .u8 0, .string ⟨#[]⟩, .int .i64 0, .int .i64 0]) ∧ i0.size = 4 ∧ i0.bytes = 40 := by
  have h := tk_info
  cases hi : Tryd.prog.info? 29 with
  | none => rw [hi] at h; simp at h
  | some i0 =>
    rw [hi] at h
    simp at h
    exact ⟨i0, rfl, h.1, h.2.1, h.2.2⟩
theorem cells_new (w : World) (xs : List Value) (t : TypeId) (j : Nat) (u : Value) (h : xs[j]? = some u) : (w.alloc (.cells xs.toArray t)).cell? ((⟨w.heap.size, 0, none⟩ : Addr).add j) = some u := by
  rw [show (⟨w.heap.size, 0, none⟩ : Addr).add j = ⟨w.heap.size, j, none⟩ by simp [Addr.add]; omega]
  simp only [World.cell?, heap_alloc_new]
  simpa using h
theorem tkC_one (t : Tk) : ∀ u ∈ tkC t, u.oneCell' = true := by
  intro u hu
  simp only [tkC, List.mem_cons, List.not_mem_nil, or_false] at hu
  rcases hu with rfl | rfl | rfl | rfl <;> rfl
/-- append(l, t): at the operation. -/
theorem wpList_append_tk {w : World} {base : Nat} {v : Value} {ts : List Tk} {ops : Array Oper} {rest : List Oper} {o : Oper} {a : Act} {Q : Exit → Act → World → Prop} (hgd : o.guard = none) (s x : Operand)
    (ho : o.op = .call { callee := .builtin .append, args := #[s, x], argTypes := #[22, 22] })
    (hs : a.eval s = v) (hown : TksAt w base v ts) {t : Tk} {w2 : World} (hw : w = w2.alloc (.cells (tkC t).toArray 29)) (hx : a.eval x = .slice (some ⟨w2.heap.size, 0, none⟩) 1 1)
    (hk : ts.length ≤ 1000000000) (hbase : base ≤ w.heap.size)
    (h : ∀ a' cap w', TksAt w' base (.slice a' (ts.length + 1) cap) (ts ++ [t]) → Below base w w' → wpList Tryd.prog ops Q rest (a.put o.dst (.slice a' (ts.length + 1) cap)) w') : wpList Tryd.prog ops Q (o :: rest) a w := by
  obtain ⟨i0, hi, hz0, hz1, hz2⟩ := tk_parts
  subst hw
  refine wpList_append_own_at _ hgd s x 22 ho base 29 i0 (.agg #[.int .u8 0, .string ⟨#[]⟩, .int .i64 0, .int .i64 0]) 4 40 Tryd.underlying22 hi hz0 hz1 hz2 rfl (by decide) v ts.length (rowOf tkC ts) hs hown ⟨w2.heap.size, 0, none⟩ 1 1 (tkC t) hx rfl (fun j u hj => cells_new w2 (tkC t) _ j u hj) (tkC_one t) (by unfold maxLen; omega) (by omega) hbase ?_
  intro v' w' h2 h3 _ _
  obtain ⟨a', cap, rfl, _⟩ := ownsRow_shape h2
  refine h a' cap w' ?_ ((Below.refl base _).grown h3 hbase (fun k hk => (World.ownsRow.lt hown k hk).1))
  unfold TksAt
  rw [rowOf_snoc, List.length_append]
  exact h2

theorem textGo_le : ∀ (k : Nat) (l acc : List UInt8) (n : Nat), match textGo k l acc n with | .ok _ _ _ i => i ≤ n + l.length | .bad i _ => i ≤ n + l.length + 3
  | 0, l, _, n => by unfold textGo; simp only; omega
  | k + 1, l, acc, n => by
    unfold textGo
    match l with
    | [] => simp only; omega
    | c :: r =>
      dsimp only
      split
      · rename_i h
        split at h
        · injection h; simp; omega
        · cases hi : itemT c r with
          | bad j e => rw [hi] at h; cases h
          | ok b j =>
            rw [hi] at h
            dsimp only at h
            split at h
            · cases h
            · have h1 := itemT_le hi
              have h2 := textGo_le k ((c :: r).drop j) (acc ++ [b]) (n + j)
              rw [h] at h2
              simp only [List.length_drop, List.length_cons] at h2 ⊢
              omega
      · rename_i h
        split at h
        · cases h
        · cases hi : itemT c r with
          | bad j e =>
            rw [hi] at h
            have := (itemT_code hi).2
            injection h
            simp; omega
          | ok b j =>
            rw [hi] at h
            dsimp only at h
            split at h
            · injection h; simp; omega
            · have h1 := itemT_le hi
              have h2 := textGo_le k ((c :: r).drop j) (acc ++ [b]) (n + j)
              rw [h] at h2
              simp only [List.length_drop, List.length_cons] at h2 ⊢
              omega
theorem prefix_le : ∀ (a b : List UInt8), a.isPrefixOf b = true → a.length ≤ b.length
  | [], _, _ => by simp
  | _ :: _, [], h => by simp at h
  | x :: a, y :: b, h => by
    simp only [List.isPrefixOf, Bool.and_eq_true] at h
    have := prefix_le a b h.2
    simp; omega
theorem signGo_le : ∀ (ss : List (List UInt8)) (l : List UInt8), match signGo ss l with | .ok _ _ _ i => i ≤ l.length | .bad i _ => i ≤ 1
  | [], l => by
    show match noneT l with | .ok _ _ _ i => i ≤ l.length | .bad i _ => i ≤ 1
    match l with
    | [] => simp [noneT]
    | c :: r =>
      unfold noneT
      dsimp only
      by_cases h1 : c.toNat ≠ 33
      · rw [if_pos h1]; simp
      · rw [if_neg h1]
        by_cases h2 : r = []
        · rw [if_pos h2]; simp
        · rw [if_neg h2]; simp
  | s :: ss, l => by
    unfold signGo
    by_cases h : s.isPrefixOf l = true
    · rw [if_pos h]; exact prefix_le s l h
    · rw [if_neg h]; exact signGo_le ss l
theorem tokT_le (l : List UInt8) : match tokT l with | .ok _ _ _ i => i ≤ l.length | .bad i _ => i ≤ l.length + 3 := by
  match l with
  | [] => simp [tokT]
  | c :: r =>
    rw [tokT_cons]
    by_cases h1 : lowC c = true
    · rw [if_pos h1]
      have := span_le (p := wordC) (c :: r)
      unfold wordT
      split
      · rename_i h; split at h
        · cases h
        · injection h; omega
      · rename_i h; split at h
        · injection h; omega
        · cases h
    · rw [if_neg h1]
      by_cases h2 : digC c = true
      · rw [if_pos h2]
        have := numN_le (c :: r)
        unfold numT
        repeat' split
        all_goals first
          | (rename_i h; repeat' split at h
             all_goals first | (cases h; done) | (injection h; omega) | (cases h; omega))
      · rw [if_neg h2]
        by_cases h3 : c.toNat = 34
        · rw [if_pos h3]
          have := textGo_le (r.length + 1) r [] 1
          have e : textT (c :: r) = textGo (r.length + 1) r [] 1 := rfl
          rw [e]
          split <;> rename_i h <;> rw [h] at this <;> simp only [List.length_cons] at * <;> omega
        · rw [if_neg h3]
          have := signGo_le signs (c :: r)
          have e : signT (c :: r) = signGo signs (c :: r) := rfl
          rw [e]
          split <;> rename_i h <;> rw [h] at this <;> simp only at this <;> omega

/-- What is known where a token ends: the token in block B, k bytes taken; or a fault. -/
def AtEnd (w : World) (base : Nat) (v : Value) (ts : List Tk) (B : Nat) (R : Res) (n k e : Nat) : Prop :=
  TksAt w base v ts ∧ ((R = .bad k e ∧ e ≠ 0) ∨ (e = 0 ∧ ∃ kd tx x, R = .ok kd tx x k ∧ w.heap[B]? = some (.cells #[.int .u8 kd, .string ⟨tx.toArray⟩, .int .i64 x, .int .i64 n] 29 (0, 0))))

/-! ### a token's end, kind by kind -/
theorem sub_list {s : ByteArray} {n : Nat} {l : List UInt8} (h : s.data.toList.drop n = l) : (s.extract n s.size).data.toList = l := by rw [Lib.extract_to_end, h]
theorem word_res {t : ByteArray} {l : List UInt8} (h : t.data.toList = l) : (wordT l = .bad 0 2 ∧ wordV t = .tuple #[.string ⟨#[]⟩, .int .i64 0, .int .i64 2]) ∨ (∃ k : Nat, wordT l = .ok 1 (l.take k) 0 k ∧ wordV t = .tuple #[.string ⟨(l.take k).toArray⟩, .int .i64 k, .int .i64 0]) := by
  subst h
  unfold wordT wordV
  by_cases h1 : 24 < span wordC t.data.toList
  · rw [if_pos h1, if_pos h1]; exact .inl ⟨rfl, rfl⟩
  · rw [if_neg h1, if_neg h1]
    refine .inr ⟨_, rfl, ?_⟩
    rw [Lib.extract_eq]
    simp
theorem num_res (l : List UInt8) : (∃ k e : Nat, numT l = .bad k e ∧ e ≠ 0 ∧ k ≤ l.length) ∨ ∃ x k : Nat, numT l = .ok 2 [] x k ∧ k ≤ l.length := by
  have := numN_le l
  unfold numT
  split
  · exact .inl ⟨_, _, rfl, by omega, by omega⟩
  · split
    · exact .inr ⟨_, _, rfl, this⟩
    · split
      · exact .inl ⟨_, _, rfl, by omega, this⟩
      · exact .inr ⟨_, _, rfl, this⟩
theorem textGo_res : ∀ (k : Nat) (l acc : List UInt8) (n : Nat), (∃ i e : Nat, textGo k l acc n = .bad i e ∧ e ≠ 0) ∨ ∃ (tx : List UInt8) (i : Nat), textGo k l acc n = .ok 3 tx 0 i
  | 0, l, _, n => .inl ⟨_, _, rfl, by omega⟩
  | k + 1, l, acc, n => by
    unfold textGo
    match l with
    | [] => exact .inl ⟨_, _, rfl, by omega⟩
    | c :: r =>
      dsimp only
      split
      · exact .inr ⟨_, _, rfl⟩
      · cases hi : itemT c r with
        | bad j e => exact .inl ⟨_, _, rfl, by have := (itemT_code hi).1; omega⟩
        | ok b j =>
          dsimp only
          split
          · exact .inl ⟨_, _, rfl, by omega⟩
          · exact textGo_res k _ _ _
theorem text_res (l : List UInt8) : (∃ i e : Nat, textT l = .bad i e ∧ e ≠ 0) ∨ ∃ (tx : List UInt8) (i : Nat), textT l = .ok 3 tx 0 i := textGo_res _ _ _ _
theorem none_res (l : List UInt8) : ∃ i e : Nat, noneT l = .bad i e ∧ e ≠ 0 ∧ i ≤ 1 := by
  match l with
  | [] => exact ⟨_, _, rfl, by omega, by omega⟩
  | c :: r =>
    unfold noneT
    dsimp only
    split
    · exact ⟨_, _, rfl, by omega, by omega⟩
    · split
      · exact ⟨_, _, rfl, by omega, by omega⟩
      · exact ⟨_, _, rfl, by omega, by omega⟩

section
variable {w wr w3 : World} {v : Value} {ts : List Tk} {cs : Array Value} {j : Nat} {x : Value}
theorem end_at (hB : TksAt wr w.heap.size v ts) (hb : Below w.heap.size w wr) (hb3 : Below (wr.alloc (.cells cs 29)).heap.size (wr.alloc (.cells cs 29)) w3) :
    TksAt w3 w.heap.size v ts ∧ w3.heap[wr.heap.size]? = some (.cells cs 29 (0, 0)) ∧ Below w.heap.size w w3 := by
  have hsz := hb.size
  have h1 : wr.heap.size < (wr.alloc (.cells cs 29)).heap.size := by simp
  exact ⟨(hB.below ((Below.refl _ wr).alloc (Nat.le_refl _) _)).below hb3, (hb3.block _ h1).trans (heap_alloc_new wr _), (hb.alloc hsz _).trans (hb3.mono (by omega))⟩
theorem end_cell {b : Nat} (h : w3.heap[b]? = some (.cells cs 29 (0, 0))) (j : Nat) : w3.cell? ⟨b, j, none⟩ = cs[j]? ∧ w3.frozen? ⟨b, j, none⟩ = false := by
  simp [World.cell?, World.frozen?, h]
theorem end_set (hB : TksAt w3 w.heap.size v ts) (hBr : TksAt wr w.heap.size v ts) (h : w3.heap[wr.heap.size]? = some (.cells cs 29 (0, 0))) (hb : Below w.heap.size w w3) (hsz : w.heap.size ≤ wr.heap.size) (j : Nat) (x : Value) :
    TksAt (w3.setCell ⟨wr.heap.size, j, none⟩ x) w.heap.size v ts ∧ (w3.setCell ⟨wr.heap.size, j, none⟩ x).heap[wr.heap.size]? = some (.cells (cs.setIfInBounds j x) 29 (0, 0)) ∧ Below w.heap.size w (w3.setCell ⟨wr.heap.size, j, none⟩ x) := by
  refine ⟨ownsRow_only hB ((Only.refl (fun k => k = wr.heap.size) w3).setCell (p := ⟨wr.heap.size, j, none⟩) (.inl rfl) x) (fun g hg e => ?_), heap_setCell_same w3 _ j _ _ x h, hb.setCell (p := ⟨wr.heap.size, j, none⟩) hsz x⟩
  have := (World.ownsRow.lt hBr g hg).2
  have e' : g = wr.heap.size := e
  omega
end

theorem var_below {w W : World} (hb : Below w.heap.size w W) {nm : String} {cs : Array Value} (h : w.var? Tryd.prog nm = some cs) : W.var? Tryd.prog nm = some cs := by
  unfold World.var? at h ⊢
  cases hg : Tryd.prog.globalNamed nm with
  | none => simp [hg] at h
  | some g =>
    simp only [hg, Option.bind_some] at h ⊢
    have hlt : g < w.heap.size := by
      rcases Nat.lt_or_ge g w.heap.size with h' | h'
      · exact h'
      · simp [Array.getElem?_eq_none h'] at h
    rw [hb.block g hlt]
    exact h
theorem ErrR.below {w W : World} (h : ErrR w) (hb : Below w.heap.size w W) : ErrR W := by
  obtain ⟨tp, p, h⟩ := h
  exact ⟨tp, p, var_below hb h⟩
theorem SignsOK.below {w W : World} (h : SignsOK w) (hb : Below w.heap.size w W) : SignsOK W := by
  intro i hi
  have h0 := h i hi
  exact (hb.cell (p := ⟨0, i, none⟩) (World.block_lt_of_cell? w _ h0)).trans h0

/-- The signs, as the program holds them. -/
def signsV : Value := .agg #[.string ⟨#[61, 61]⟩, .string ⟨#[33, 61]⟩, .string ⟨#[60, 61]⟩, .string ⟨#[40]⟩, .string ⟨#[41]⟩, .string ⟨#[123]⟩, .string ⟨#[125]⟩, .string ⟨#[91]⟩, .string ⟨#[93]⟩, .string ⟨#[44]⟩, .string ⟨#[61]⟩, .string ⟨#[60]⟩, .string ⟨#[43]⟩, .string ⟨#[45]⟩, .string ⟨#[42]⟩, .string ⟨#[47]⟩, .string ⟨#[37]⟩]
theorem index_arr {cs : Array Value} {j : Nat} {v : Value} (hj : j < 17) (e : cs[j]? = some v) (w : World) : (Instr.index 41 (.agg cs) (.int .i64 (j : Int))).run Tryd.prog w = .ok v w := by
  have h := Tryd.underlying41
  have hj2 : (j : Int) < 17 := by omega
  have hg : (isAgg 9).run Tryd.prog w = .ok false w := by simp [isAgg, run_underlying Tryd.underlying9, go_sem]
  simp [Instr.index, run_underlying h, asIntOf, hj2, part, e, go_sem, hg]
  intro h2
  omega
theorem index_sign {j : Nat} (hj : j < 17) (w : World) : (Instr.index 41 signsV (.int .i64 (j : Int))).run Tryd.prog w = .ok (.string ⟨(signs.getD j []).toArray⟩) w := by
  have e : (#[Value.string ⟨#[61, 61]⟩, .string ⟨#[33, 61]⟩, .string ⟨#[60, 61]⟩, .string ⟨#[40]⟩, .string ⟨#[41]⟩, .string ⟨#[123]⟩, .string ⟨#[125]⟩, .string ⟨#[91]⟩, .string ⟨#[93]⟩, .string ⟨#[44]⟩, .string ⟨#[61]⟩, .string ⟨#[60]⟩, .string ⟨#[43]⟩, .string ⟨#[45]⟩, .string ⟨#[42]⟩, .string ⟨#[47]⟩, .string ⟨#[37]⟩] : Array Value)[j]? = some (.string ⟨(signs.getD j []).toArray⟩) := by
    have : ∀ j, j < 17 → (#[Value.string ⟨#[61, 61]⟩, .string ⟨#[33, 61]⟩, .string ⟨#[60, 61]⟩, .string ⟨#[40]⟩, .string ⟨#[41]⟩, .string ⟨#[123]⟩, .string ⟨#[125]⟩, .string ⟨#[91]⟩, .string ⟨#[93]⟩, .string ⟨#[44]⟩, .string ⟨#[61]⟩, .string ⟨#[60]⟩, .string ⟨#[43]⟩, .string ⟨#[45]⟩, .string ⟨#[42]⟩, .string ⟨#[47]⟩, .string ⟨#[37]⟩] : Array Value)[j]? = some (.string ⟨(signs.getD j []).toArray⟩) := by
      intro j hj
      match j, hj with
      | 0, _ | 1, _ | 2, _ | 3, _ | 4, _ | 5, _ | 6, _ | 7, _ | 8, _ | 9, _ | 10, _ | 11, _ | 12, _ | 13, _ | 14, _ | 15, _ | 16, _ => rfl
      | j + 17, h => omega
    exact this j hj
  exact index_arr hj e w
theorem sign_step {j : Nat} (hj : j < 17) (l : List UInt8) : (signs.getD j []).length ≤ 2 ∧ signGo (signs.drop j) l = if (signs.getD j []).isPrefixOf l then .ok 4 (signs.getD j []) 0 (signs.getD j []).length else signGo (signs.drop (j + 1)) l := by
  have hl : j < signs.length := hj
  have e : signs.getD j [] = signs[j] := by rw [List.getD_eq_getElem?_getD, List.getElem?_eq_getElem hl]; rfl
  refine ⟨?_, ?_⟩
  · have : ∀ j, j < 17 → (signs.getD j []).length ≤ 2 := by decide
    exact this j hj
  · rw [List.drop_eq_getElem_cons hl, e]
    rfl
theorem prefix_call (t : ByteArray) (S l : List UInt8) (h : t.data.toList = l) {b : Bool} (hb : S.isPrefixOf l = b) (w : World) :
    Calls Tryd.prog 19 #[.string t, .string ⟨S.toArray⟩] w fun e w' => e = .returned (.bool b) ∧ w' = w := by
  have := Tryd.strings_HasPrefix t ⟨S.toArray⟩ w
  have e : Lib.hasPrefix t.data.toList (⟨S.toArray⟩ : ByteArray).data.toList = b := by
    rw [h]; exact hb
  rw [e] at this
  exact this

theorem toLine_end {s : ByteArray} {n m : Nat} (h : toLine (s.data.toList.drop (n + 1)) = toLine (s.data.toList.drop m)) (hm : n + 1 ≤ m) (hms : m ≤ s.size) (he : m = s.size ∨ ∃ h : m < s.size, s[m].toNat = 10) {c : UInt8} (hc : c.toNat = 35) (ts : List Tk) :
    allR (c :: s.data.toList.drop (n + 1)) n ts = allR (s.data.toList.drop m) m ts := by
  have h1 : toLine (s.data.toList.drop m) = s.data.toList.drop m := by
    rcases he with rfl | ⟨h, h10⟩
    · rw [no_drop (Nat.le_refl _)]; rfl
    · rw [at_drop h]; exact if_pos h10
  rw [allR_remark _ _ _ hc, h, h1, List.length_drop, List.length_drop, size_list, show n + 1 + (s.size - (n + 1) - (s.size - m)) = m by omega]
theorem toLine_next {s : ByteArray} {m : Nat} (h : m < s.size) (hc : s[m].toNat ≠ 10) : toLine (s.data.toList.drop m) = toLine (s.data.toList.drop (m + 1)) := by
  rw [at_drop h]; exact if_neg hc
end Go.Proofs.YtmgbebpkkidooaaDoor
