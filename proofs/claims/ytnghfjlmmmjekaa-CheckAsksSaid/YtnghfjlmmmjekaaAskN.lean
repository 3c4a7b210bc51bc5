/- Rows of names (layer 11): append of one row to another; the document's named, walked. No condition. -/
import Derived.Test.YtnghfjlmmmjekaaAskP
import Derived.Test.YtnghfjlmmmjekaaCkH
import Derived.Laws.AppendOwnNone
import Derived.BigQuiet
namespace Go.Proofs.Ytnghfjlmmmjekaa
open Go.RowKit Go.Shelf

/-- A row of names as what is put behind another one: nil, or its cells are known. -/
def SrcN (w : World) (u : Value) (ms : List (List UInt8)) : Prop := (u = .slice none 0 0 ∧ ms = []) ∨ ∃ ad c, u = .slice (some ad) ms.length c ∧ ∀ j x, (ms.map strV)[j]? = some x → w.cell? (ad.add j) = some x
theorem names_one (ms : List (List UInt8)) : ∀ u ∈ ms.map strV, u.oneCell' = true := by
  intro u hu
  obtain ⟨s, _, rfl⟩ := List.mem_map.1 hu
  rfl
theorem wpList_append_names {w : World} {base : Nat} {v u : Value} {ns ms : List (List UInt8)} {ops : Array Oper} {rest : List Oper} {o : Oper} {a : Act} {Q : Exit → Act → World → Prop} (hgd : o.guard = none) (s x : Operand)
    (ho : o.op = .call { callee := .builtin .append, args := #[s, x], argTypes := #[34, 34] })
    (hs : a.eval s = v) (hown : NamesAt w base v ns) (hx : a.eval x = u) (hu : SrcN w u ms)
    (hk : ns.length ≤ 1000000000) (hk2 : ms.length ≤ 1000000000) (hbase : base ≤ w.heap.size)
    (h : ∀ a' cap w', NamesAt w' base (.slice a' (ns.length + ms.length) cap) (ns ++ ms) → Only (fun k => v.ownBlock = some k) w w' → ((Value.slice a' (ns.length + ms.length) cap).ownBlock = v.ownBlock ∨ (Value.slice a' (ns.length + ms.length) cap).ownBlock = some w.heap.size) → wpList Try.prog ops Q rest (a.put o.dst (.slice a' (ns.length + ms.length) cap)) w') : wpList Try.prog ops Q (o :: rest) a w := by
  obtain ⟨i0, hi, hz0, hz1, hz2⟩ := st_parts
  rcases hu with ⟨rfl, rfl⟩ | ⟨ad, c, rfl, hc⟩
  · obtain ⟨a', cap, rfl, _, _⟩ := id hown.shape
    refine wpList_append_own_none hgd s x 34 ho base 9 i0 1 Try.underlying34 hi _ ns.length (ns.map strV) hs hown hx ?_
    refine h a' cap w ?_ (Only.refl _ _) (.inl rfl)
    rw [List.append_nil]
    exact hown
  · refine wpList_append_own_at _ hgd s x 34 ho base 9 i0 (.string ⟨#[]⟩) 1 16 Try.underlying34 hi hz0 hz1 hz2 rfl (by decide) v ns.length (ns.map strV) hs hown ad ms.length c (ms.map strV) hx (by simp) hc (names_one ms) (by unfold maxLen; omega) (by omega) hbase ?_
    intro v' w' h2 h3 _ h5
    have hT : NamesAt w' base v' (ns ++ ms) := by
      unfold NamesAt
      rw [List.length_append, List.map_append]
      exact h2
    obtain ⟨a', cap, e, _⟩ := hT.shape
    rw [List.length_append] at e
    subst e
    exact h a' cap w' hT (Only.of_grown h3 (fun k hk => hk)) h5
section
variable {w : World} {base : Nat} {v : Value} {ns : List (List UInt8)}
/-- The first n of a row, and what is behind them, as sources. -/
theorem NamesAt.srcHead (h : NamesAt w base v ns) {n : Nat} (hn : n ≤ ns.length) : ∃ u, (∀ W, (Instr.slice 34 v none (some (.int .i64 (n : Int))) none).run Try.prog W = .ok u W) ∧ SrcN w u (ns.take n) := by
  obtain ⟨a, cap, rfl, hc, _⟩ := id h.shape
  refine ⟨_, run_headN a ns.length n cap (by omega), ?_⟩
  rcases h.2 with ⟨e, h0⟩ | ⟨g', cap', cur, e, hb, hg, h1, h2, h3, h4⟩
  · injection e with e1 e2 e3
    subst e1 e3
    have : n = 0 := by omega
    subst this
    exact .inl ⟨rfl, by rw [List.take_zero]⟩
  · injection e with e1 e2 e3
    subst e1 e3
    refine .inr ⟨_, cap, by rw [List.length_take, Nat.min_eq_left hn], fun j x hj => ?_⟩
    rw [List.map_take] at hj
    have hjn : j < n := by
      rcases Nat.lt_or_ge j n with h | h
      · exact h
      · rw [List.getElem?_eq_none (by rw [List.length_take]; omega)] at hj; cases hj
    rw [List.getElem?_take_of_lt hjn] at hj
    have hl : j < ns.length := by omega
    have := World.ownsRow.cellAt (g := g') (cap := cap) h j (by omega)
    rw [hj] at this
    by_cases h0 : j = 0
    · subst h0
      simpa [Addr.add] using this
    · simpa [Addr.add, h0] using this
set_option maxRecDepth 20000 in
theorem NamesAt.srcTail (h : NamesAt w base v ns) {n : Nat} (hn : n ≤ ns.length) : ∃ u, (∀ W, (Instr.slice 34 v (some (.int .i64 (n : Int))) none none).run Try.prog W = .ok u W) ∧ SrcN w u (ns.drop n) := by
  obtain ⟨a, cap, rfl, hc, _⟩ := id h.shape
  have hrun : ∀ W, (Instr.slice 34 (.slice a ns.length cap) (some (.int .i64 (n : Int))) none none).run Try.prog W = .ok (.slice (if cap = n then a else a.map (·.add (n * 1))) (ns.length - n) (cap - n)) W := by
    intro W
    rw [run_slice_l (P := Try.prog) (w := W) 34 a ns.length cap Try.underlying34 .i64 n (by omega) (by omega), size_str]
    simp only [Result.andThen, sliced, Int.toNat_natCast]
  refine ⟨_, hrun, ?_⟩
  rcases h.2 with ⟨e, h0⟩ | ⟨g', cap', cur, e, hb, hg, h1, h2, h3, h4⟩
  · injection e with e1 e2 e3
    subst e1 e3
    have : n = 0 := by omega
    subst this
    refine .inl ⟨by rw [h0]; rfl, ?_⟩
    rw [List.drop_zero]
    exact List.length_eq_zero_iff.1 h0
  · injection e with e1 e2 e3
    subst e1 e3
    by_cases hcn : cap = n
    · rw [if_pos hcn]
      have hnl : ns.length = n := by omega
      refine .inr ⟨_, cap - n, by rw [List.length_drop], fun j x hj => ?_⟩
      rw [List.drop_eq_nil_of_le (by omega)] at hj
      simp at hj
    · rw [if_neg hcn]
      refine .inr ⟨_, cap - n, by rw [List.length_drop]; rfl, fun j x hj => ?_⟩
      rw [List.map_drop, List.getElem?_drop] at hj
      have hl : n + j < ns.length := by
        rcases Nat.lt_or_ge (n + j) ns.length with h | h
        · exact h
        · rw [List.getElem?_eq_none (by simpa using h)] at hj; cases hj
      have := World.ownsRow.cellAt (g := g') (cap := cap) h (n + j) (by omega)
      rw [hj] at this
      have e1 : ((Addr.mk g' 0 none).add (n * 1)).add j = ⟨g', n + j, none⟩ := by
        by_cases hn0 : n = 0
        · subst hn0
          by_cases h0 : j = 0
          · subst h0; simp [Addr.add]
          · simp [Addr.add, h0]
        · by_cases h0 : j = 0
          · subst h0; simp [Addr.add, hn0]
          · simp [Addr.add, h0, hn0]
      rw [e1]
      exact this
theorem NamesAt.cellAt (h : NamesAt w base v ns) {i : Nat} (hi : i < ns.length) : ∃ g cap, v = .slice (some ⟨g, 0, none⟩) ns.length cap ∧ w.cell? ⟨g, i, none⟩ = some (strV ns[i]) := by
  obtain ⟨a, cap, rfl, _, _⟩ := id h.shape
  obtain ⟨g, rfl, hc⟩ := h.cells rfl (by omega)
  exact ⟨g, cap, rfl, hc i hi⟩
end
/-- The names of the twigs of an Op. -/
def namesOp (op : Nat) (ts : List Tw) : List (List UInt8) := (ts.filter (fun x => decide (x.op = op))).map (·.text)
theorem namesOp_take {op : Nat} {ts : List Tw} {i : Nat} (h : i < ts.length) : namesOp op (ts.take (i + 1)) = namesOp op (ts.take i) ++ (if ts[i].op = op then [ts[i].text] else []) := by
  unfold namesOp
  rw [List.take_add_one, List.getElem?_eq_getElem h, List.filter_append, List.map_append]
  congr 1
  by_cases e : ts[i].op = op
  · rw [if_pos e]
    simp [e]
  · rw [if_neg e]
    simp [e]
theorem namesOp_len (op : Nat) (ts : List Tw) : (namesOp op ts).length ≤ ts.length := by
  unfold namesOp
  rw [List.length_map]
  exact List.length_filter_le _ _
/-- Where a name belongs. -/
theorem ins_at {s : List UInt8} : ∀ {l : List (List UInt8)} {k : Nat}, k ≤ l.length → (∀ x ∈ l.take k, x < s) → (∀ h : k < l.length, ¬ l[k] < s) → (∀ h : k < l.length, l[k] = s → insU s l = l) ∧ ((∀ h : k < l.length, l[k] ≠ s) → insU s l = l.take k ++ [s] ++ l.drop k)
  | [], k, hk, _, _ => by
    obtain rfl : k = 0 := by simpa using hk
    exact ⟨fun h => absurd h (by simp), fun _ => rfl⟩
  | x :: r, 0, _, _, h2 => by
    have hx : ¬ x < s := h2 (by simp)
    refine ⟨fun _ e => ?_, fun h => ?_⟩
    · have e' : x = s := e
      unfold insU
      rw [if_neg hx, if_pos e']
    · have e' : x ≠ s := h (by simp)
      unfold insU
      rw [if_neg hx, if_neg e']
      rfl
  | x :: r, k + 1, hk, h1, h2 => by
    have hx : x < s := h1 x (by rw [List.take_succ_cons]; exact List.mem_cons_self ..)
    have ih := ins_at (s := s) (l := r) (k := k) (by simpa using hk) (fun y hy => h1 y (by rw [List.take_succ_cons]; exact List.mem_cons_of_mem _ hy)) (fun h => h2 (by simpa using h))
    refine ⟨fun h e => ?_, fun h => ?_⟩
    · unfold insU
      rw [if_pos hx, ih.1 (by simpa using h) (by simpa using e)]
    · unfold insU
      rw [if_pos hx, ih.2 (fun h3 => h (Nat.succ_lt_succ h3))]
      rfl
theorem ins_len (s : List UInt8) : ∀ l : List (List UInt8), (insU s l).length ≤ l.length + 1
  | [] => by unfold insU; simp
  | x :: r => by
    have := ins_len s r
    unfold insU
    split
    · rw [List.length_cons, List.length_cons]; omega
    · split
      · rw [List.length_cons]; omega
      · rw [List.length_cons, List.length_cons]; omega
theorem all_len : ∀ (ns out : List (List UInt8)), (insAll ns out).length ≤ out.length + ns.length
  | [], out => Nat.le_refl _
  | s :: r, out => by
    have h1 := all_len r (insU s out)
    have h2 := ins_len s out
    unfold insAll at h1 ⊢
    rw [List.foldl_cons, List.length_cons]
    omega
theorem all_snoc (s : List UInt8) (ns : List (List UInt8)) : insAll (ns ++ [s]) [] = insU s (insAll ns []) := by
  unfold insAll
  rw [List.foldl_append]
  rfl
end Go.Proofs.Ytnghfjlmmmjekaa
