/- Frames cut into pieces (layer 6): plain facts on beginnings of frames; bodies that are put behind bodies, in memory, beside a reader. -/
import Derived.Test.YtdeloaknoadpiaaFRefF
import Derived.Test.YtdeloaknoadpiaaFOpen2
namespace Go.Proofs.Ytdeloaknoadpiaa
open Go.RowKit
namespace Crc

theorem framesL_snoc : ∀ (l : List (List Nat)) (m : List Nat), framesL (l ++ [m]) = framesL l ++ frameL m
  | [], m => by show frameL m ++ [] = [] ++ frameL m; simp
  | b :: l, m => by
    show frameL b ++ framesL (l ++ [m]) = (frameL b ++ framesL l) ++ frameL m
    rw [framesL_snoc l m, List.append_assoc]
theorem framesL_take {ls : List (List Nat)} {i : Nat} (hi : i < ls.length) : framesL (ls.take (i + 1)) = framesL (ls.take i) ++ frameL (ls.getD i []) := by
  rw [List.take_succ_eq_append_getElem hi, framesL_snoc]
  simp [List.getD_eq_getElem?_getD, List.getElem?_eq_getElem hi]
theorem frameL_byte {b : List Nat} (h : ∀ x ∈ b, x < 256) : ∀ x ∈ frameL b, x < 256 := by
  intro x hx
  simp only [frameL, List.mem_append] at hx
  rcases hx with hx | hx | hx | hx
  · exact le_byte _ _ x hx
  · exact le_byte _ _ x hx
  · exact h x hx
  · exact le_byte _ _ x hx
theorem framesL_byte : ∀ {l : List (List Nat)}, (∀ b ∈ l, ∀ x ∈ b, x < 256) → ∀ x ∈ framesL l, x < 256
  | [], _, x, hx => by simp [framesL] at hx
  | b :: l, h, x, hx => by
    rcases List.mem_append.1 (show x ∈ frameL b ++ framesL l from hx) with hx | hx
    · exact frameL_byte (h b (by simp)) x hx
    · exact framesL_byte (fun b hb => h b (by simp [hb])) x hx
/-- All was told just if nothing is left. -/
theorem split_all : ∀ (k : Nat) (l : List Nat), l.length ≤ k → ((splitL l).code = 0 ↔ (splitL l).at_ = l.length)
  | k, l, hk => by
    by_cases h0 : l = []
    · subst h0; simp [splitL_nil]
    have hpos : 0 < l.length := List.length_pos_iff.2 h0
    by_cases hc : (readL l).code = 0
    · have hr := read_le hc
      rw [splitL_step h0 hc]
      match k with
      | 0 => omega
      | k + 1 =>
        have := split_all k (l.drop (readL l).n) (by rw [List.length_drop]; omega)
        rw [List.length_drop] at this
        show (splitL (l.drop (readL l).n)).code = 0 ↔ (readL l).n + (splitL (l.drop (readL l).n)).at_ = l.length
        rw [this]
        omega
    · rw [splitL_stop h0 hc]
      show (readL l).code = 0 ↔ 0 = l.length
      omega
/-- A beginning of what is told whole ends well, or too early. -/
theorem split_begin {A : List Nat} (h : (splitL A).code = 0) (k : Nat) : (splitL (A.take k)).code = 0 ∨ (splitL (A.take k)).code = 4 := by
  rcases Nat.lt_or_ge 0 (splitL (A.take k)).code with h0 | h0
  · by_cases h4 : (splitL (A.take k)).code = 4
    · exact .inr h4
    · have := split_broken _ (A.take k) (A.drop k) (Nat.le_refl _) (by omega) h4
      rw [List.take_append_drop] at this
      rw [this] at h
      omega
  · exact .inl (by omega)
/-- One piece more. -/
theorem split_piece {A : List Nat} (h : (splitL A).code = 0) {i j : Nat} (hij : i ≤ j) :
    (splitL ((A.take i).drop (splitL (A.take i)).at_ ++ (A.drop i).take (j - i))).code = (splitL (A.take j)).code ∧
    (splitL (A.take i)).bodies ++ (splitL ((A.take i).drop (splitL (A.take i)).at_ ++ (A.drop i).take (j - i))).bodies = (splitL (A.take j)).bodies ∧
    (splitL (A.take i)).at_ + (splitL ((A.take i).drop (splitL (A.take i)).at_ ++ (A.drop i).take (j - i))).at_ = (splitL (A.take j)).at_ ∧
    ((A.take i).drop (splitL (A.take i)).at_ ++ (A.drop i).take (j - i)).drop (splitL ((A.take i).drop (splitL (A.take i)).at_ ++ (A.drop i).take (j - i))).at_ = (A.take j).drop (splitL (A.take j)).at_ := by
  have e : A.take j = A.take i ++ (A.drop i).take (j - i) := by
    rw [← List.take_add, show i + (j - i) = j by omega]
  have hS := split_more _ (A.take i) ((A.drop i).take (j - i)) (Nat.le_refl _) (split_begin h i)
  rw [← e] at hS
  have hle := split_le _ (A.take i) (Nat.le_refl _)
  refine ⟨by rw [hS], by rw [hS], by rw [hS], ?_⟩
  rw [hS]
  show _ = (A.take j).drop ((splitL (A.take i)).at_ + _)
  rw [← List.drop_drop, e, List.drop_append_of_le_length hle]
end Crc
open Crc

section
variable {w W W2 : World} {base r p q left taken fault : Nat} {v v1 v2 gv vl : Value} {rest : List Nat} {ls ms : List (List Nat)} {F F' : Nat → Prop}
/-- Bodies in memory, none of their blocks in F. -/
def GotX (w : World) (base : Nat) (F : Nat → Prop) (v : Value) (ls : List (List Nat)) : Prop :=
  ∃ vs : List Value, vs.length = ls.length ∧ w.ownsRow base 22 1 v ls.length vs ∧ (∀ k, RowOf v k → ¬ F k) ∧ ∀ i, i < ls.length → ∃ u, vs[i]? = some u ∧ Buf8 w base u (ls.getD i []) ∧ ∀ k, RowOf u k → ¬ F k
theorem GotX.nil (w : World) (base : Nat) (F : Nat → Prop) : GotX w base F (.slice none 0 0) [] := ⟨[], rfl, World.ownsRow_nil _ _ _ _, fun k hk => by simp [RowOf, Value.ownBlock] at hk, fun i hi => by simp at hi⟩
theorem GotX.bods (h : GotX w base F v ls) : Bods w base v ls := by
  obtain ⟨vs, h1, h2, _, h3⟩ := h
  exact ⟨vs, h1, h2, fun i hi => (h3 i hi).imp fun _ h => ⟨h.1, h.2.1⟩⟩
theorem GotX.only (h : GotX w base F v ls) (ho : Only F w W) : GotX W base F v ls := by
  obtain ⟨vs, h1, h2, h3, h4⟩ := h
  refine ⟨vs, h1, ownsRow_only h2 ho (fun k hk => h3 k hk), h3, fun i hi => ?_⟩
  obtain ⟨u, hu, hB, hF⟩ := h4 i hi
  exact ⟨u, hu, hB.only ho (fun k hk => hF k hk), hF⟩
/-- Other blocks are out of bounds now: those of before, or new ones. -/
theorem GotX.turn (h : GotX w base F v ls) (ho : Only F w W) (hF : ∀ k, F' k → F k ∨ w.heap.size ≤ k) : GotX W base F' v ls := by
  have h' := h
  obtain ⟨vs, h1, h2, h3, h4⟩ := h'
  refine ⟨vs, h1, ownsRow_only h2 ho (fun k hk => h3 k hk), fun k hk hf => ?_, fun i hi => ?_⟩
  · rcases hF k hf with e | e
    · exact h3 k hk e
    · have := (World.ownsRow.lt h2 k hk).2; omega
  · obtain ⟨u, hu, hB, hN⟩ := h4 i hi
    refine ⟨u, hu, hB.only ho (fun k hk => hN k hk), fun k hk hf => ?_⟩
    rcases hF k hf with e | e
    · exact hN k hk e
    · have := (hB.base_ k hk).2; omega
theorem GotX.length (h : GotX w base F v ls) : ∃ a cap, v = .slice a ls.length cap := by
  obtain ⟨_, _, h2, _⟩ := h
  obtain ⟨a, cap, h, _⟩ := ownsRow_shape h2
  exact ⟨a, cap, h⟩

/-- append, bodies behind bodies: at the operation. -/
theorem wpList_append_got {ops : Array Oper} {rest : List Oper} {o : Oper} {a : Act} {Q : Exit → Act → World → Prop} (hgd : o.guard = none) (s x : Operand)
    (ho : o.op = .call { callee := .builtin .append, args := #[s, x], argTypes := #[29, 29] })
    (hs : a.eval s = gv) (hG : GotX w base F gv ls) (hx : a.eval x = vl) (hQ : BodsQ w p q vl ms) (hlen : ls.length + ms.length ≤ 1000000) (hbase : base ≤ w.heap.size) (hp : base ≤ p) (hq : q ≤ w.heap.size)
    (hF : ∀ k, p ≤ k → k < q → ¬ F k) (hFl : ∀ k, F k → k < w.heap.size)
    (h : ∀ v' w', GotX w' base F v' (ls ++ ms) → Only (RowOf gv) w w' → wpList Try.prog ops Q rest (a.put o.dst v') w') :
    wpList Try.prog ops Q (o :: rest) a w := by
  obtain ⟨i0, hi, hz0, hz1, hz2⟩ := infoS_parts
  obtain ⟨vs, g1, g2, g3, g4⟩ := hG
  obtain ⟨us, m1, m2, m3, m4⟩ := hQ
  have hone : ∀ u ∈ us, u.oneCell' = true := by
    intro u hu
    obtain ⟨i, hi, rfl⟩ := List.getElem_of_mem hu
    obtain ⟨u', hu', hB, _⟩ := m4 i (by omega)
    rw [List.getElem?_eq_getElem hi] at hu'
    injection hu' with e
    obtain ⟨_, _, e2, _⟩ := ownsRow_shape hB
    rw [e, e2]; rfl
  rcases m2.2 with ⟨hv, h0⟩ | ⟨g, cap, cur, hv, hb, hg, hnc, hcm, hsz, ht⟩
  · have hm0 : ms = [] := List.eq_nil_of_length_eq_zero h0
    subst hm0
    refine wpList_append_own_none hgd s x 29 ho base 22 i0 1 Try.underlying29 hi gv ls.length vs hs g2 (hx.trans hv) ?_
    exact h gv w (by rw [List.append_nil]; exact ⟨vs, g1, g2, g3, g4⟩) (Only.refl _ _)
  · refine wpList_append_own_at _ hgd s x 29 ho base 22 i0 (.slice none 0 0) 1 24 Try.underlying29 hi hz0 hz1 hz2 rfl (by decide) gv ls.length vs hs g2 ⟨g, 0, none⟩ ms.length cap us (hx.trans hv) (by omega) ?_ hone (by unfold maxLen; omega) (by omega) hbase ?_
    · intro j u hj
      have hjl := (List.getElem?_eq_some_iff.1 hj).1
      rw [show (⟨g, 0, none⟩ : Addr).add j = ⟨g, j, none⟩ by simp [Addr.add]; omega]
      have hm2 := m2
      rw [hv] at hm2
      rw [World.ownsRow.cellAt (g := g) (cap := cap) hm2 j (by omega)]
      exact hj
    · intro v' w' hown hgr hnil hloc
      have hbuf : ∀ {b2 : Nat} {u : Value} {m : List Nat}, base ≤ b2 → Buf8 w b2 u m → Buf8 w' base u m := fun {b2 u m} hb2 hB => by
        refine ⟨hB.1, ?_⟩
        rcases hB.2 with hn | ⟨g', cap', cur', hv', hb', hg', rest⟩
        · exact .inl hn
        · refine .inr ⟨g', cap', cur', hv', by omega, ?_, rest⟩
          refine (hgr.block g' (Array.getElem?_eq_some_iff.1 hg').1 ?_).trans hg'
          intro e
          rcases g2.2 with ⟨hv2, _⟩ | ⟨g3', cap3, cur3, hv3, hb3, hg3, _⟩
          · rw [hv2] at e; cases e
          · rw [hv3] at e
            have e4 : g' = g3' := by simpa [Value.ownBlock] using e
            subst e4
            rw [hg'] at hg3
            injection hg3 with hg3
            injection hg3 with _ hg3 _
            exact absurd hg3 (by decide)
      refine h v' w' ⟨vs ++ us, by simp [g1, m1], by rw [List.length_append]; exact hown, ?_, fun i hi => ?_⟩ (Only.of_grown hgr (fun k hk => hk))
      · intro k hk hf
        rcases hloc with e | e
        · exact g3 k (by unfold RowOf at hk ⊢; rw [← e]; exact hk) hf
        · have e2 : v'.ownBlock = some k := hk
          rw [e] at e2
          injection e2 with e2
          have := hFl k hf
          omega
      · rw [List.length_append] at hi
        rcases Nat.lt_or_ge i ls.length with hlt | hge
        · obtain ⟨u, hu, hB, hN⟩ := g4 i hlt
          have e : (ls ++ ms).getD i [] = ls.getD i [] := by rw [List.getD_eq_getElem?_getD, List.getD_eq_getElem?_getD, List.getElem?_append_left hlt]
          exact ⟨u, by rw [List.getElem?_append_left (by omega)]; exact hu, by rw [e]; exact hbuf (Nat.le_refl _) hB, hN⟩
        · obtain ⟨u, hu, hB, hN⟩ := m4 (i - ls.length) (by omega)
          have e : (ls ++ ms).getD i [] = ms.getD (i - ls.length) [] := by rw [List.getD_eq_getElem?_getD, List.getD_eq_getElem?_getD, List.getElem?_append_right hge]
          refine ⟨u, by rw [List.getElem?_append_right (by omega), g1]; exact hu, by rw [e]; exact hbuf hp hB, fun k hk => hF k (hB.base_ k hk).1 (hN k hk)⟩
end
end Go.Proofs.Ytdeloaknoadpiaa
