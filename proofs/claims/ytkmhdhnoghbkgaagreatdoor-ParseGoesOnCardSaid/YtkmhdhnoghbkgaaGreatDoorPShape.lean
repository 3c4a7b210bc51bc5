/- What the grammar of layer 9 reads are right trees (plain): of each rule. Condition: the tokens' words are names or words of the language, their texts not too long. -/
import Derived.Test.YtkmhdhnoghbkgaaGreatDoorPNode
set_option linter.unusedVariables false
namespace Go.Proofs.YtkmhdhnoghbkgaaGreatDoor
open Go.RowKit Go.Shelf Tok

theorem opOf_row {m : List UInt8} (h : m ∈ [B.or] ∨ m ∈ [B.and] ∨ m ∈ addS ∨ m ∈ mulS) : 30 ≤ opOfT m ∧ opOfT m ≤ 40 := by
  have hh : ∀ m, m ∈ [B.or, B.and] ++ addS ++ mulS → 30 ≤ opOfT m ∧ opOfT m ≤ 40 := by decide
  apply hh
  simp only [List.mem_append]
  rcases h with h | h | h | h
  · exact .inl (.inl (by simp at h; simp [h]))
  · exact .inl (.inl (by simp at h; simp [h]))
  · exact .inl (.inr h)
  · exact .inr h
theorem gM_trees {ks : List Tk} (hk : ∀ x ∈ ks, TokOK x) {G : NT → Nat → St Ch} (hG : ∀ q i c j, q.wf → q.bears → G q i = .ok c j → Trees c q.shape) {m : List UInt8} {i : Nat} {c : Ch} {j : Nat} (h : gM ks G m i = .ok c j) : Trees c oneE := by
  unfold gM at h
  split at h
  · obtain ⟨a, k, h1, h2⟩ := and_ok h
    rw [← ok_inj h2]
    exact many_ok (hG (.list B.lsq .expr B.rsq) _ _ _ ⟨by decide, by decide, .inr rfl⟩ trivial h1) (.inl ⟨rfl, rfl⟩)
  split at h
  · exact hG (.between B.opn .expr B.cls) _ _ _ ⟨by decide, by decide, .inr (.inl rfl)⟩ trivial h
  split at h
  · rename_i hm
    obtain ⟨a, k, h1, h2⟩ := and_ok h
    rw [← ok_inj h2]
    rcases hm with rfl | rfl | rfl | rfl <;> exact leaf_expr (by decide) (by decide)
  split at h
  · rename_i hm
    obtain ⟨_, k, _, h⟩ := and_ok h
    obtain ⟨a, k, h1, h2⟩ := and_ok h
    rw [← ok_inj h2]
    have ha := hG (.between B.opn .expr B.cls) _ _ _ ⟨by decide, by decide, .inr (.inl rfl)⟩ trivial h1
    rcases hm with rfl | rfl | rfl | rfl | rfl <;> exact over_expr ha (by decide) (by decide) (by decide)
  split at h
  · obtain ⟨_, k, _, h⟩ := and_ok h
    obtain ⟨a, k, h1, h2⟩ := and_ok h
    rw [← ok_inj h2]
    exact num_ok (hG (.between B.opn .two B.cls) _ _ _ ⟨by decide, by decide, .inr (.inr rfl)⟩ trivial h1)
  split at h
  · rename_i hm
    obtain ⟨_, k, _, h⟩ := and_ok h
    obtain ⟨nm, k, h0, h⟩ := and_ok h
    obtain ⟨a, k, h1, h2⟩ := and_ok h
    rw [← ok_inj h2]
    exact many_ok (hG (.list B.opn .expr B.cls) _ _ _ ⟨by decide, by decide, .inr rfl⟩ trivial h1) (.inr ⟨by rcases hm with rfl | rfl <;> decide, own_txt hk h0⟩)
  split at h
  · obtain ⟨_, k, _, h⟩ := and_ok h
    obtain ⟨a, k, h1, h2⟩ := and_ok h
    rw [← ok_inj h2]
    exact fork_ok (hG .block _ _ _ trivial trivial h1)
  split at h
  · obtain ⟨_, k, _, h⟩ := and_ok h
    obtain ⟨nm, k, h0, h2⟩ := and_ok h
    rw [← ok_inj h2]
    exact leaf_expr (fine_leaf (.inr (.inr rfl)) (own_txt hk h0)) (by decide)
  · obtain ⟨nm, k, h0, h2⟩ := and_ok h
    rw [← ok_inj h2]
    exact leaf_expr (fine_leaf (.inr (.inl rfl)) (own_txt hk h0)) (by decide)
theorem gP_trees {ks : List Tk} (hk : ∀ x ∈ ks, TokOK x) : ∀ f q i c j, q.wf → q.bears → gP ks f q i = .ok c j → Trees c q.shape
  | 0, q, i, c, j, _, _, h => by cases h
  | f + 1, q, i, c, j, hw, hb, h => by
    have ih := gP_trees hk f
    cases q with
    | flow =>
      obtain ⟨_, k, _, h⟩ := and_ok h
      obtain ⟨nm, k, h0, h⟩ := and_ok h
      obtain ⟨ps, k, h1, h⟩ := and_ok h
      obtain ⟨b, k, h2, h⟩ := and_ok h
      rw [← ok_inj h]
      exact flow_ok (ih (.list B.opn .param B.cls) _ _ _ ⟨by decide, by decide, .inl rfl⟩ trivial h1) (ih .block _ _ _ trivial trivial h2) (own_txt hk h0)
    | param =>
      obtain ⟨nm, k, h0, h⟩ := and_ok h
      rw [← ok_inj h]
      exact leaf_ok (fine_leaf (.inl rfl) (own_txt hk h0))
    | block =>
      obtain ⟨a, k, h1, h⟩ := and_ok h
      rw [← ok_inj h]
      exact block_ok (ih (.between B.lbr .stmts B.rbr) _ _ _ ⟨by decide, by decide, .inl rfl⟩ trivial h1)
    | stmts => exact ih (.stmtsGo Ch.none) _ _ _ trivial (Trees.none.mono (by rintro l rfl o ho; cases ho)) h
    | stmtsGo a =>
      unfold gP at h
      dsimp only at h
      split at h
      · rw [← ok_inj h]; exact hb
      · obtain ⟨x, k, h1, h⟩ := and_ok h
        refine ih (.stmtsGo (a.then x)) _ _ _ trivial (Trees.then hb (ih .stmt _ _ _ trivial trivial h1) ?_) h
        rintro l r hl ⟨o, rfl, ho⟩ p hp
        rcases List.mem_append.1 hp with hp | hp
        · exact hl p hp
        · simp at hp; rw [hp]; exact ho
    | stmt =>
      unfold gP at h
      dsimp only at h
      split at h
      · obtain ⟨_, k, _, h⟩ := and_ok h
        exact ih (.set 4) _ _ _ trivial (.inl rfl) h
      split at h
      · exact ih .choice _ _ _ trivial trivial h
      split at h
      · obtain ⟨_, k, _, h⟩ := and_ok h
        obtain ⟨x, k, h1, h⟩ := and_ok h
        obtain ⟨b, k, h2, h⟩ := and_ok h
        rw [← ok_inj h]
        exact cond_two (ih .expr _ _ _ trivial trivial h1) (ih .block _ _ _ trivial trivial h2) (.inr rfl)
      split at h
      · rename_i hm
        obtain ⟨_, k, _, h⟩ := and_ok h
        obtain ⟨x, k, h1, h⟩ := and_ok h
        rw [← ok_inj h]
        have ha := ih .expr _ _ _ trivial trivial h1
        rcases hm with hm | hm | hm | hm <;> rw [hm] <;> exact over_stmt ha (by decide) (by decide) (by decide)
      · exact ih (.set 5) _ _ _ trivial (.inr rfl) h
    | choice =>
      obtain ⟨_, k, _, h⟩ := and_ok h
      obtain ⟨x, k, h1, h⟩ := and_ok h
      obtain ⟨b, k, h2, h⟩ := and_ok h
      have hx := ih .expr _ _ _ trivial trivial h1
      have hbb := ih .block _ _ _ trivial trivial h2
      split at h
      · obtain ⟨_, k, _, h⟩ := and_ok h
        obtain ⟨d, k, h3, h⟩ := and_ok h
        rw [← ok_inj h]
        exact cond_three hx hbb (ih .block _ _ _ trivial trivial h3)
      · rw [← ok_inj h]
        exact cond_two hx hbb (.inl rfl)
    | expr => exact ih (.row .and [B.or]) _ _ _ ⟨.inr (.inr (.inr rfl)), by decide⟩ (fun m hm => opOf_row (.inl hm)) h
    | and => exact ih (.row .not [B.and]) _ _ _ ⟨.inr (.inr (.inl rfl)), by decide⟩ (fun m hm => opOf_row (.inr (.inl hm))) h
    | not =>
      unfold gP at h
      dsimp only at h
      split at h
      · obtain ⟨_, k, _, h⟩ := and_ok h
        obtain ⟨x, k, h1, h⟩ := and_ok h
        rw [← ok_inj h]
        exact over_expr (ih .not _ _ _ trivial trivial h1) (by decide) (by decide) (by decide)
      · exact ih .cmp _ _ _ trivial trivial h
    | cmp =>
      obtain ⟨x, k, h1, h⟩ := and_ok h
      have hx := ih .sum _ _ _ trivial trivial h1
      split at h
      · rename_i hm
        obtain ⟨_, l, _, h⟩ := and_ok h
        obtain ⟨y, l, h2, h⟩ := and_ok h
        rw [← ok_inj h]
        have hy := ih .sum _ _ _ trivial trivial h2
        rcases hm with hm | hm | hm | hm <;> rw [hm] <;> exact two_ok hx hy (by decide) (by decide)
      · rw [← ok_inj h]; exact hx
    | sum => exact ih (.row .term addS) _ _ _ ⟨.inr (.inl rfl), by decide⟩ (fun m hm => opOf_row (.inr (.inr (.inl hm)))) h
    | term => exact ih (.row .pre mulS) _ _ _ ⟨.inl rfl, by decide⟩ (fun m hm => opOf_row (.inr (.inr (.inr hm)))) h
    | pre =>
      unfold gP at h
      dsimp only at h
      split at h
      · obtain ⟨_, k, _, h⟩ := and_ok h
        obtain ⟨x, k, h1, h⟩ := and_ok h
        rw [← ok_inj h]
        exact over_expr (ih .pre _ _ _ trivial trivial h1) (by decide) (by decide) (by decide)
      split at h
      · rename_i hm
        obtain ⟨_, k, _, h⟩ := and_ok h
        obtain ⟨x, k, h1, h⟩ := and_ok h
        rw [← ok_inj h]
        have ha := ih .pre _ _ _ trivial trivial h1
        rcases hm with hm | hm <;> rw [hm] <;> exact over_expr ha (by decide) (by decide) (by decide)
      · exact ih .post _ _ _ trivial trivial h
    | post =>
      obtain ⟨x, k, h1, h⟩ := and_ok h
      exact ih (.postGo x) _ _ _ trivial (ih .prim _ _ _ trivial trivial h1) h
    | postGo a =>
      unfold gP at h
      dsimp only at h
      split at h
      · obtain ⟨x, k, h1, h⟩ := and_ok h
        exact ih (.postGo ((a.then x).under 42 0 [])) _ _ _ trivial (at_ok hb (ih (.between B.lsq .expr B.rsq) _ _ _ ⟨by decide, by decide, .inr (.inl rfl)⟩ trivial h1)) h
      · rw [← ok_inj h]; exact hb
    | prim =>
      unfold gP at h
      dsimp only at h
      split at h
      · rename_i x hx
        split at h
        · rw [← ok_inj h]; exact leaf_expr (fine_int _) (by decide)
        split at h
        · rename_i h3
          rw [← ok_inj h]
          exact leaf_expr (fine_text ((hk x (List.mem_of_getElem? hx)).2 h3)) (by decide)
        · exact gM_trees hk ih h
      · exact gM_trees hk ih h
    | two =>
      obtain ⟨x, k, h1, h⟩ := and_ok h
      obtain ⟨_, k, _, h⟩ := and_ok h
      obtain ⟨y, k, h2, h⟩ := and_ok h
      rw [← ok_inj h]
      refine Trees.then (ih .expr _ _ _ trivial trivial h1) (ih .expr _ _ _ trivial trivial h2) ?_
      rintro l r ⟨o, rfl, ho⟩ ⟨p, rfl, hp⟩
      exact ⟨o, p, rfl, ho, hp⟩
    | set op =>
      obtain ⟨nm, k, h0, h⟩ := and_ok h
      obtain ⟨_, k, _, h⟩ := and_ok h
      obtain ⟨x, k, h1, h⟩ := and_ok h
      rw [← ok_inj h]
      have hs : op = 4 ∨ op = 5 := hb
      exact over_stmt (ih .expr _ _ _ trivial trivial h1) (fine_set hs (own_txt hk h0)) (by omega) (by rcases hs with rfl | rfl <;> decide)
    | list o p e =>
      obtain ⟨ho, he, hp⟩ := hw
      obtain ⟨_, k, _, h⟩ := and_ok h
      split at h
      · obtain ⟨_, k, _, h⟩ := and_ok h
        rw [← ok_inj h]
        refine Trees.none.mono ?_
        rintro l rfl
        rcases hp with rfl | rfl <;> (intro o ho; cases ho)
      · obtain ⟨x, k, h1, h⟩ := and_ok h
        refine ih (.listGo p e x) _ _ _ ⟨he, hp⟩ ?_ h
        rcases hp with rfl | rfl
        · refine (ih .param _ _ _ trivial trivial h1).mono ?_
          rintro l rfl o ho
          simpa using ho
        · refine (ih .expr _ _ _ trivial trivial h1).mono ?_
          rintro l ⟨o, rfl, hh⟩ z hz
          simp at hz; rw [hz]; exact hh
    | listGo p e a =>
      obtain ⟨he, hp⟩ := hw
      unfold gP at h
      dsimp only at h
      split at h
      · obtain ⟨_, k, _, h⟩ := and_ok h
        obtain ⟨x, k, h1, h⟩ := and_ok h
        refine ih (.listGo p e (a.then x)) _ _ _ ⟨he, hp⟩ ?_ h
        rcases hp with rfl | rfl
        · refine Trees.then hb (ih .param _ _ _ trivial trivial h1) ?_
          rintro l r hl rfl z hz
          rcases List.mem_append.1 hz with hz | hz
          · exact hl z hz
          · simpa using hz
        · refine Trees.then hb (ih .expr _ _ _ trivial trivial h1) ?_
          rintro l r hl ⟨o, rfl, hh⟩ z hz
          rcases List.mem_append.1 hz with hz | hz
          · exact hl z hz
          · simp at hz; rw [hz]; exact hh
      · obtain ⟨_, k, _, h⟩ := and_ok h
        rw [← ok_inj h]; exact hb
    | between o p e =>
      obtain ⟨ho, he, hp⟩ := hw
      obtain ⟨_, k, _, h⟩ := and_ok h
      obtain ⟨x, k, h1, h⟩ := and_ok h
      obtain ⟨_, k, _, h⟩ := and_ok h
      rw [← ok_inj h]
      rcases hp with rfl | rfl | rfl
      · exact ih .stmts _ _ _ trivial trivial h1
      · exact ih .expr _ _ _ trivial trivial h1
      · exact ih .two _ _ _ trivial trivial h1
    | row p ms =>
      obtain ⟨x, k, h1, h⟩ := and_ok h
      refine ih (.rowGo p ms x) _ _ _ hw ⟨?_, hb⟩ h
      rcases hw.1 with rfl | rfl | rfl | rfl
      · exact ih .pre _ _ _ trivial trivial h1
      · exact ih .term _ _ _ trivial trivial h1
      · exact ih .not _ _ _ trivial trivial h1
      · exact ih .and _ _ _ trivial trivial h1
    | rowGo p ms a =>
      unfold gP at h
      dsimp only at h
      split at h
      · rename_i hm
        obtain ⟨_, k, _, h⟩ := and_ok h
        obtain ⟨x, k, h1, h⟩ := and_ok h
        obtain ⟨hb1, hb2⟩ := hb
        have ho := hb2 _ hm
        refine ih (.rowGo p ms ((a.then x).under (opOfT (markT ks i)) 0 [])) _ _ _ hw ⟨two_ok hb1 ?_ ho.1 (by omega), hb2⟩ h
        rcases hw.1 with rfl | rfl | rfl | rfl
        · exact ih .pre _ _ _ trivial trivial h1
        · exact ih .term _ _ _ trivial trivial h1
        · exact ih .not _ _ _ trivial trivial h1
        · exact ih .and _ _ _ trivial trivial h1
      · rw [← ok_inj h]; exact hb.1
end Go.Proofs.YtkmhdhnoghbkgaaGreatDoor
