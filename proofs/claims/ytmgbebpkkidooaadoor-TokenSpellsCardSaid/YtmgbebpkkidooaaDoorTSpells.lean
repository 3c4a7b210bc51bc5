/- The law TokenSpells: the spelling of tokens is the document's. -/
import Derived.Test.YtmgbebpkkidooaaDoorTBare
import Derived.Test.YtmgbebpkkidooaaDoorTOpen
import Derived.Test.YtmgbebpkkidooaaDoorTLaid
import Derived.Test.YtmgbebpkkidooaaDoorTDoc6
namespace Go.Proofs.YtmgbebpkkidooaaDoor
open Go.RowKit Tok

theorem PowOK.next {w W : World} (h : PowOK w.heap.size w) (hb : Below w.heap.size w W) : PowOK W.heap.size W := fun w' h' => h w' (below_next hb h')
/-- The cells of tokens, one behind the other. -/
theorem tgIn_cells {w : World} {g off : Nat} {ts : List Tg} (hc : ∀ i (hi : i < ts.length) (c : Nat), c < 4 → w.cell? ⟨g, off + i * 4 + c, none⟩ = (tgC ts[i])[c]?) (j : Nat) (u : Value) (h : (rowOf tgC ts)[j]? = some u) : w.cell? ((⟨g, off, none⟩ : Addr).add j) = some u := by
  have hl : j < (rowOf tgC ts).length := (List.getElem?_eq_some_iff.1 h).1
  rw [rowOf_length tgC_len] at hl
  have hi : j / 4 < ts.length := by omega
  have h1 := hc (j / 4) hi (j % 4) (by omega)
  have h2 := rowOf_get tgC_len ts (j / 4) (j % 4) hi (by omega)
  have e : j / 4 * 4 + j % 4 = j := by omega
  rw [e, h] at h2
  rw [← h2] at h1
  rw [show off + j / 4 * 4 + j % 4 = off + j by omega] at h1
  rw [show (⟨g, off, none⟩ : Addr).add j = ⟨g, off + j, none⟩ by simp only [Addr.add]; split <;> simp_all]
  exact h1
theorem rowOf_one {ts : List Tg} : ∀ u ∈ rowOf tgC ts, u.oneCell' = true := by
  intro u hu
  obtain ⟨j, hj⟩ := List.getElem?_of_mem hu
  have hl : j < (rowOf tgC ts).length := (List.getElem?_eq_some_iff.1 hj).1
  rw [rowOf_length tgC_len] at hl
  have h2 := rowOf_get tgC_len ts (j / 4) (j % 4) (by omega) (by omega)
  have e : j / 4 * 4 + j % 4 = j := by omega
  rw [e, hj] at h2
  exact tgC_one _ u (List.mem_of_getElem? h2.symm)
/-- append(l, ts...): at the operation. -/
theorem wpList_append_tgs {w : World} {base : Nat} {v : Value} {ops : Array Oper} {rest : List Oper} {o : Oper} {a : Act} {Q : Exit → Act → World → Prop} (hgd : o.guard = none) (s x : Operand)
    (ho : o.op = .call { callee := .builtin .append, args := #[s, x], argTypes := #[22, 22] })
    (hs : a.eval s = v) (hown : TgsAt w base v []) {vx : Value} {ts : List Tg} (hx : a.eval x = vx) (hT : TgIn w vx ts) (hnil : ∀ len cap, vx = .slice none len cap → len = 0 ∧ cap = 0)
    (hk : ts.length ≤ 1000000) (hbase : base ≤ w.heap.size)
    (h : ∀ v' w', TgsAt w' base v' ts → Below base w w' → wpList Tryd.prog ops Q rest (a.put o.dst v') w') : wpList Tryd.prog ops Q (o :: rest) a w := by
  obtain ⟨i0, hi, hz0, hz1, hz2⟩ := tk_parts
  obtain ⟨ad, cap, rfl, h1, h2, h3⟩ := hT
  rcases ad with _ | ad
  · obtain ⟨e1, e2⟩ := hnil _ _ rfl
    have e0 : ts = [] := List.eq_nil_of_length_eq_zero e1
    subst e0
    subst e2
    exact wpList_append_own_none hgd s x 22 ho base 29 i0 4 Tryd.underlying22 hi v 0 [] hs hown hx (h v w hown (Below.refl _ _))
  · have hcells : ∀ j u, (rowOf tgC ts)[j]? = some u → w.cell? (ad.add j) = some u := by
      intro j u hj
      have hl : j < (rowOf tgC ts).length := (List.getElem?_eq_some_iff.1 hj).1
      rw [rowOf_length tgC_len] at hl
      obtain ⟨g, off, e, _, hc⟩ := h3 (by omega)
      cases e
      exact tgIn_cells hc j u hj
    refine wpList_append_own_at _ hgd s x 22 ho base 29 i0 (.agg #[.int .u8 0, .string ⟨#[]⟩, .int .i64 0, .int .i64 0]) 4 40 Tryd.underlying22 hi hz0 hz1 hz2 rfl (by decide) v 0 [] hs hown ad ts.length cap (rowOf tgC ts) hx (rowOf_length tgC_len ts) hcells rowOf_one (by unfold maxLen; omega) (by omega) hbase ?_
    intro v' w' h4 h5 _ _
    refine h v' w' ?_ ((Below.refl base _).grown h5 hbase (fun k hk => (World.ownsRow.lt hown k hk).1))
    rw [Nat.zero_add] at h4
    exact h4

theorem spellR_code (ts : List Tg) : (((spellR ts).2 : Int) == ((spellR ts).2 : Int)) = true := by simp

set_option maxRecDepth 20000 in
set_option maxHeartbeats 2000000 in
theorem tokenSpells_walk (v : Value) (w : World) (h : ToksIn w v) (hE : ErrR w) (hS : SignsOK w) (hP : PowOK w.heap.size w) :
    Calls Tryd.prog 4 #[v] w fun e w' => e = .returned (.bool true) ∧ Below w.heap.size w w' := by
  obtain ⟨ts, hT, hf, hnil⟩ := h
  have hWk := Lib.hid (fun W (h : Below w.heap.size w W) => wakes_any W (hE.below h) (hS.below h))
  have hT0 := Lib.hid hT
  obtain ⟨a0, cap0, rfl, hl1, hl2, _⟩ := hT
  replace hnil := Lib.hid hnil
  rcases Nat.lt_or_ge 10000 ts.length with hlen | hlen
  · have hi : (10000 : Int) < (ts.length : Int) := by omega
    go_enter Tryd.func4, Tryd.ntmps4
    go_wp2_with fail
    refine (hWk.out _ (Below.refl _ _)).mono ?_
    rintro e w1 ⟨rfl, hb1⟩
    go_wp2
    go_ret
    exact ⟨rfl, hb1⟩
  · have hi : ¬ (10000 : Int) < (ts.length : Int) := by omega
    have h0 := Lib.hid (World.ownsRow_lit (base := w.heap.size) (e := 29) (size := 4) w #[] 0 (Nat.le_refl _) (by decide) rfl)
    have hb0 := Lib.hid ((Below.refl w.heap.size w).alloc (Nat.le_refl _) (.cells #[] 29))
    have kS := Lib.hid (fun W v' (hW : Below w.heap.size w W) (hv : TgIn W v' ts) => Spell_any hv hf (hS.below hW) (hP.next hW))
    have kR := Lib.hid (fun W v' (hv : TgIn W v' ts) => refSpell_any hv hf)
    obtain ⟨st, cd⟩ := spellR ts
    unfold spellV at kS kR

    go_enter Tryd.func4, Tryd.ntmps4
    go_wp2_with (at_builtin; (refine wpList_append_tgs rfl _ _ rfl rfl h0.out rfl (hT0.out.below hb0.out) hnil.out (by omega) hb0.out.size ?_; intro v1 w1 hT1 hO1; have hb1 := Lib.hid (hb0.out.trans hO1); obtain ⟨a1, cap1, rfl, _, _⟩ := hT1.shape; replace hT1 := Lib.hid hT1.tgIn))
    refine (kS.out _ _ hb1.out hT1.out).mono ?_
    rintro e w2 ⟨rfl, hb2⟩
    have hb3 := Lib.hid (below_next hb1.out hb2)
    have hT2 := Lib.hid (hT1.out.below hb2)
    go_wp2_with fail
    refine (kR.out _ _ (hT0.out.below hb3.out)).mono ?_
    rintro e w4 ⟨rfl, hb4⟩
    have hb5 := Lib.hid (below_next hb3.out hb4)
    have hT4 := Lib.hid (hT2.out.below hb4)
    go_wp2_with fail
    refine (alike_tg hT4.out (hT0.out.below hb5.out)).mono ?_
    rintro e w6 ⟨rfl, hb6⟩
    have hb7 := Lib.hid (below_next hb5.out hb6)
    go_wp2_with fail
    refine (hWk.out _ hb7.out).mono ?_
    rintro e w8 ⟨rfl, hb8⟩
    go_wp2
    go_ret
    exact ⟨rfl, below_next hb7.out hb8⟩
end Go.Proofs.YtmgbebpkkidooaaDoor
