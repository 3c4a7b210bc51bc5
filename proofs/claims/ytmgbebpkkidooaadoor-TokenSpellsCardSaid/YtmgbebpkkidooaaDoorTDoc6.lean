/- The document's Spell (layer 7), walked. No condition. (Made by tools/mkdoc6.py.) -/
import Derived.Test.YtmgbebpkkidooaaDoorTDoc3
import Derived.Test.YtmgbebpkkidooaaDoorTDoc5
import Derived.Test.YtmgbebpkkidooaaDoorTSpell
import Derived.Test.YtmgbebpkkidooaaDoorTBackP
namespace Go.Proofs.YtmgbebpkkidooaaDoor
open Go.RowKit Tok

section
variable {w W : World} {base : Nat} {v : Value} {l : List UInt8}
theorem wpList_append_ustrX {ops : Array Oper} {rest : List Oper} {o : Oper} {a : Act} {Q : Exit → Act → World → Prop} (hgd : o.guard = none) (s x : Operand)
    (ho : o.op = .call { callee := .builtin .append, args := #[s, x], argTypes := #[50, 9] })
    (hs : a.eval s = v) (hown : BufU w base v l) (m : List UInt8) (hx : a.eval x = .string ⟨m.toArray⟩) {X : List UInt8} (hX : l ++ m = X)
    (hk : X.length ≤ 1000000000) (hbase : base ≤ w.heap.size)
    (h : ∀ a' cap w', BufU w' base (.slice a' X.length cap) X → Below base w w' → wpList Tryd.prog ops Q rest (a.put o.dst (.slice a' X.length cap)) w') : wpList Tryd.prog ops Q (o :: rest) a w := by
  subst hX
  rw [List.length_append] at hk
  refine wpList_append_ustr hgd s x ho hs hown m hx hk hbase fun a' cap w' h1 h2 => ?_
  have h3 := h a' cap w' (by rw [List.length_append]; exact h1) h2
  rw [List.length_append] at h3
  exact h3
theorem wpList_append_usX {ops : Array Oper} {rest : List Oper} {o : Oper} {a : Act} {Q : Exit → Act → World → Prop} (hgd : o.guard = none) (s x : Operand)
    (ho : o.op = .call { callee := .builtin .append, args := #[s, x], argTypes := #[50, 50] })
    (hs : a.eval s = v) (hown : BufU w base v l) (m : List UInt8) {w2 : World} (hw : w = w2.alloc (.cells (Lib.byteCells m).toArray 5)) (hx : a.eval x = .slice (some ⟨w2.heap.size, 0, none⟩) m.length m.length) {X : List UInt8} (hX : l ++ m = X)
    (hk : X.length ≤ 1000000000) (hbase : base ≤ w.heap.size)
    (h : ∀ a' cap w', BufU w' base (.slice a' X.length cap) X → Below base w w' → wpList Tryd.prog ops Q rest (a.put o.dst (.slice a' X.length cap)) w') : wpList Tryd.prog ops Q (o :: rest) a w := by
  subst hX
  rw [List.length_append] at hk
  refine wpList_append_us hgd s x ho hs hown m hw hx hk hbase fun a' cap w' h1 h2 => ?_
  have h3 := h a' cap w' (by rw [List.length_append]; exact h1) h2
  rw [List.length_append] at h3
  exact h3
end
theorem told_num2 {tx : List UInt8} {x at_ : Int} (h : told ⟨2, tx, x, at_⟩ = true) : 0 ≤ x := by
  unfold told at h
  dsimp only at h
  rw [if_neg (by omega), if_pos rfl, Bool.and_eq_true] at h
  exact of_decide_eq_true h.1
theorem spell_len {t : Tg} (h : told t = true) (hx : I64 t.num) : (spellL t).length ≤ 100000 := by
  have h1 := told_len h
  obtain ⟨kd, tx, x, at_⟩ := t
  unfold spellL
  dsimp only at *
  split
  · have := Lib.itoa_length_le x hx.1 hx.2
    omega
  · split
    · have := esc_len tx
      show (34 :: (tx.flatMap escL ++ [34])).length ≤ _
      rw [List.length_cons, List.length_append, List.length_cons, List.length_nil]
      omega
    · omega

set_option maxRecDepth 20000 in
set_option maxHeartbeats 8000000 in
theorem refSpell_any {w : World} {v : Value} {ts : List Tg} (h : TgIn w v ts) (hf : ∀ t ∈ ts, Fit t) :
    Calls Tryd.prog 12 #[v] w fun e w' => e = .returned (spellV (spellR ts)) ∧ Below w.heap.size w w' := by
  obtain ⟨a0, cap0, rfl, hl1, hl2, h3⟩ := h
  obtain ⟨R, hR⟩ := exHid (spellR ts)
  rw [hR.out]
  replace h3 := Lib.hid h3
  replace hf := Lib.hid hf
  go_enter Tryd.func12, Tryd.ntmps12
  go_wp2
  go_loopw [4] (fun t4 wr => ∃ i : Nat, i ≤ ts.length ∧ t4 = .int .i64 i ∧ Hid (Below w.heap.size w wr) ∧ Hid ((ts.take i).all told = true)) (fun t4 _ => ts.length - (intOf t4).toNat)
  case atStart => exact ⟨0, by omega, rfl, Below.refl _ _, rfl⟩
  case round =>
    obtain ⟨i, hi, rfl, hb, hall⟩ := hrel
    rcases Nat.lt_or_ge i ts.length with hlt | hge
    · have hlti : (i : Int) < (ts.length : Int) := by omega
      obtain ⟨g, off, rfl, hg, hc⟩ := h3.out (by omega)
      have hfit := hf.out ts[i] (List.getElem_mem hlt)
      have hbad := Lib.hid (fun h => spellR_bad hlt h)
      have hmore := Lib.hid (fun h => all_more hlt hall.out h)
      rcases hti : ts[i] with ⟨kd, tx, x, at_⟩
      obtain ⟨c0, c1, c2, c3⟩ := tg_cells hg hc hb.out hlt hti
      rw [hti] at hfit hbad hmore
      clear hc
      have k := Lib.hid (fun W => refMay_any ⟨kd, tx, x, at_⟩ W hfit.1)
      unfold tgV at k
      dsimp only at k
      replace hfit := Lib.hid hfit
      replace hti := Lib.hid hti
      rcases hB : told ⟨kd, tx, x, at_⟩ with _ | _
      · rw [hB] at k
        have hv := Lib.hid (hbad.out hB)
        clear hB hbad hmore
        go_wp2_with fail
        refine (k.out _).mono ?_
        rintro e w2 ⟨rfl, hb2⟩
        go_wp2
        go_ret2
        refine ⟨?_, below_next hb.out hb2⟩
        rw [← hR.out, hv.out]; rfl
      · rw [hB] at k
        have hv := Lib.hid (hmore.out hB)
        clear hB hbad hmore
        go_wp2_with fail
        refine (k.out _).mono ?_
        rintro e w2 ⟨rfl, hb2⟩
        go_wp2
        go_roundw
        case rel => exact ⟨i + 1, by omega, by go_num, below_next hb.out hb2, hv⟩
        case measure => simp [intOf]; omega
    · obtain rfl : i = ts.length := by omega
      have hlti : ¬ ((ts.length : Int) < (ts.length : Int)) := by omega
      rw [List.take_length] at hall
      go_wp2
      clear hlti
      generalize hq0 : wr = wq0 at *
      replace hq0 := Lib.hid hq0
      go_loopw [5, 6, 7] (fun t5 t6 _ wq => ∃ i : Nat, i ≤ ts.length ∧ t6 = .int .i64 i ∧ (joinL (ts.take i)).length ≤ 16384 ∧ Hid (BufU wq w.heap.size t5 (joinL (ts.take i))) ∧ Hid (Below w.heap.size w wq)) (fun _ t6 _ _ => ts.length - (intOf t6).toNat)
      case atStart => exact ⟨0, by omega, rfl, by simp [joinL], World.ownsRow_nil _ _ _ _, hb⟩
      case round =>
        obtain ⟨i, hi, rfl, hlen, hB, hbq⟩ := hrel
        have hsz := hbq.out.size
        obtain ⟨a6, cap6, rfl, _, _⟩ := hB.out.shape
        rcases Nat.lt_or_ge i ts.length with hlt | hge
        · have hlti : (i : Int) < (ts.length : Int) := by omega
          obtain ⟨g, off, rfl, hg, hc⟩ := h3.out (by omega)
          have hfit := (hf.out ts[i] (List.getElem_mem hlt)).2
          have htold := List.all_eq_true.1 hall.out ts[i] (List.getElem_mem hlt)
          have htl := told_len htold
          have hsl := spell_len htold hfit
          have hnx := joinL_take hlt
          have hle := joinL_le ts (i + 1)
          rcases hti : ts[i] with ⟨kd, tx, x, at_⟩
          obtain ⟨c0, c1, c2, c3⟩ := tg_cells hg hc hbq.out hlt hti
          rw [hti] at hfit htl hnx hsl htold
          dsimp only at htl hfit
          have htc := Lib.hid (fun W (hW : Below w.heap.size w W) => tg_cells hg hc hW hlt hti)
          replace hti := Lib.hid hti
          clear hc
          obtain ⟨X, hXe⟩ := exHid (joinL (ts.take (i + 1)))
          rw [hXe.out] at hnx hle
          have hXk : X.length ≤ 200000 := by
            rw [hnx]; split
            · omega
            · rw [List.length_append, List.length_cons]; omega
          rcases Nat.eq_zero_or_pos i with h0 | h0
          · rw [if_pos h0] at hnx
            have hi0 : ¬ (0 : Int) < (i : Int) := by omega
            have hL0 : joinL (ts.take i) = [] := by rw [h0]; rfl
            have hnx' : joinL (ts.take i) ++ spellL ⟨kd, tx, x, at_⟩ = X := by rw [hnx, hL0]; rfl
            clear h0 hL0
            generalize joinL (ts.take i) = M at *
            have hMl : M.length ≤ 20000 := by omega
            have hB3 := hB
            have hb3 := hbq
            by_cases c_2 : kd = 2
            · subst c_2
              have hx0 := told_num2 htold
              obtain ⟨u, rfl⟩ := Int.eq_ofNat_of_zero_le hx0
              have hsp : spellL ⟨2, tx, (u : Int), at_⟩ = Lib.decDigits u := Lib.itoa_nonneg u
              rw [hsp] at hnx'
              have kD := Lib.hid (fun W => refDigits_any u W (by have := hfit.2; omega))
              generalize Lib.decDigits u = Z at *
              replace hnx' := Lib.hid hnx'
              clear hnx hsp hsl htold hfit
              rcases Nat.lt_or_ge 16384 X.length with hX | hX
              · have hXi : (16384 : Int) < (X.length : Int) := by omega
                have hv : R = ([], 2) := by
                  rw [← hR.out]; unfold spellR
                  rw [if_pos hall.out, if_pos (by omega)]
                replace hv := Lib.hid hv
                go_wp2_with fail
                refine (kD.out _).mono ?_
                rintro e w4 ⟨rfl, hb4⟩
                have hb6 := Lib.hid (below_next hb3.out hb4)
                have hB4 := Lib.hid (BufU.below hB3.out hb4)
                obtain ⟨e0, e1, e2, e3⟩ := htc.out _ hb6.out
                go_wp2_with (at_builtin; (refine wpList_append_ustrX rfl _ _ rfl rfl hB4.out Z rfl hnx'.out (by omega) hb6.out.size ?_; intro a5 cap5 w5 hB5 hO5; replace hB5 := Lib.hid hB5))
                go_ret2
                exact ⟨by rw [hv.out]; rfl, hb6.out.trans hO5⟩
              · have hXi : ¬ (16384 : Int) < (X.length : Int) := by omega
                go_wp2_with fail
                refine (kD.out _).mono ?_
                rintro e w4 ⟨rfl, hb4⟩
                have hb6 := Lib.hid (below_next hb3.out hb4)
                have hB4 := Lib.hid (BufU.below hB3.out hb4)
                obtain ⟨e0, e1, e2, e3⟩ := htc.out _ hb6.out
                go_wp2_with (at_builtin; (refine wpList_append_ustrX rfl _ _ rfl rfl hB4.out Z rfl hnx'.out (by omega) hb6.out.size ?_; intro a5 cap5 w5 hB5 hO5; replace hB5 := Lib.hid hB5))
                go_roundw
                case rel => exact ⟨i + 1, by omega, by go_num, by rw [hXe.out]; exact hX, by rw [hXe.out]; exact hB5, hb6.out.trans hO5⟩
                case measure => simp [intOf]; omega
            · have n2 : ((kd : Int) == 2) = false := beq_eq_false_iff_ne.2 (by omega)
              by_cases c_3 : kd = 3
              · subst c_3
                have hsp : spellL ⟨3, tx, x, at_⟩ = textL tx := rfl
                rw [hsp] at hnx'
                have kD := Lib.hid (fun W => refQuoted_any ⟨tx.toArray⟩ W (by simp only [ByteArray.size, List.size_toArray]; omega))
                rw [show (⟨tx.toArray⟩ : ByteArray).data.toList = tx by simp] at kD
                generalize textL tx = Z at *
                replace hnx' := Lib.hid hnx'
                clear hnx hsp hsl htold hfit
                rcases Nat.lt_or_ge 16384 X.length with hX | hX
                · have hXi : (16384 : Int) < (X.length : Int) := by omega
                  have hv : R = ([], 2) := by
                    rw [← hR.out]; unfold spellR
                    rw [if_pos hall.out, if_pos (by omega)]
                  replace hv := Lib.hid hv
                  go_wp2_with fail
                  refine (kD.out _).mono ?_
                  rintro e w4 ⟨rfl, hb4⟩
                  have hb6 := Lib.hid (below_next hb3.out hb4)
                  have hB4 := Lib.hid (BufU.below hB3.out hb4)
                  go_wp2_with (at_builtin; (refine wpList_append_ustrX rfl _ _ rfl rfl hB4.out Z rfl hnx'.out (by omega) hb6.out.size ?_; intro a5 cap5 w5 hB5 hO5; replace hB5 := Lib.hid hB5))
                  go_ret2
                  exact ⟨by rw [hv.out]; rfl, hb6.out.trans hO5⟩
                · have hXi : ¬ (16384 : Int) < (X.length : Int) := by omega
                  go_wp2_with fail
                  refine (kD.out _).mono ?_
                  rintro e w4 ⟨rfl, hb4⟩
                  have hb6 := Lib.hid (below_next hb3.out hb4)
                  have hB4 := Lib.hid (BufU.below hB3.out hb4)
                  go_wp2_with (at_builtin; (refine wpList_append_ustrX rfl _ _ rfl rfl hB4.out Z rfl hnx'.out (by omega) hb6.out.size ?_; intro a5 cap5 w5 hB5 hO5; replace hB5 := Lib.hid hB5))
                  go_roundw
                  case rel => exact ⟨i + 1, by omega, by go_num, by rw [hXe.out]; exact hX, by rw [hXe.out]; exact hB5, hb6.out.trans hO5⟩
                  case measure => simp [intOf]; omega
              · have n3 : ((kd : Int) == 3) = false := beq_eq_false_iff_ne.2 (by omega)
                have hsp : spellL ⟨kd, tx, x, at_⟩ = tx := by
                  unfold spellL
                  rw [if_neg c_2, if_neg c_3]
                rw [hsp] at hnx'
                replace hnx' := Lib.hid hnx'
                clear hnx hsp hsl htold hfit
                rcases Nat.lt_or_ge 16384 X.length with hX | hX
                · have hXi : (16384 : Int) < (X.length : Int) := by omega
                  have hv : R = ([], 2) := by
                    rw [← hR.out]; unfold spellR
                    rw [if_pos hall.out, if_pos (by omega)]
                  replace hv := Lib.hid hv
                  go_wp2_with (at_builtin; (refine wpList_append_ustrX rfl _ _ rfl rfl hB3.out tx rfl hnx'.out (by omega) hb3.out.size ?_; intro a5 cap5 w5 hB5 hO5; replace hB5 := Lib.hid hB5))
                  go_ret2
                  exact ⟨by rw [hv.out]; rfl, hb3.out.trans hO5⟩
                · have hXi : ¬ (16384 : Int) < (X.length : Int) := by omega
                  go_wp2_with (at_builtin; (refine wpList_append_ustrX rfl _ _ rfl rfl hB3.out tx rfl hnx'.out (by omega) hb3.out.size ?_; intro a5 cap5 w5 hB5 hO5; replace hB5 := Lib.hid hB5))
                  go_roundw
                  case rel => exact ⟨i + 1, by omega, by go_num, by rw [hXe.out]; exact hX, by rw [hXe.out]; exact hB5, hb3.out.trans hO5⟩
                  case measure => simp [intOf]; omega
          · rw [if_neg (by omega)] at hnx
            have hi0 : (0 : Int) < (i : Int) := by omega
            have hnx' : (joinL (ts.take i) ++ [32]) ++ spellL ⟨kd, tx, x, at_⟩ = X := by rw [hnx]; simp
            have hB2 := Lib.hid (BufU.below hB.out ((Below.refl wr.heap.size wr).alloc (Nat.le_refl _) (.cells (Lib.byteCells [32]).toArray 5)))
            have hb2 := Lib.hid (hbq.out.alloc hsz (.cells (Lib.byteCells [32]).toArray 5))
            obtain ⟨M, hM⟩ := exHid (joinL (ts.take i) ++ [32])
            have hMl : M.length ≤ 20000 := by rw [← hM.out, List.length_append]; simp; omega
            rw [hM.out] at hnx'
            by_cases c_2 : kd = 2
            · subst c_2
              have hx0 := told_num2 htold
              obtain ⟨u, rfl⟩ := Int.eq_ofNat_of_zero_le hx0
              have hsp : spellL ⟨2, tx, (u : Int), at_⟩ = Lib.decDigits u := Lib.itoa_nonneg u
              rw [hsp] at hnx'
              have kD := Lib.hid (fun W => refDigits_any u W (by have := hfit.2; omega))
              generalize Lib.decDigits u = Z at *
              replace hnx' := Lib.hid hnx'
              clear hnx hsp hsl htold hfit
              rcases Nat.lt_or_ge 16384 X.length with hX | hX
              · have hXi : (16384 : Int) < (X.length : Int) := by omega
                have hv : R = ([], 2) := by
                  rw [← hR.out]; unfold spellR
                  rw [if_pos hall.out, if_pos (by omega)]
                replace hv := Lib.hid hv
                go_wp2_with (at_builtin; (refine wpList_append_usX rfl _ _ rfl rfl hB2.out [32] rfl rfl hM.out (by omega) hb2.out.size ?_; intro a1 cap1 w3 hB3 hO3; have hb3 := Lib.hid (hb2.out.trans hO3); replace hB3 := Lib.hid hB3; obtain ⟨d0, d1, d2, d3⟩ := htc.out _ hb3.out; clear hO3))
                refine (kD.out _).mono ?_
                rintro e w4 ⟨rfl, hb4⟩
                have hb6 := Lib.hid (below_next hb3.out hb4)
                have hB4 := Lib.hid (BufU.below hB3.out hb4)
                obtain ⟨e0, e1, e2, e3⟩ := htc.out _ hb6.out
                go_wp2_with (at_builtin; (refine wpList_append_ustrX rfl _ _ rfl rfl hB4.out Z rfl hnx'.out (by omega) hb6.out.size ?_; intro a5 cap5 w5 hB5 hO5; replace hB5 := Lib.hid hB5))
                go_ret2
                exact ⟨by rw [hv.out]; rfl, hb6.out.trans hO5⟩
              · have hXi : ¬ (16384 : Int) < (X.length : Int) := by omega
                go_wp2_with (at_builtin; (refine wpList_append_usX rfl _ _ rfl rfl hB2.out [32] rfl rfl hM.out (by omega) hb2.out.size ?_; intro a1 cap1 w3 hB3 hO3; have hb3 := Lib.hid (hb2.out.trans hO3); replace hB3 := Lib.hid hB3; obtain ⟨d0, d1, d2, d3⟩ := htc.out _ hb3.out; clear hO3))
                refine (kD.out _).mono ?_
                rintro e w4 ⟨rfl, hb4⟩
                have hb6 := Lib.hid (below_next hb3.out hb4)
                have hB4 := Lib.hid (BufU.below hB3.out hb4)
                obtain ⟨e0, e1, e2, e3⟩ := htc.out _ hb6.out
                go_wp2_with (at_builtin; (refine wpList_append_ustrX rfl _ _ rfl rfl hB4.out Z rfl hnx'.out (by omega) hb6.out.size ?_; intro a5 cap5 w5 hB5 hO5; replace hB5 := Lib.hid hB5))
                go_roundw
                case rel => exact ⟨i + 1, by omega, by go_num, by rw [hXe.out]; exact hX, by rw [hXe.out]; exact hB5, hb6.out.trans hO5⟩
                case measure => simp [intOf]; omega
            · have n2 : ((kd : Int) == 2) = false := beq_eq_false_iff_ne.2 (by omega)
              by_cases c_3 : kd = 3
              · subst c_3
                have hsp : spellL ⟨3, tx, x, at_⟩ = textL tx := rfl
                rw [hsp] at hnx'
                have kD := Lib.hid (fun W => refQuoted_any ⟨tx.toArray⟩ W (by simp only [ByteArray.size, List.size_toArray]; omega))
                rw [show (⟨tx.toArray⟩ : ByteArray).data.toList = tx by simp] at kD
                generalize textL tx = Z at *
                replace hnx' := Lib.hid hnx'
                clear hnx hsp hsl htold hfit
                rcases Nat.lt_or_ge 16384 X.length with hX | hX
                · have hXi : (16384 : Int) < (X.length : Int) := by omega
                  have hv : R = ([], 2) := by
                    rw [← hR.out]; unfold spellR
                    rw [if_pos hall.out, if_pos (by omega)]
                  replace hv := Lib.hid hv
                  go_wp2_with (at_builtin; (refine wpList_append_usX rfl _ _ rfl rfl hB2.out [32] rfl rfl hM.out (by omega) hb2.out.size ?_; intro a1 cap1 w3 hB3 hO3; have hb3 := Lib.hid (hb2.out.trans hO3); replace hB3 := Lib.hid hB3; obtain ⟨d0, d1, d2, d3⟩ := htc.out _ hb3.out; clear hO3))
                  refine (kD.out _).mono ?_
                  rintro e w4 ⟨rfl, hb4⟩
                  have hb6 := Lib.hid (below_next hb3.out hb4)
                  have hB4 := Lib.hid (BufU.below hB3.out hb4)
                  go_wp2_with (at_builtin; (refine wpList_append_ustrX rfl _ _ rfl rfl hB4.out Z rfl hnx'.out (by omega) hb6.out.size ?_; intro a5 cap5 w5 hB5 hO5; replace hB5 := Lib.hid hB5))
                  go_ret2
                  exact ⟨by rw [hv.out]; rfl, hb6.out.trans hO5⟩
                · have hXi : ¬ (16384 : Int) < (X.length : Int) := by omega
                  go_wp2_with (at_builtin; (refine wpList_append_usX rfl _ _ rfl rfl hB2.out [32] rfl rfl hM.out (by omega) hb2.out.size ?_; intro a1 cap1 w3 hB3 hO3; have hb3 := Lib.hid (hb2.out.trans hO3); replace hB3 := Lib.hid hB3; obtain ⟨d0, d1, d2, d3⟩ := htc.out _ hb3.out; clear hO3))
                  refine (kD.out _).mono ?_
                  rintro e w4 ⟨rfl, hb4⟩
                  have hb6 := Lib.hid (below_next hb3.out hb4)
                  have hB4 := Lib.hid (BufU.below hB3.out hb4)
                  go_wp2_with (at_builtin; (refine wpList_append_ustrX rfl _ _ rfl rfl hB4.out Z rfl hnx'.out (by omega) hb6.out.size ?_; intro a5 cap5 w5 hB5 hO5; replace hB5 := Lib.hid hB5))
                  go_roundw
                  case rel => exact ⟨i + 1, by omega, by go_num, by rw [hXe.out]; exact hX, by rw [hXe.out]; exact hB5, hb6.out.trans hO5⟩
                  case measure => simp [intOf]; omega
              · have n3 : ((kd : Int) == 3) = false := beq_eq_false_iff_ne.2 (by omega)
                have hsp : spellL ⟨kd, tx, x, at_⟩ = tx := by
                  unfold spellL
                  rw [if_neg c_2, if_neg c_3]
                rw [hsp] at hnx'
                replace hnx' := Lib.hid hnx'
                clear hnx hsp hsl htold hfit
                rcases Nat.lt_or_ge 16384 X.length with hX | hX
                · have hXi : (16384 : Int) < (X.length : Int) := by omega
                  have hv : R = ([], 2) := by
                    rw [← hR.out]; unfold spellR
                    rw [if_pos hall.out, if_pos (by omega)]
                  replace hv := Lib.hid hv
                  go_wp2_with (at_builtin; first | (refine wpList_append_usX rfl _ _ rfl rfl hB2.out [32] rfl rfl hM.out (by omega) hb2.out.size ?_; intro a1 cap1 w3 hB3 hO3; have hb3 := Lib.hid (hb2.out.trans hO3); replace hB3 := Lib.hid hB3; obtain ⟨d0, d1, d2, d3⟩ := htc.out _ hb3.out; clear hO3) | (refine wpList_append_ustrX rfl _ _ rfl rfl hB3.out tx rfl hnx'.out (by omega) hb3.out.size ?_; intro a5 cap5 w5 hB5 hO5; replace hB5 := Lib.hid hB5))
                  go_ret2
                  exact ⟨by rw [hv.out]; rfl, hb3.out.trans hO5⟩
                · have hXi : ¬ (16384 : Int) < (X.length : Int) := by omega
                  go_wp2_with (at_builtin; first | (refine wpList_append_usX rfl _ _ rfl rfl hB2.out [32] rfl rfl hM.out (by omega) hb2.out.size ?_; intro a1 cap1 w3 hB3 hO3; have hb3 := Lib.hid (hb2.out.trans hO3); replace hB3 := Lib.hid hB3; obtain ⟨d0, d1, d2, d3⟩ := htc.out _ hb3.out; clear hO3) | (refine wpList_append_ustrX rfl _ _ rfl rfl hB3.out tx rfl hnx'.out (by omega) hb3.out.size ?_; intro a5 cap5 w5 hB5 hO5; replace hB5 := Lib.hid hB5))
                  go_roundw
                  case rel => exact ⟨i + 1, by omega, by go_num, by rw [hXe.out]; exact hX, by rw [hXe.out]; exact hB5, hb3.out.trans hO5⟩
                  case measure => simp [intOf]; omega
        · obtain rfl : i = ts.length := by omega
          have hlti : ¬ ((ts.length : Int) < (ts.length : Int)) := by omega
          rw [List.take_length] at hB hlen
          have hv : R = (joinL ts, 0) := by
            rw [← hR.out]; unfold spellR
            rw [if_pos hall.out, if_neg (by omega)]
          replace hv := Lib.hid hv
          have hstr := BufU.string hB.out
          go_wp2
          go_ret2
          exact ⟨by rw [hv.out]; rfl, hbq.out⟩
end Go.Proofs.YtmgbebpkkidooaaDoor
