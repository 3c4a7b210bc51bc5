/- The document's May (layer 7), walked. No condition. -/
import Derived.Test.YtmgbebpkkidooaaDoorTDoc2
namespace Go.Proofs.YtmgbebpkkidooaaDoor
open Go.RowKit Tok

theorem span_len {p : UInt8 → Bool} : ∀ l : List UInt8, decide (span p l = l.length) = l.all p
  | [] => rfl
  | c :: l => by
    have ih := span_len (p := p) l
    have e : span p (c :: l) = if p c = true then span p l + 1 else 0 := rfl
    rw [e, List.all_cons]
    cases hc : p c
    · simp
    · rw [if_pos rfl, Bool.true_and, ← ih]
      exact decide_eq_decide.2 (by simp)
theorem name_span {c : UInt8} {l : List UInt8} (h1 : (c :: l).length ≤ 24) (h2 : lowC c = true) : nameL (c :: l) = decide (span wordC (c :: l) = (c :: l).length) := by
  rw [span_len]
  have e : nameL (c :: l) = (decide (l.length < 24) && lowC c && l.all wordC) := rfl
  rw [e, decide_eq_true (by simp only [List.length_cons] at h1; omega), h2, List.all_cons, low_word h2]
  rfl
theorem told_num {t : Tg} (h2 : t.kind ≠ 2) (hx : t.num ≠ 0) : told t = false := by
  obtain ⟨kd, tx, x, at_⟩ := t
  unfold told
  dsimp only at *
  rw [decide_eq_false hx]
  simp [h2]
/-- The cells of a block that was made just now. -/
theorem one_cell (w : World) (cs : Array Value) (t : TypeId) (j : Nat) : (w.alloc (.cells cs t)).cell? ⟨w.heap.size, j, none⟩ = cs[j]? := by
  have h := heap_alloc_new w (Obj.cells cs t)
  simp only [World.cell?, h]
  rfl
theorem amongSigns_any {w : World} {b : Nat} (h : Txts w (some ⟨b, 0, none⟩) sgAt 17) (tx : List UInt8) {B : Bool} (hB : decide (tx ∈ signs) = B) :
    Calls Tryd.prog 43 #[.slice (some ⟨b, 0, none⟩) 17 17, .string ⟨tx.toArray⟩] w fun e w' => e = .returned (.bool B) ∧ w' = w := by
  refine (among_any (cap := 17) h (by omega) ⟨tx.toArray⟩).mono fun e w' ⟨h1, h2⟩ => ⟨?_, h2.symm⟩
  rw [h1, sg_range, hB]

set_option maxRecDepth 20000 in
set_option maxHeartbeats 4000000 in
theorem refMay_any (t : Tg) (w : World) (hl : t.text.length ≤ 9223372036854775807) :
    Calls Tryd.prog 25 #[tgV t] w fun e w' => e = .returned (.bool (told t)) ∧ Below w.heap.size w w' := by
  obtain ⟨kd, tx, x, at_⟩ := t
  obtain ⟨B, hB⟩ := exHid (told ⟨kd, tx, x, at_⟩)
  rw [hB.out]
  unfold tgV; dsimp only at *
  have hk := Below.refl w.heap.size w
  have hB' := hB.out
  by_cases c2 : kd = 2
  · subst c2
    unfold told at hB'; dsimp only at hB'
    rw [if_neg (by omega), if_pos rfl] at hB'
    rcases hn : decide (0 ≤ x) with _ | _ <;> rcases hx : decide (tx = []) with _ | _
    all_goals
      rw [hn, hx] at hB'
      replace hB' := Lib.hid hB'
      have q := tx_none tx hx
      clear hx hB
      replace hn := Lib.hid hn
      first
      | (have hx0 : 0 ≤ x := of_decide_eq_true hn.out)
      | (have hx0 : ¬ 0 ≤ x := of_decide_eq_false hn.out)
      go_enter Tryd.func25, Tryd.ntmps25
      go_wp2
      go_ret
      exact ⟨ret_bool (by rw [← hB'.out]; try rfl), by go_grown⟩
  · have n2 : ((kd : Int) == 2) = false := beq_eq_false_iff_ne.2 (by omega)
    by_cases hx : x = 0
    · subst hx
      unfold told at hB'; dsimp only at hB'
      rw [if_neg c2, decide_eq_true (rfl : (0 : Int) = 0), Bool.and_true, Bool.and_true, Bool.and_true] at hB'
      by_cases c3 : kd = 3
      · subst c3
        rw [if_neg (by omega), if_pos rfl] at hB'
        rcases hn : decide (tx.length ≤ 4095) with _ | _
        all_goals
          rw [hn] at hB'
          replace hB' := Lib.hid hB'
          have q2 := len_most tx hn
          clear hn hB
          go_enter Tryd.func25, Tryd.ntmps25
          go_wp2
          go_ret
          exact ⟨ret_bool (by rw [← hB'.out]; try rfl), by go_grown⟩
      · have n3 : ((kd : Int) == 3) = false := beq_eq_false_iff_ne.2 (by omega)
        by_cases c4 : kd = 4
        · subst c4
          rw [if_neg (by omega), if_neg (by omega), if_pos rfl] at hB'
          have kS := Lib.hid (fun W b (h : Txts W (some ⟨b, 0, none⟩) sgAt 17) => amongSigns_any h tx hB')
          clear hB hB'
          go_enter Tryd.func25, Tryd.ntmps25
          go_wp2
          go_region_with (first
            | (go_at_call 44; refine (refSigns_any _).mono ?_; rintro e w' ⟨b, rfl, hT, hb⟩; have hc1 : w'.cell? ⟨w.heap.size, 1, none⟩ = some (.string ⟨tx.toArray⟩) := (hb.cell (p := ⟨w.heap.size, 1, none⟩) (by simp)).trans (one_cell w #[.int .u8 4, .string ⟨tx.toArray⟩, .int .i64 0, .int .i64 at_] 29 1); have hk : Below w.heap.size w _ := below_next (by go_grown) hb; have hz := hk.size)
            | (go_at_call 43; refine (kS.out _ _ hT).mono ?_; rintro e w' ⟨rfl, rfl⟩))
          all_goals
            go_wp2
            go_ret
            exact ⟨rfl, hk⟩
        · have n4 : ((kd : Int) == 4) = false := beq_eq_false_iff_ne.2 (by omega)
          rw [if_neg c3, if_neg c4] at hB'
          by_cases c1 : kd = 1
          · subst c1
            rw [if_pos rfl] at hB'
            cases tx with
            | nil =>
              have hv : B = false := hB'.symm
              replace hv := Lib.hid hv
              clear hB hB'
              go_enter Tryd.func25, Tryd.ntmps25
              go_wp2
              go_ret
              exact ⟨ret_bool (by rw [hv.out]), by go_grown⟩
            | cons c l =>
              rcases Nat.lt_or_ge 24 (c :: l).length with h24 | h24
              · have hv : B = false := by
                  rw [← hB']
                  simp only [List.length_cons] at h24
                  show (decide (l.length < 24) && letC c && l.all restC) = false
                  rw [decide_eq_false (by omega)]; rfl
                have h24i : (24 : Int) < (l.length : Int) + 1 := by simp only [List.length_cons] at h24; omega
                replace hv := Lib.hid hv
                clear hB hB'
                go_enter Tryd.func25, Tryd.ntmps25
                go_wp2
                go_ret
                exact ⟨ret_bool (by rw [hv.out]), by go_grown⟩
              · have h24i : ¬ (24 : Int) < (l.length : Int) + 1 := by simp only [List.length_cons] at h24; omega
                rcases hc : lowC c with _ | _
                · have hv : B = false := by
                    rw [← hB']
                    show (decide (l.length < 24) && lowC c && l.all restC) = false
                    rw [hc]; simp
                  have k := Lib.hid (fun W => calls_at (refLow_any c W) hc)
                  replace hv := Lib.hid hv
                  clear hB hB' hc
                  go_enter Tryd.func25, Tryd.ntmps25
                  go_wp2_with fail
                  refine (k.out _).mono ?_
                  rintro e w2 ⟨rfl, rfl⟩
                  go_wp2
                  go_ret
                  exact ⟨ret_bool (by rw [hv.out]), by go_grown⟩
                · rw [name_span h24 hc] at hB'
                  have k := Lib.hid (fun W => calls_at (refLow_any c W) hc)
                  have kw := Lib.hid (fun W => refWord_any ⟨(c :: l).toArray⟩ 0 W (by simp only [ByteArray.size, List.size_toArray]; omega) (by omega))
                  have hw : resT 0 (wordT ((⟨(c :: l).toArray⟩ : ByteArray).data.toList.drop 0)) = toldV 1 ((c :: l).take (span wordC (c :: l))) 0 0 (span wordC (c :: l)) 0 0 := by
                    have hle := span_le (p := wordC) (c :: l)
                    show resT 0 (wordT (c :: l)) = _
                    unfold wordT
                    rw [if_neg (by omega)]
                    simp [resT]
                  rw [hw] at kw
                  clear hw hB hc
                  unfold toldV at kw
                  have hq : (((span wordC (c :: l) : Nat) : Int) == (l.length : Int) + 1) = B := by
                    rw [← hB', Bool.eq_iff_iff, beq_iff_eq, decide_eq_true_iff]
                    simp only [List.length_cons]
                    omega
                  generalize span wordC (c :: l) = n at *
                  generalize (c :: l).take n = T at *
                  clear hB'
                  go_enter Tryd.func25, Tryd.ntmps25
                  go_wp2_with fail
                  refine (k.out _).mono ?_
                  rintro e w2 ⟨rfl, rfl⟩
                  go_wp2_with fail
                  refine (kw.out _).mono ?_
                  rintro e w3 ⟨rfl, hb3⟩
                  have hc1 := (hb3.cell (p := ⟨w.heap.size, 1, none⟩) (by simp)).trans (one_cell w #[.int .u8 1, .string ⟨(c :: l).toArray⟩, .int .i64 0, .int .i64 at_] 29 1)
                  simp only [List.getElem?_toArray, List.getElem?_cons_succ, List.getElem?_cons_zero] at hc1
                  have hb4 := ((Below.refl w.heap.size w).alloc (Nat.le_refl _) (.cells #[.int .u8 1, .string ⟨(c :: l).toArray⟩, .int .i64 0, .int .i64 at_] 29)).trans (hb3.mono (by simp))
                  have hlt3 : w.heap.size < w3.heap.size := Nat.lt_of_lt_of_le (by simp) hb3.size
                  go_wp2
                  go_ret
                  exact ⟨rfl, hb4.alloc (by omega) _⟩
          · have n1 : ((kd : Int) != 1) = true := by simp; omega
            rw [if_neg c1] at hB'
            replace hB' := Lib.hid hB'
            clear hB
            go_enter Tryd.func25, Tryd.ntmps25
            go_wp2
            go_ret
            exact ⟨ret_bool (by rw [← hB'.out]; try rfl), by go_grown⟩
    · have hB2 := Lib.hid ((told_num (t := ⟨kd, tx, x, at_⟩) c2 hx).symm.trans hB')
      have qx : (x != 0) = true := bne_iff_ne.2 hx
      clear hB hB'
      go_enter Tryd.func25, Tryd.ntmps25
      go_wp2
      go_ret
      exact ⟨ret_bool (by rw [← hB2.out]; try rfl), by go_grown⟩
end Go.Proofs.YtmgbebpkkidooaaDoor
