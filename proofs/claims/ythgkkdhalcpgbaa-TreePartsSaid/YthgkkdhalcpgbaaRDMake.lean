/- The document's Make (layer 8), walked. Lists of at most 10000 parts, 1000000 twigs together. -/
import Derived.Test.YthgkkdhalcpgbaaRDChk
import Derived.Test.YthgkkdhalcpgbaaRMake
namespace Go.Proofs.Ythgkkdhalcpgbaa
open Go.RowKit Go.Shelf

theorem docF_eq {ts : List Tw} (hf : ∀ x ∈ ts, FitT x) : docF ts = ((lookF ts).1, (lookF ts).2.2) := by
  refine doc_look ts (fun i => ?_)
  unfold twAt
  rw [List.getD_eq_getElem?_getD]
  rcases Nat.lt_or_ge i ts.length with h | h
  · rw [List.getElem?_eq_getElem h]
    exact (hf _ (List.getElem_mem h)).2.2.2
  · rw [List.getElem?_eq_none h]
    decide
theorem refCheck_e {v : Value} {ts : List Tw} (w : World) (hT : TwIn w v ts) (hf : ∀ x ∈ ts, FitT x) {E : Int} (h : (lookF ts).2.2 = E) :
    Calls Try.prog 24 #[v] w fun e w' => ∃ k : Int, e = .returned (.tuple #[.int .i64 k, .int .i64 E]) ∧ Below w.heap.size w w' := by
  subst h
  refine (refCheck_any w hT hf).mono ?_
  rintro e w1 ⟨rfl, hb⟩
  rw [docF_eq hf]
  exact ⟨_, rfl, hb⟩
theorem ok_many : ∀ {ps : List (List Tw)}, (∀ p ∈ ps, Ok p) → ps.length ≤ ps.flatten.length
  | [], _ => Nat.le_refl _
  | p :: r, h => by
    have h1 := ok_many (fun q hq => h q (List.mem_cons_of_mem _ hq))
    have h2 := ((ok_iff p).1 (h p (by simp))).1.1
    rw [List.flatten_cons, List.length_append, List.length_cons]
    omega
theorem tws_first (w : World) (x : Tw) (cs : Array Value) (hcs : cs = (twC x).toArray) : TwsAt (w.alloc (.cells cs 32)) w.heap.size (.slice (some ⟨w.heap.size, 0, none⟩) 1 1) [x] := by
  subst hcs
  refine ⟨by simp [rowOf, twC_len], .inr ⟨w.heap.size, 1, _, rfl, Nat.le_refl _, heap_alloc_new w _, Nat.le_refl _, by unfold maxLen; omega, by simp [twC], by simp [rowOf, twC]⟩⟩
set_option maxRecDepth 20000 in
set_option maxHeartbeats 4000000 in
theorem refMake_any {v : Value} {ps : List (List Tw)} (x : Tw) (w : World) (hT : TrsIn w v ps) (hf : ∀ p ∈ ps, ∀ y ∈ p, FitT y) (hx : FitT x) (hpl : ps.length ≤ 10000) (hfl : ps.flatten.length ≤ 1000000) :
    Calls Try.prog 15 #[twV x, v] w fun e w' => ∃ v', e = .returned (.tuple #[v', .int .i64 (makeE x ps)]) ∧ (makeE x ps ≠ 0 → v' = .slice none 0 0) ∧ (makeE x ps = 0 → TwsAt w' w.heap.size v' (makeT x ps)) ∧ Below w.heap.size w w' := by
  obtain ⟨E, hE⟩ := exHid (makeE x ps)
  rw [hE.out]
  have hTT := Lib.hid hT
  obtain ⟨a, cap, rfl, hlc, hcm, h3⟩ := hT
  have hlk := fun W u i (hi : i < ps.length) (h : TwIn W u (ps.getD i [])) => refCheck_e W h (hf _ (getD_mem hi)) rfl
  obtain ⟨n, hn⟩ := exHid ps.length
  rw [hn.out] at hlc hpl ⊢
  replace hlk := Lib.hid hlk
  have hxx := Lib.hid hx
  obtain ⟨op, kids, num, text⟩ := x
  have hz0 := Lib.hid (show Below w.heap.size w (w.alloc (.cells #[.int .u8 (op : Int), .int .i64 kids, .int .i64 num, .string ⟨text.toArray⟩] 32)) from (Below.refl _ w).alloc (Nat.le_refl _) _)
  have q := fun j => one_cell w #[.int .u8 (op : Int), .int .i64 kids, .int .i64 num, .string ⟨text.toArray⟩] 32 j
  have q0 := (q 0).trans (show _ = some (Value.int .u8 (op : Int)) from rfl)
  have q1 := (q 1).trans (show _ = some (Value.int .i64 kids) from rfl)
  have q2 := (q 2).trans (show _ = some (Value.int .i64 num) from rfl)
  have q3 := (q 3).trans (show _ = some (Value.string ⟨text.toArray⟩) from rfl)
  have qf := frozen_new w #[.int .u8 (op : Int), .int .i64 kids, .int .i64 num, .string ⟨text.toArray⟩] 32 1
  have qz : w.heap.size < (w.alloc (.cells #[.int .u8 (op : Int), .int .i64 kids, .int .i64 num, .string ⟨text.toArray⟩] 32)).heap.size := by simp
  clear q hx h3
  replace hf := Lib.hid hf
  replace hfl := Lib.hid hfl
  unfold twV
  dsimp only
  go_enter Try.func15, Try.ntmps15
  go_wp2_with fail
  generalize w.alloc (.cells #[.int .u8 (op : Int), .int .i64 kids, .int .i64 num, .string ⟨text.toArray⟩] 32) = w1 at *
  go_loopw [6] (fun t6 wr => ∃ i : Nat, i ≤ n ∧ t6 = .int .i64 i ∧ Hid (badE (ps.drop i) = badE ps) ∧ Hid (Below w1.heap.size w1 wr)) (fun t6 _ => n - (intOf t6).toNat)
  case atStart => exact ⟨0, by omega, by go_num, Lib.hid (by simp), Lib.hid (Below.refl _ _)⟩
  case round =>
    obtain ⟨i, hi, rfl, hbd, hB⟩ := hrel
    rcases Nat.lt_or_ge i n with hlt | hge
    · have hlti : (i : Int) < (n : Int) := by omega
      have hip : i < ps.length := by rw [hn.out]; exact hlt
      obtain ⟨a', cap', e', _, _, h3⟩ := hTT.out
      cases e'
      obtain ⟨g, off, rfl, hg, hc⟩ := h3 (by omega)
      obtain ⟨u, hu, hTu⟩ := hc i hip
      have c := Lib.hid (hlk.out wr u i hip ((hTu.below hz0.out).below hB.out))
      have hbs := badE_drop hip
      have hu2 := cell_on (cell_on hu hz0.out) hB.out
      obtain ⟨ua, uc, rfl, _, _, _⟩ := hTu
      generalize (ps.getD i []) = p at *
      obtain ⟨e2, he2⟩ := exHid (lookF p).2.2
      rw [he2.out] at c hbs
      clear hc h3 hu
      by_cases h0 : e2 = 0
      · have h0b : (e2 != 0) = false := by simp [h0]
        rw [if_pos h0] at hbs
        replace hbs := Lib.hid hbs
        replace h0 := Lib.hid h0
        go_wp2_with fail
        refine c.out.mono ?_
        rintro e w3 ⟨k3, rfl, hb3⟩
        have hB3 := hB.out.trans (hb3.mono hB.out.size)
        go_wp2_with fail
        go_roundw
        case rel => exact ⟨i + 1, by omega, by go_num, Lib.hid (by rw [← hbs.out]; exact hbd.out), Lib.hid hB3⟩
        case measure => simp [intOf]; omega
      · have h0b : (e2 != 0) = true := by simpa using h0
        rw [if_neg h0] at hbs
        have hEe : E = e2 := by
          rw [← hE.out]
          unfold makeE
          rw [← hbd.out, hbs, if_neg h0]
        replace hEe := Lib.hid hEe
        replace h0 := Lib.hid h0
        replace hbs := Lib.hid hbs
        go_wp2_with fail
        refine c.out.mono ?_
        rintro e w3 ⟨k3, rfl, hb3⟩
        have hB3 := hB.out.trans (hb3.mono hB.out.size)
        go_wp2_with fail
        go_ret2
        refine ⟨.slice none 0 0, by rw [hEe.out]; rfl, fun _ => rfl, fun h => absurd (hEe.out.symm.trans h) h0.out, hz0.out.trans (hB3.mono (by omega))⟩
    · obtain rfl : i = n := by omega
      have hb0 : badE ps = 0 := by rw [← hbd.out, List.drop_eq_nil_of_le (by rw [hn.out]; omega)]; rfl
      have hsz2 := hB.out.size
      have d1 := cell_on q1 hB.out
      have g1 := frozen_on q1 qf hB.out
      have hB2 := Lib.hid (hz0.out.trans (hB.out.mono (by omega)))
      have d0 := cell_on q0 hB.out
      have d2 := cell_on q2 hB.out
      have d3 := cell_on q3 hB.out
      have hze := hE.out
      unfold makeE at hze
      rw [if_pos hb0] at hze
      have hok := badE_ok hb0
      have hmany := ok_many hok
      rw [hn.out] at hmany
      replace hok := Lib.hid hok
      clear q0 q1 q2 q3 qf hB hz0 hlk hbd hb0
      by_cases h2 : 2048 < i
      · have h2i : (2048 : Int) < (i : Int) := by omega
        rw [if_pos (by omega)] at hze
        replace hze := Lib.hid hze
        go_wp2_with fail
        go_ret2
        exact ⟨.slice none 0 0, by rw [← hze.out]; rfl, fun _ => rfl, fun h => (by rw [← hze.out] at h; cases h), hB2.out⟩
      · have h2i : ¬ (2048 : Int) < (i : Int) := by omega
        replace hze := Lib.hid hze
        have hne : ∀ j, (1 : Nat) ≠ j → (⟨w.heap.size, 1, none⟩ : Addr) ≠ ⟨w.heap.size, j, none⟩ := fun j hj e => by injection e with _ e _; exact hj e
        have k0 := (World.cell?_setCell_other wr ⟨w.heap.size, 1, none⟩ ⟨w.heap.size, 0, none⟩ (.int .i64 (i : Int)) (hne 0 (by omega))).trans d0
        have k2 := (World.cell?_setCell_other wr ⟨w.heap.size, 1, none⟩ ⟨w.heap.size, 2, none⟩ (.int .i64 (i : Int)) (hne 2 (by omega))).trans d2
        have k3 := (World.cell?_setCell_other wr ⟨w.heap.size, 1, none⟩ ⟨w.heap.size, 3, none⟩ (.int .i64 (i : Int)) (hne 3 (by omega))).trans d3
        have k1 := World.cell?_setCell_same wr ⟨w.heap.size, 1, none⟩ (.int .i64 (i : Int)) d1
        have hB3 := Lib.hid (hB2.out.setCell (p := ⟨w.heap.size, 1, none⟩) (Nat.le_refl _) (.int .i64 (i : Int)))
        clear hne
        go_upto_region 10 with fail
        clear d0 d1 d2 d3 g1 hB2
        generalize wr.setCell ⟨w.heap.size, 1, none⟩ (.int .i64 (i : Int)) = W at *
        have hO := Lib.hid (tws_first W ⟨op, (i : Int), num, text⟩ #[.int .u8 (op : Int), .int .i64 (i : Int), .int .i64 num, .string ⟨text.toArray⟩] rfl)
        have hBW := Lib.hid ((Below.refl _ W).alloc (Nat.le_refl _) (.cells #[.int .u8 (op : Int), .int .i64 (i : Int), .int .i64 num, .string ⟨text.toArray⟩] 32))
        go_wp2_with fail
        clear k0 k1 k2 k3
        go_loopw [9, 10] (fun t9 t10 wr => ∃ j : Nat, j ≤ i ∧ t10 = .int .i64 j ∧ Hid (TwsAt wr W.heap.size t9 (⟨op, (i : Int), num, text⟩ :: (ps.take j).flatten)) ∧ (ps.take j).flatten.length ≤ 2047 ∧ Hid (Below W.heap.size W wr)) (fun _ t10 _ => i - (intOf t10).toNat)
        case atStart => exact ⟨0, by omega, by go_num, by simpa using hO, by simp, hBW⟩
        case round =>
          clear hO hBW
          obtain ⟨j, hj, rfl, hO, hjl, hBW⟩ := hrel
          rcases Nat.lt_or_ge j i with hlt | hge
          · have hlti : (j : Int) < (i : Int) := by omega
            have hjp : j < ps.length := by rw [hn.out]; exact hlt
            obtain ⟨a', cap', e', _, _, h3⟩ := hTT.out
            cases e'
            obtain ⟨g, off, rfl, hg, hc⟩ := h3 (by omega)
            obtain ⟨u, hu, hTu⟩ := hc j hjp
            have hml := flat_take_succ hjp
            have hgm := flat_take_le ps (j + 1)
            have hu2 := cell_on hu hB3.out
            have hu3 := (hBW.out.cell (p := ⟨g, off + j, none⟩) (by have := hB3.out.size; show g < _; omega)).trans hu2
            have hTu3 := Lib.hid ((hTu.below hB3.out).below hBW.out)
            have hp0 := ((ok_iff _).1 (hok.out _ (getD_mem hjp))).1.1
            obtain ⟨ua, uc, rfl, _, _, hua⟩ := hTu
            obtain ⟨ug, uo, rfl, _, _⟩ := hua hp0
            rw [hml, List.length_append] at hgm
            generalize (ps.getD j []) = p at *
            have hl2 : p.length ≤ 1000000000 := by have := hfl.out; omega
            have hszW := hBW.out.size
            have hKl : (⟨op, (i : Int), num, text⟩ :: (ps.take j).flatten : List Tw).length = 1 + (ps.take j).flatten.length := by rw [List.length_cons]; omega
            obtain ⟨K, hKd⟩ := exHid (⟨op, (i : Int), num, text⟩ :: (ps.take j).flatten : List Tw)
            rw [hKd.out] at hO hKl
            have hl1 : K.length ≤ 1000000000 := by omega
            have hml2 : (ps.take (j + 1)).flatten.length = (ps.take j).flatten.length + p.length := by rw [hml, List.length_append]
            generalize (ps.take j).flatten.length = tl at *
            obtain ⟨pl, hpl2⟩ := exHid p.length
            obtain ⟨kl, hkl⟩ := exHid K.length
            have hkl2 : kl = 1 + tl := by rw [← hkl.out]; exact hKl
            have hpl0 : pl ≤ 1000000 := by have := hfl.out; rw [← hpl2.out]; omega
            have hgm2 : 1 + tl + pl ≤ 1 + ps.flatten.length := by rw [← hpl2.out]; omega
            replace hml := Lib.hid hml
            replace hml2 := Lib.hid hml2
            replace hKl := Lib.hid hKl
            replace hgm := Lib.hid hgm
            clear hc h3 hu hu2 hua hp0
            go_upto_region 15 with (at_builtin; (refine wpList_append_tws (base := W.heap.size) (us := p) rfl _ _ rfl rfl hO.out rfl hTu3.out hl1 hl2 hszW ?_; intro a1 c1 w3 hB1 hO1))
            rw [hkl.out, hpl2.out]
            have hKp : K ++ p = ⟨op, (i : Int), num, text⟩ :: (ps.take (j + 1)).flatten := by rw [← hKd.out, hml.out]; rfl
            rw [hkl.out, hpl2.out, hKp] at hB1
            have hO' := Lib.hid hB1
            have hBW' := Lib.hid (hBW.out.trans hO1)
            clear hTu3 hO hO1 hB1
            by_cases h5 : 2048 < kl + pl
            · have h5i : (2048 : Int) < (kl : Int) + (pl : Int) := by omega
              have hz := hze.out
              rw [if_pos (by omega)] at hz
              replace hz := Lib.hid hz
              go_wp2_with fail
              go_ret2
              exact ⟨.slice none 0 0, by rw [← hz.out]; rfl, fun _ => rfl, fun h => (by rw [← hz.out] at h; cases h), hB3.out.trans (hBW'.out.mono hB3.out.size)⟩
            · have h5i : ¬ (2048 : Int) < (kl : Int) + (pl : Int) := by omega
              go_wp2_with fail
              go_roundw
              case rel => exact ⟨j + 1, by omega, by go_num, hO', by rw [hml2.out, hpl2.out]; omega, hBW'⟩
              case measure => simp [intOf]; omega
          · obtain rfl : j = i := by omega
            have hml : ps.take j = ps := List.take_of_length_le (by rw [hn.out]; omega)
            rw [hml] at hO hjl
            have hz := hze.out
            rw [if_neg (by omega)] at hz
            have hj64 : I64 (j : Int) := ⟨by omega, by omega⟩
            have hft : ∀ y ∈ (⟨op, (j : Int), num, text⟩ :: ps.flatten : List Tw), FitT y := by
              intro y hy
              rcases List.mem_cons.1 hy with rfl | hy
              · exact ⟨hxx.out.1, hj64, hxx.out.2.2.1, hxx.out.2.2.2⟩
              · obtain ⟨p, hp, hyp⟩ := List.mem_flatten.1 hy
                exact hf.out p hp y hyp
            have hmt : makeT ⟨op, kids, num, text⟩ ps = ⟨op, (j : Int), num, text⟩ :: ps.flatten := by
              unfold makeT
              rw [hn.out]
            rw [hmt] at hz
            have c := Lib.hid (refCheck_e wr hO.out.twIn hft hz)
            have hB4 := Lib.hid (hB3.out.trans (hBW.out.mono hB3.out.size))
            have hszW := hB3.out.size
            replace hmt := Lib.hid hmt
            clear hft hml hz hf hfl hB3
            by_cases h0 : E = 0
            · have h0b : (E != 0) = false := by simp [h0]
              go_wp2_with fail
              refine c.out.mono ?_
              rintro e w5 ⟨k5, rfl, hb5⟩
              go_wp2_with fail
              go_ret2
              exact ⟨_, by rw [h0]; rfl, fun h => absurd h0 h, fun _ => by rw [hmt.out]; exact (hO.out.below hb5).base hszW, hB4.out.trans (hb5.mono hB4.out.size)⟩
            · have h0b : (E != 0) = true := by simpa using h0
              go_wp2_with fail
              refine c.out.mono ?_
              rintro e w5 ⟨k5, rfl, hb5⟩
              go_wp2_with fail
              go_ret2
              exact ⟨.slice none 0 0, rfl, fun _ => rfl, fun h => absurd h h0, hB4.out.trans (hb5.mono hB4.out.size)⟩
end Go.Proofs.Ythgkkdhalcpgbaa
