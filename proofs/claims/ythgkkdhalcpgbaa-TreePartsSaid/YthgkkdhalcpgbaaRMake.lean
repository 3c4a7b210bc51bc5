/- tree's Make (layer 8), walked. Lists of at most 10000 parts, 1000000 twigs together. -/
import Derived.Test.YthgkkdhalcpgbaaRParts
import Derived.Deep.RegionLaw
import Derived.Deep.AppendLies
namespace Go.Proofs.Ythgkkdhalcpgbaa
open Go.RowKit Go.Shelf

/-- What is wrong with the first wrong part. -/
def badE : List (List Tw) → Int
  | [] => 0
  | p :: r => if (lookF p).2.2 = 0 then badE r else (lookF p).2.2
def makeT (x : Tw) (ps : List (List Tw)) : List Tw := ⟨x.op, (ps.length : Int), x.num, x.text⟩ :: ps.flatten
def makeE (x : Tw) (ps : List (List Tw)) : Int := if badE ps = 0 then if 2048 < 1 + ps.flatten.length then 2 else (lookF (makeT x ps)).2.2 else badE ps
theorem look_e {v : Value} {ts : List Tw} {b : Nat} (w : World) (hT : TwIn w v ts) (hf : ∀ x ∈ ts, FitT x) (hK : KMap w b tabL) {E : Int} (h : (lookF ts).2.2 = E) :
    Calls Try.prog 28 #[.map (some b), v] w fun e w' => ∃ k d : Int, e = .returned (.tuple #[.int .i64 k, .int .i64 d, .int .i64 E]) ∧ Below w.heap.size w w' := by
  subst h
  refine (look_any w hT hf hK).mono ?_
  rintro e w1 ⟨rfl, hb⟩
  exact ⟨_, _, rfl, hb⟩
theorem flat_take_succ {ps : List (List Tw)} {i : Nat} (h : i < ps.length) : (ps.take (i + 1)).flatten = (ps.take i).flatten ++ ps.getD i [] := by
  rw [List.take_add_one, List.getD_eq_getElem?_getD, List.getElem?_eq_getElem h, List.flatten_append]
  simp
theorem flat_take_le (ps : List (List Tw)) (i : Nat) : (ps.take i).flatten.length ≤ ps.flatten.length := by
  have hs : ((ps.take i).flatten).Sublist ps.flatten := by
    conv => rhs; rw [← List.take_append_drop i ps]
    rw [List.flatten_append]
    exact List.sublist_append_left _ _
  exact hs.length_le
theorem getD_mem {ps : List (List Tw)} {i : Nat} (h : i < ps.length) : ps.getD i [] ∈ ps := by
  rw [List.getD_eq_getElem?_getD, List.getElem?_eq_getElem h]
  exact List.getElem_mem _
theorem badE_drop {ps : List (List Tw)} {i : Nat} (h : i < ps.length) : badE (ps.drop i) = if (lookF (ps.getD i [])).2.2 = 0 then badE (ps.drop (i + 1)) else (lookF (ps.getD i [])).2.2 := by
  rw [List.drop_eq_getElem_cons h, List.getD_eq_getElem?_getD, List.getElem?_eq_getElem h]
  rfl
theorem frozen_new (w : World) (cs : Array Value) (t : TypeId) (j : Nat) : (w.alloc (.cells cs t)).frozen? ⟨w.heap.size, j, none⟩ = false := by
  have h := heap_alloc_new w (.cells cs t)
  unfold World.frozen?
  dsimp only
  rw [h]
  rfl
theorem two_up (W : World) (o p : Obj) : W.heap.size ≤ ((W.alloc o).alloc p).drew.heap.size := by
  show W.heap.size ≤ ((W.alloc o).alloc p).heap.size
  rw [World.size_alloc, World.size_alloc]
  omega
theorem make_grown {W w2 : World} {o p : Obj} {row : Option Nat} (hg : ((W.alloc o).alloc p).drew.grownBy w2 row) (hr : ∀ k, row = some k → W.heap.size ≤ k) : Below W.heap.size W w2 :=
  ((((Below.refl _ W).alloc (Nat.le_refl _) o).alloc (by simp) p).drew).grown hg (two_up _ _ _) hr
theorem badE_ok : ∀ {ps : List (List Tw)}, badE ps = 0 → ∀ p ∈ ps, Ok p
  | [], _, p, hp => by cases hp
  | q :: r, h, p, hp => by
    unfold badE at h
    split at h
    · rename_i h0
      rcases List.mem_cons.1 hp with rfl | hp
      · exact h0
      · exact badE_ok h p hp
    · rename_i h0
      exact absurd h h0
set_option maxRecDepth 20000 in
set_option maxHeartbeats 4000000 in
theorem Make_any {v : Value} {ps : List (List Tw)} (x : Tw) (w : World) (hT : TrsIn w v ps) (hf : ∀ p ∈ ps, ∀ y ∈ p, FitT y) (hx : FitT x) (hpl : ps.length ≤ 10000) (hfl : ps.flatten.length ≤ 1000000) :
    Calls Try.prog 14 #[twV x, v] w fun e w' => ∃ v', e = .returned (.tuple #[v', .int .i64 (makeE x ps)]) ∧ (makeE x ps ≠ 0 → v' = .slice none 0 0) ∧ (makeE x ps = 0 → TwsAt w' w.heap.size v' (makeT x ps)) ∧ Below w.heap.size w w' := by
  obtain ⟨E, hE⟩ := exHid (makeE x ps)
  rw [hE.out]
  have hTT := Lib.hid hT
  obtain ⟨a, cap, rfl, hlc, hcm, h3⟩ := hT
  have hlk := fun W b u i (hi : i < ps.length) (h : TwIn W u (ps.getD i [])) (hK : KMap W b tabL) => look_e W h (hf _ (getD_mem hi)) hK rfl
  obtain ⟨n, hn⟩ := exHid ps.length
  rw [hn.out] at hlc hpl ⊢
  replace hlk := Lib.hid hlk
  have hxx := Lib.hid hx
  obtain ⟨op, kids, num, text⟩ := x
  have hz0 : Below w.heap.size w (w.alloc (.cells #[.int .u8 (op : Int), .int .i64 kids, .int .i64 num, .string ⟨text.toArray⟩] 32)) := (Below.refl _ w).alloc (Nat.le_refl _) _
  have q := fun j => one_cell w #[.int .u8 (op : Int), .int .i64 kids, .int .i64 num, .string ⟨text.toArray⟩] 32 j
  have q0 := q 0; have q1 := q 1; have q2 := q 2; have q3 := q 3
  clear q hx h3
  replace hf := Lib.hid hf
  replace hfl := Lib.hid hfl
  unfold twV
  dsimp only
  go_enter Try.func14, Try.ntmps14
  go_wp2_with fail
  refine (table_any _).mono ?_
  rintro e w1 ⟨b, rfl, hK, hb⟩
  have c0 := cell_on (q0.trans (show _ = some (Value.int .u8 (op : Int)) from rfl)) hb
  have c1 := cell_on (q1.trans (show _ = some (Value.int .i64 kids) from rfl)) hb
  have c2 := cell_on (q2.trans (show _ = some (Value.int .i64 num) from rfl)) hb
  have c3 := cell_on (q3.trans (show _ = some (Value.string ⟨text.toArray⟩) from rfl)) hb
  have f1 := frozen_on (q1.trans (show _ = some (Value.int .i64 kids) from rfl)) (frozen_new w _ _ _) hb
  have hB1 : Below w.heap.size w w1 := hz0.trans (hb.mono hz0.size)
  have hsz1 : w.heap.size < w1.heap.size := by have := hb.size; simp at this; omega
  have hbne : b ≠ w.heap.size := by
    intro e
    have hm := hK.lt
    obtain ⟨es, ct, hh, _⟩ := hK
    have hc := hb.block w.heap.size (by simp)
    rw [← e, hh, e] at hc
    rw [heap_alloc_new] at hc
    cases hc
  clear q0 q1 q2 q3 hz0 hb
  replace hB1 := Lib.hid hB1
  replace hK := Lib.hid hK
  have hKb := Lib.hid hbne
  clear hbne
  go_wp2_with fail
  go_loopw [7, 22] (fun t7 t22 wr => ∃ i m : Nat, i ≤ n ∧ t22 = .int .i64 i ∧ t7 = .int .i64 m ∧ m ≤ 1000001 ∧ Hid (m = 1 + (ps.take i).flatten.length) ∧ Hid (badE (ps.drop i) = badE ps) ∧ Hid (Below w1.heap.size w1 wr)) (fun _ t22 _ => n - (intOf t22).toNat)
  case atStart => exact ⟨0, 1, by omega, by go_num, rfl, by omega, Lib.hid (by simp), Lib.hid (by simp), Lib.hid (Below.refl _ _)⟩
  case round =>
    obtain ⟨i, m, hi, rfl, rfl, hm, hm2, hbd, hB⟩ := hrel
    rcases Nat.lt_or_ge i n with hlt | hge
    · have hlti : (i : Int) < (n : Int) := by omega
      have hip : i < ps.length := by rw [hn.out]; exact hlt
      obtain ⟨a', cap', e', _, _, h3⟩ := hTT.out
      cases e'
      obtain ⟨g, off, rfl, hg, hc⟩ := h3 (by omega)
      obtain ⟨u, hu, hTu⟩ := hc i hip
      have c := Lib.hid (hlk.out wr b u i hip ((hTu.below hB1.out).below hB.out) (hK.out.below hB.out hK.out.lt))
      have hbs := badE_drop hip
      have hml := flat_take_succ hip
      have hmle := flat_take_le ps (i + 1)
      have hu2 := cell_on (cell_on hu hB1.out) hB.out
      obtain ⟨ua, uc, rfl, _, _, _⟩ := hTu
      generalize (ps.getD i []) = p at *
      obtain ⟨e2, he2⟩ := exHid (lookF p).2.2
      rw [he2.out] at c hbs
      obtain ⟨pl, hpl2⟩ := exHid p.length
      rw [hpl2.out] at c hu2
      have hpl3 : m + pl ≤ 1000001 ∧ m + pl = 1 + (ps.take (i + 1)).flatten.length := by
        have := hfl.out
        have e3 := hm2.out
        rw [hml, List.length_append, hpl2.out] at hmle ⊢
        omega
      obtain ⟨hp4, hp5⟩ := hpl3
      replace hp5 := Lib.hid hp5
      clear hc h3 hu hml hmle
      by_cases h0 : e2 = 0
      · have h0b : (e2 != 0) = false := by simp [h0]
        rw [if_pos h0] at hbs
        replace hbs := Lib.hid hbs
        replace h0 := Lib.hid h0
        go_wp2_with fail
        refine c.out.mono ?_
        rintro e w3 ⟨k3, d3, rfl, hb3⟩
        have hB3 := hB.out.trans (hb3.mono hB.out.size)
        go_wp2_with fail
        go_roundw
        case rel => exact ⟨i + 1, m + pl, by omega, by go_num, by go_num, hp4, hp5, Lib.hid (by rw [← hbs.out]; exact hbd.out), Lib.hid hB3⟩
        case measure => simp [intOf]; omega
      · have h0b : (e2 != 0) = true := by simpa using h0
        rw [if_neg h0] at hbs
        have hEe : E = e2 := by
          rw [← hE.out]
          unfold makeE
          rw [← hbd.out, hbs, if_neg h0]
        replace hEe := Lib.hid hEe
        replace h0 := Lib.hid h0
        replace hbs := Lib.hid hbs
        go_wp2_with fail
        refine c.out.mono ?_
        rintro e w3 ⟨k3, d3, rfl, hb3⟩
        have hB3 := hB.out.trans (hb3.mono hB.out.size)
        go_wp2_with fail
        go_ret2
        refine ⟨.slice none 0 0, by rw [hEe.out]; rfl, fun _ => rfl, fun h => absurd (hEe.out.symm.trans h) h0.out, hB1.out.trans (hB3.mono (by omega))⟩
    · obtain rfl : i = n := by omega
      have hml : ps.take i = ps := List.take_of_length_le (by rw [hn.out]; omega)
      have hb0 : badE ps = 0 := by rw [← hbd.out, List.drop_eq_nil_of_le (by rw [hn.out]; omega)]; rfl
      rw [hml] at hm2
      have hsz2 := hB.out.size
      have hK2 := Lib.hid (hK.out.below hB.out hK.out.lt)
      have d1 := cell_on c1 hB.out
      have g1 := frozen_on c1 f1 hB.out
      have hB2 := Lib.hid (hB1.out.trans (hB.out.mono (by omega)))
      have d0 := cell_on c0 hB.out
      have d2 := cell_on c2 hB.out
      have d3 := cell_on c3 hB.out
      have hze := hE.out
      unfold makeE at hze
      rw [if_pos hb0] at hze
      clear c0 c1 c2 c3 f1 hB hK hB1 hlk hbd hml
      have hok := badE_ok hb0
      replace hok := Lib.hid hok
      clear hb0
      by_cases h2 : 2048 < m
      · have h2i : (2048 : Int) < (m : Int) := by omega
        rw [if_pos (by rw [← hm2.out]; exact h2)] at hze
        replace hze := Lib.hid hze
        go_wp2_with fail
        go_ret2
        exact ⟨.slice none 0 0, by rw [← hze.out]; rfl, fun _ => rfl, fun h => (by rw [← hze.out] at h; cases h), hB2.out⟩
      · have h2i : ¬ (2048 : Int) < (m : Int) := by omega
        rw [if_neg (by rw [← hm2.out]; exact h2)] at hze
        replace hze := Lib.hid hze
        have hne : ∀ j, (1 : Nat) ≠ j → (⟨w.heap.size, 1, none⟩ : Addr) ≠ ⟨w.heap.size, j, none⟩ := fun j hj e => by injection e with _ e _; exact hj e
        have k0 := (World.cell?_setCell_other wr ⟨w.heap.size, 1, none⟩ ⟨w.heap.size, 0, none⟩ (.int .i64 (i : Int)) (hne 0 (by omega))).trans d0
        have k2 := (World.cell?_setCell_other wr ⟨w.heap.size, 1, none⟩ ⟨w.heap.size, 2, none⟩ (.int .i64 (i : Int)) (hne 2 (by omega))).trans d2
        have k3 := (World.cell?_setCell_other wr ⟨w.heap.size, 1, none⟩ ⟨w.heap.size, 3, none⟩ (.int .i64 (i : Int)) (hne 3 (by omega))).trans d3
        have k1 := World.cell?_setCell_same wr ⟨w.heap.size, 1, none⟩ (.int .i64 (i : Int)) d1
        have hK3 := Lib.hid (hK2.out.only (F := fun k => k = w.heap.size) ((Only.refl (fun k => k = w.heap.size) wr).setCell (p := ⟨w.heap.size, 1, none⟩) (.inl (show w.heap.size = w.heap.size from rfl)) (.int .i64 (i : Int))) (by
          intro e
          have := hKb.out
          omega))
        have hB3 := Lib.hid (hB2.out.setCell (p := ⟨w.heap.size, 1, none⟩) (Nat.le_refl _) (.int .i64 (i : Int)))
        clear hne
        go_wp2_with fail
        clear d0 d1 d2 d3 g1 hB2 hK2
        generalize wr.setCell ⟨w.heap.size, 1, none⟩ (.int .i64 (i : Int)) = W at *
        obtain ⟨i0, hi, hz0, hz1, hz2⟩ := tw_parts
        obtain ⟨MC, hMC, hMl⟩ : ∃ MC : Array Value, (∀ V : World, (Instr.makeSlice 23 (.int .i64 0) (.int .i64 (m : Int))).run Try.prog V = .ok (.slice (some ⟨V.heap.size, 0, none⟩) 0 m) (V.alloc (.cells MC 32))) ∧
            ∀ V : World, V.heap.size ≥ W.heap.size → TwsAt (V.alloc (.cells MC 32)) W.heap.size (.slice (some ⟨V.heap.size, 0, none⟩) 0 m) [] := by
          refine ⟨madeCells (Value.agg #[.int .u8 0, .int .i64 0, .int .i64 0, .string ⟨#[]⟩]).cells (m * i0.size), fun V => ?_, fun V hV => ?_⟩
          · have := run_make (P := Try.prog) V 23 32 i0 _ Try.underlying23 hi hz0 .i64 .i64 0 (m : Int) (by omega) (by omega) (by rw [hz2]; omega) (by omega)
            simpa using this
          · unfold TwsAt
            rw [hz1]
            exact World.ownsRow_made V _ m hV (by unfold maxLen; omega) (size_madeCells _ _)
        have m1 := hMl W (Nat.le_refl _)
        have A0 := Lib.hid (show TwsAt ((W.alloc (.cells MC 32)).alloc (.cells #[.int .u8 (op : Int), .int .i64 (i : Int), .int .i64 num, .string ⟨text.toArray⟩] 32)).drew W.heap.size (.slice (some ⟨W.heap.size, 0, none⟩) 0 m) [] from m1.below (W := (W.alloc (.cells MC 32)).alloc (.cells #[.int .u8 (op : Int), .int .i64 (i : Int), .int .i64 num, .string ⟨text.toArray⟩] 32)) ((Below.refl _ (W.alloc (.cells MC 32))).alloc (Nat.le_refl _) (.cells #[.int .u8 (op : Int), .int .i64 (i : Int), .int .i64 num, .string ⟨text.toArray⟩] 32)))
        have A1 := Lib.hid (fun j u (h : (twC ⟨op, (i : Int), num, text⟩)[j]? = some u) => (show ((W.alloc (.cells MC 32)).alloc (.cells #[.int .u8 (op : Int), .int .i64 (i : Int), .int .i64 num, .string ⟨text.toArray⟩] 32)).drew.cell? ((⟨W.heap.size + 1, 0, none⟩ : Addr).add j) = some u from by
          rw [show (⟨W.heap.size + 1, 0, none⟩ : Addr).add j = ⟨W.heap.size + 1, j, none⟩ by simp [Addr.add]; omega]
          have := one_cell (W.alloc (.cells MC 32)) #[.int .u8 (op : Int), .int .i64 (i : Int), .int .i64 num, .string ⟨text.toArray⟩] 32 j
          rw [World.size_alloc] at this
          exact this.trans (by simpa [twC] using h)))
        have B0 := Lib.hid (show TwsAt ((W.alloc (.cells #[.int .u8 (op : Int), .int .i64 (i : Int), .int .i64 num, .string ⟨text.toArray⟩] 32)).alloc (.cells MC 32)).drew W.heap.size (.slice (some ⟨W.heap.size + 1, 0, none⟩) 0 m) [] from by
          have := hMl (W.alloc (.cells #[.int .u8 (op : Int), .int .i64 (i : Int), .int .i64 num, .string ⟨text.toArray⟩] 32)) (by simp)
          rw [World.size_alloc] at this
          exact this)
        have B1 := Lib.hid (fun j u (h : (twC ⟨op, (i : Int), num, text⟩)[j]? = some u) => (show ((W.alloc (.cells #[.int .u8 (op : Int), .int .i64 (i : Int), .int .i64 num, .string ⟨text.toArray⟩] 32)).alloc (.cells MC 32)).drew.cell? ((⟨W.heap.size, 0, none⟩ : Addr).add j) = some u from by
          rw [show (⟨W.heap.size, 0, none⟩ : Addr).add j = ⟨W.heap.size, j, none⟩ by simp [Addr.add]; omega]
          have := two_cells W #[.int .u8 (op : Int), .int .i64 (i : Int), .int .i64 num, .string ⟨text.toArray⟩] 32 (.cells MC 32) j
          exact this.trans (by simpa [twC] using h)))
        have L0 : ∀ j v, W.cell? ⟨w.heap.size, j, none⟩ = some v → (W.alloc (.cells MC 32)).cell? ⟨w.heap.size, j, none⟩ = some v := fun j v h => cell_on h ((Below.refl _ W).alloc (Nat.le_refl _) (.cells MC 32))
        have l0 := L0 0 _ k0; have l1 := L0 1 _ k1; have l2 := L0 2 _ k2; have l3 := L0 3 _ k3
        clear L0 m1 hMl
        go_region_law (first
          | (refine step_append_lies (((W.alloc (.cells MC 32)).alloc (.cells #[.int .u8 (op : Int), .int .i64 (i : Int), .int .i64 num, .string ⟨text.toArray⟩] 32)).drew) rfl (.tmp 47) (.tmp 49) 23 rfl W.heap.size 32 i0 (.agg #[.int .u8 0, .int .i64 0, .int .i64 0, .string ⟨#[]⟩]) 4 40 Try.underlying23 hi hz0 hz1 hz2 rfl (by decide) _ 0 [] rfl A0.out ⟨W.heap.size + 1, 0, none⟩ 1 1 (twC ⟨op, (i : Int), num, text⟩) rfl rfl A1.out (twC_one _) (by omega) (by unfold maxLen; omega) (by omega) (two_up _ _ _) _ rfl ?_; intro g2 cap2 w2 hown2 hgr2 hg2 hl2)
          | (refine step_append_lies (((W.alloc (.cells #[.int .u8 (op : Int), .int .i64 (i : Int), .int .i64 num, .string ⟨text.toArray⟩] 32)).alloc (.cells MC 32)).drew) rfl (.tmp 47) (.tmp 49) 23 rfl W.heap.size 32 i0 (.agg #[.int .u8 0, .int .i64 0, .int .i64 0, .string ⟨#[]⟩]) 4 40 Try.underlying23 hi hz0 hz1 hz2 rfl (by decide) _ 0 [] rfl B0.out ⟨W.heap.size, 0, none⟩ 1 1 (twC ⟨op, (i : Int), num, text⟩) rfl rfl B1.out (twC_one _) (by omega) (by unfold maxLen; omega) (by omega) (two_up _ _ _) _ rfl ?_; intro g2 cap2 w2 hown2 hgr2 hg2 hl2))
        all_goals
          have hO := Lib.hid (show TwsAt w2 W.heap.size (.slice (some ⟨g2, 0, none⟩) (0 + 1) cap2) (⟨op, (i : Int), num, text⟩ :: (ps.take 0).flatten) from by
            unfold TwsAt
            simpa [rowOf] using hown2)
          have hBW := Lib.hid (make_grown hgr2 (fun k hk => (by first | (have e : W.heap.size = k := Option.some.inj hk; omega) | (have e : W.heap.size + 1 = k := Option.some.inj hk; omega))))
          clear hown2 hgr2 hg2 hl2 A0 A1 B0 B1 l0 l1 l2 l3 k0 k1 k2 k3 hMC hi hz0 hz1 hz2
          go_wp2_with fail
          go_loopw [13, 53] (fun t13 t53 wr => ∃ j : Nat, j ≤ i ∧ t53 = .int .i64 j ∧ Hid (TwsAt wr W.heap.size t13 (⟨op, (i : Int), num, text⟩ :: (ps.take j).flatten)) ∧ Hid (Below W.heap.size W wr)) (fun _ t53 _ => i - (intOf t53).toNat)
          case atStart => exact ⟨0, by omega, by go_num, hO, hBW⟩
          case round =>
            clear hO hBW
            obtain ⟨j, hj, rfl, hO, hBW⟩ := hrel
            rcases Nat.lt_or_ge j i with hlt | hge
            · have hlti : (j : Int) < (i : Int) := by omega
              have hjp : j < ps.length := by rw [hn.out]; exact hlt
              obtain ⟨a', cap', e', _, _, h3⟩ := hTT.out
              cases e'
              obtain ⟨g, off, rfl, hg, hc⟩ := h3 (by omega)
              obtain ⟨u, hu, hTu⟩ := hc j hjp
              have hml := flat_take_succ hjp
              have hmle := flat_take_le ps j
              have hgm := flat_take_le ps (j + 1)
              have hu2 := cell_on hu hB3.out
              have hu3 := (hBW.out.cell (p := ⟨g, off + j, none⟩) (by have := hB3.out.size; show g < _; omega)).trans hu2
              have hTu3 := Lib.hid ((hTu.below hB3.out).below hBW.out)
              have hp0 := ((ok_iff _).1 (hok.out _ (getD_mem hjp))).1.1
              obtain ⟨ua, uc, rfl, _, _, hua⟩ := hTu
              obtain ⟨ug, uo, rfl, _, _⟩ := hua hp0
              rw [hml, List.length_append] at hgm
              generalize (ps.getD j []) = p at *
              have hl1 : (⟨op, (i : Int), num, text⟩ :: (ps.take j).flatten : List Tw).length ≤ 1000000000 := by
                have := hfl.out
                rw [List.length_cons]; omega
              have hl2 : p.length ≤ 1000000000 := by have := hfl.out; omega
              have hszW := hBW.out.size
              obtain ⟨K, hKd⟩ := exHid (⟨op, (i : Int), num, text⟩ :: (ps.take j).flatten : List Tw)
              rw [hKd.out] at hO hl1
              replace hml := Lib.hid hml
              clear hc h3 hu hu2 hmle hgm hua hp0
              go_wp2_with (at_builtin; (refine wpList_append_tws (base := W.heap.size) (us := p) rfl _ _ rfl rfl hO.out rfl hTu3.out hl1 hl2 hszW ?_; intro a1 c1 w3 hB1 hO1))
              have hKp : K ++ p = ⟨op, (i : Int), num, text⟩ :: (ps.take (j + 1)).flatten := by rw [← hKd.out, hml.out]; rfl
              rw [hKp] at hB1
              have hO' := Lib.hid hB1
              have hBW' := Lib.hid (hBW.out.trans hO1)
              go_roundw
              case rel => exact ⟨j + 1, by omega, by go_num, hO', hBW'⟩
              case measure => simp [intOf]; omega
            · obtain rfl : j = i := by omega
              have hml : ps.take j = ps := List.take_of_length_le (by rw [hn.out]; omega)
              rw [hml] at hO
              have hj64 : I64 (j : Int) := ⟨by omega, by omega⟩
              have hft : ∀ y ∈ (⟨op, (j : Int), num, text⟩ :: ps.flatten : List Tw), FitT y := by
                intro y hy
                rcases List.mem_cons.1 hy with rfl | hy
                · exact ⟨hxx.out.1, hj64, hxx.out.2.2.1, hxx.out.2.2.2⟩
                · obtain ⟨p, hp, hyp⟩ := List.mem_flatten.1 hy
                  exact hf.out p hp y hyp
              have hmt : makeT ⟨op, kids, num, text⟩ ps = ⟨op, (j : Int), num, text⟩ :: ps.flatten := by
                unfold makeT
                rw [hn.out]
              have hze' := hze.out
              rw [hmt] at hze'
              have c := Lib.hid (look_e wr hO.out.twIn hft (hK3.out.below hBW.out hK3.out.lt) hze')
              have hB4 := Lib.hid (hB3.out.trans (hBW.out.mono hB3.out.size))
              have hszW := hB3.out.size
              replace hmt := Lib.hid hmt
              clear hft hml hze' hf hfl hK3 hB3
              by_cases h0 : E = 0
              · have h0b : (E != 0) = false := by simp [h0]
                go_wp2_with fail
                refine c.out.mono ?_
                rintro e w5 ⟨k5, d5, rfl, hb5⟩
                go_wp2_with fail
                go_ret2
                exact ⟨_, by rw [h0]; rfl, fun h => absurd h0 h, fun _ => by rw [hmt.out]; exact (hO.out.below hb5).base hszW, hB4.out.trans (hb5.mono hB4.out.size)⟩
              · have h0b : (E != 0) = true := by simpa using h0
                go_wp2_with fail
                refine c.out.mono ?_
                rintro e w5 ⟨k5, d5, rfl, hb5⟩
                go_wp2_with fail
                go_ret2
                exact ⟨.slice none 0 0, rfl, fun _ => rfl, fun h => absurd h h0, hB4.out.trans (hb5.mono hB4.out.size)⟩
end Go.Proofs.Ythgkkdhalcpgbaa
