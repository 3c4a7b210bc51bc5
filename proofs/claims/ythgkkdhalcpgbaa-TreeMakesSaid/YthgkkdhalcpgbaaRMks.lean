/- The law TreeMakes, walked (layer 8). Lists of at most 4000000000000 twigs each (the row's reach). -/
import Derived.Test.YthgkkdhalcpgbaaRDMake
import Derived.Test.YthgkkdhalcpgbaaRSet
import Derived.Test.YthgkkdhalcpgbaaROps
import Derived.Test.YthgkkdhalcpgbaaRAlike
import Derived.Test.YthgkkdhalcpgbaaRMany
import Derived.Test.YthgkkdhalcpgbaaROpen2
namespace Go.Proofs.Ythgkkdhalcpgbaa
open Go.RowKit Go.Shelf

/-- What is put together; nothing, where that is wrong. -/
def madeL (x : Tw) (ps : List (List Tw)) : List Tw := if makeE x ps = 0 then makeT x ps else []
theorem madeL_len (x : Tw) (ps : List (List Tw)) : (madeL x ps).length ≤ 2048 := by
  unfold madeL
  split
  · rename_i h
    unfold makeE at h
    split at h
    · split at h
      · cases h
      · unfold makeT
        rw [List.length_cons]
        omega
    · rename_i hb
      exact absurd h hb
  · exact Nat.zero_le _
theorem Make_l {v : Value} {ps : List (List Tw)} (x : Tw) (w : World) (hT : TrsIn w v ps) (hf : ∀ p ∈ ps, ∀ y ∈ p, FitT y) (hx : FitT x) (hpl : ps.length ≤ 10000) (hfl : ps.flatten.length ≤ 1000000) :
    Calls Try.prog 14 #[twV x, v] w fun e w' => ∃ v', e = .returned (.tuple #[v', .int .i64 (makeE x ps)]) ∧ TwsAt w' w.heap.size v' (madeL x ps) ∧ Below w.heap.size w w' := by
  refine (Make_any x w hT hf hx hpl hfl).mono ?_
  rintro e w' ⟨v', he, h1, h2, hb⟩
  refine ⟨v', he, ?_, hb⟩
  unfold madeL
  by_cases h : makeE x ps = 0
  · rw [if_pos h]; exact h2 h
  · rw [if_neg h, h1 h]; exact TwsAt.nil
theorem refMake_l {v : Value} {ps : List (List Tw)} (x : Tw) (w : World) (hT : TrsIn w v ps) (hf : ∀ p ∈ ps, ∀ y ∈ p, FitT y) (hx : FitT x) (hpl : ps.length ≤ 10000) (hfl : ps.flatten.length ≤ 1000000) :
    Calls Try.prog 15 #[twV x, v] w fun e w' => ∃ v', e = .returned (.tuple #[v', .int .i64 (makeE x ps)]) ∧ TwsAt w' w.heap.size v' (madeL x ps) ∧ Below w.heap.size w w' := by
  refine (refMake_any x w hT hf hx hpl hfl).mono ?_
  rintro e w' ⟨v', he, h1, h2, hb⟩
  refine ⟨v', he, ?_, hb⟩
  unfold madeL
  by_cases h : makeE x ps = 0
  · rw [if_pos h]; exact h2 h
  · rw [if_neg h, h1 h]; exact TwsAt.nil
theorem len_flat {ps : List (List Tw)} {p : List Tw} (h : p ∈ ps) : p.length ≤ ps.flatten.length := by
  obtain ⟨a, b, rfl⟩ := List.append_of_mem h
  rw [List.flatten_append, List.flatten_cons]
  simp only [List.length_append]
  omega
set_option maxRecDepth 20000 in
set_option maxHeartbeats 4000000 in
theorem treeMakes_walk (x : Tw) (v : Value) (w : World) (hx : FitT x) (h : TrsV w v) :
    Calls Try.prog 4 #[twV x, v] w fun e w' => e = .returned (.bool true) ∧ Below w.heap.size w w' := by
  obtain ⟨ps, hT, hf, hpl⟩ := h
  have hWk := Lib.hid wakes_any
  have hTT := Lib.hid hT
  obtain ⟨E, hE⟩ := exHid (makeE x ps)
  obtain ⟨ML, hML⟩ := exHid (madeL x ps)
  have hMLl := madeL_len x ps
  have cMany := fun W hT => Many_any (w := W) (v := v) hT hpl
  have cMake := fun W u hT h1 h2 => Make_l (v := u) x W hT hf hx h1 h2
  have cRef := fun W u hT h1 h2 => refMake_l (v := u) x W hT hf hx h1 h2
  rw [hE.out, hML.out] at cMake cRef
  rw [hML.out] at hMLl
  obtain ⟨op, kids, num, text⟩ := x
  unfold twV at cMake cRef ⊢
  dsimp only at cMake cRef ⊢
  have hz0 : Below w.heap.size w (w.alloc (.cells #[.int .u8 (op : Int), .int .i64 kids, .int .i64 num, .string ⟨text.toArray⟩] 32)) := (Below.refl _ w).alloc (Nat.le_refl _) _
  have q := fun j => one_cell w #[.int .u8 (op : Int), .int .i64 kids, .int .i64 num, .string ⟨text.toArray⟩] 32 j
  have q0 := (q 0).trans (show _ = some (Value.int .u8 (op : Int)) from rfl)
  have q1 := (q 1).trans (show _ = some (Value.int .i64 kids) from rfl)
  have q2 := (q 2).trans (show _ = some (Value.int .i64 num) from rfl)
  have q3 := (q 3).trans (show _ = some (Value.string ⟨text.toArray⟩) from rfl)
  have qz : w.heap.size < (w.alloc (.cells #[.int .u8 (op : Int), .int .i64 kids, .int .i64 num, .string ⟨text.toArray⟩] 32)).heap.size := by simp
  have c1 := Lib.hid (cMany _ (hT.below hz0))
  obtain ⟨a, cap, rfl, _, _, _⟩ := hT
  obtain ⟨n, hn⟩ := exHid ps.length
  rw [hn.out] at cMake cRef c1 hTT ⊢
  replace cMake := Lib.hid cMake
  replace cRef := Lib.hid cRef
  replace hf := Lib.hid hf; replace hpl := Lib.hid hpl
  replace hz0 := Lib.hid hz0
  clear cMany hx q
  go_enter Try.func4, Try.ntmps4
  go_wp2_with fail
  refine c1.out.mono ?_
  rintro e w1 ⟨bm, rfl, hbm, rfl⟩
  generalize w.alloc (.cells #[.int .u8 (op : Int), .int .i64 kids, .int .i64 num, .string ⟨text.toArray⟩] 32) = w1 at *
  rcases bm with _ | _
  · obtain ⟨hm1, hm2⟩ := hbm rfl
    rw [hn.out] at hm2
    replace hm1 := Lib.hid hm1
    clear c1 hbm
    go_wp2_with fail
    go_loopw [5, 6] (fun t5 t6 wr => ∃ i : Nat, i ≤ n ∧ t6 = .int .i64 i ∧ Hid (Trs wr w1.heap.size t5 (ps.take i)) ∧ Hid (Below w1.heap.size w1 wr)) (fun _ t6 _ => n - (intOf t6).toNat)
    case atStart => exact ⟨0, by omega, by go_num, Lib.hid ⟨[], rfl, ⟨rfl, .inl ⟨rfl, rfl⟩⟩, fun i hi => by simp at hi⟩, Lib.hid (Below.refl _ _)⟩
    case round =>
      obtain ⟨i, hi, rfl, hR, hB⟩ := hrel
      rcases Nat.lt_or_ge i n with hlt | hge
      · have hlti : (i : Int) < (n : Int) := by omega
        have hip : i < ps.length := by rw [hn.out]; exact hlt
        obtain ⟨a', cap', e', _, _, h3⟩ := hTT.out
        injection e' with e1 e2 e3
        subst e1 e3
        obtain ⟨g, off, rfl, hg, hc⟩ := h3 (by omega)
        obtain ⟨u, hu, hTu⟩ := hc i hip
        have hu2 := cell_on (cell_on hu hz0.out) hB.out
        have hTu2 := Lib.hid ((hTu.below hz0.out).below hB.out)
        have htk : ps.take (i + 1) = ps.take i ++ [ps.getD i []] := by
          rw [List.take_add_one, List.getD_eq_getElem?_getD, List.getElem?_eq_getElem hip]
          rfl
        have hpl2 := len_flat (getD_mem hip)
        have hpl3 := hm1.out
        generalize (ps.getD i []) = p at *
        have c := Lib.hid (Copied_any hTu2.out (by omega))
        replace htk := Lib.hid htk
        have hlen6 : (ps.take i).length ≤ 1000000000 := by rw [List.length_take]; omega
        have hli : (ps.take i).length = i := by rw [List.length_take]; omega
        obtain ⟨a5, c5, e5, _, _⟩ := hR.out.shape
        rw [hli] at e5
        subst e5
        replace hpl2 := Lib.hid hpl2; replace hpl3 := Lib.hid hpl3
        clear hc h3 hu e2
        go_wp2_with fail
        refine c.out.mono ?_
        rintro e w4 ⟨v4, rfl, hO4, hb4⟩
        obtain ⟨a4, c4, e4, _⟩ := hO4.shape
        subst e4
        have hszB := hB.out.size
        have hal := (Below.refl w4.heap.size w4).alloc (Nat.le_refl _) (.cells #[.slice a4 p.length c4] 23)
        have hR' := Lib.hid ((hR.out.below hb4).below hal)
        have hO4' := Lib.hid ((hO4.base hszB).below hal)
        have hsz4 := hb4.size
        have hB4 := Lib.hid ((hB.out.trans (hb4.mono hszB)).trans (hal.mono (show w1.heap.size ≤ w4.heap.size by omega)))
        have hcl := (one_cell w4 #[.slice a4 p.length c4] 23 0).trans (show _ = some (Value.slice a4 p.length c4) from rfl)
        clear hR hO4 hal hb4 c hTu2
        go_wp2_with (at_builtin; (refine wpList_append_tr (base := w1.heap.size) (ps := ps.take i) (q := p) rfl _ _ rfl rfl hR'.out rfl hcl hO4'.out hlen6 hB4.out.size ?_; intro a6 c6 w5 hT5 hB5 hO5))
        have hB6 := hB4.out.trans hB5
        rw [hli] at hT5
        go_roundw
        case rel => exact ⟨i + 1, by omega, by go_num, by rw [htk.out]; exact Lib.hid hT5, Lib.hid hB6⟩
        case measure => simp [intOf]; omega
      · obtain rfl : i = n := by omega
        have hml : ps.take i = ps := List.take_of_length_le (by rw [hn.out]; omega)
        rw [hml] at hR
        obtain ⟨a5, c5, e5, _, _⟩ := hR.out.shape
        rw [hn.out] at e5
        subst e5
        have hlti : ¬ ((i : Int) < (i : Int)) := by omega
        generalize wr = wA at *
        have r0 := cell_on q0 hB.out; have r1 := cell_on q1 hB.out; have r2 := cell_on q2 hB.out; have r3 := cell_on q3 hB.out
        have hBw := Lib.hid (hz0.out.trans (hB.out.mono hz0.out.size))
        have hC := Lib.hid hR.out.trsIn
        have c2 := Lib.hid (cMake.out wA _ hC.out (by omega) (by have := hm1.out; omega))
        have hszr : w.heap.size < wA.heap.size := by have := hB.out.size; omega
        clear q0 q1 q2 q3 hml hR hB hz0
        go_wp2_with fail
        refine c2.out.mono ?_
        rintro e w2 ⟨v7, rfl, hv7, hb2⟩
        obtain ⟨a7, c7, e7, _, _⟩ := hv7.shape
        obtain ⟨N, hN⟩ := exHid ML.length
        rw [hN.out] at e7 hMLl
        subst e7
        have s0 := cell_on r0 hb2; have s1 := cell_on r1 hb2; have s2 := cell_on r2 hb2; have s3 := cell_on r3 hb2
        have hB2 := Lib.hid (hBw.out.trans (hb2.mono hBw.out.size))
        have c3 := Lib.hid (cRef.out w2 _ (hTT.out.below hB2.out) (by omega) (by have := hm1.out; omega))
        replace hv7 := Lib.hid hv7; replace hb2 := Lib.hid hb2
        clear c2 cRef
        go_wp2_with fail
        refine c3.out.mono ?_
        rintro e w3 ⟨v9, rfl, hv9, hb3⟩
        obtain ⟨a9, c9, e9, _, _⟩ := hv9.shape
        rw [hN.out] at e9
        subst e9
        have h0c : (E != E) = false := by simp
        have hv7' := Lib.hid (hv7.out.below hb3)
        have cA := Lib.hid (alike_tw hv7'.out.twIn hv9.twIn)
        replace hv9 := Lib.hid hv9
        have hbw3 := Lib.hid (hb2.out.trans (hb3.mono hb2.out.size))
        have hsz23 := hb3.size
        replace hb3 := Lib.hid hb3
        clear c3 s0 s1 s2 s3
        go_wp2_with fail
        refine cA.out.mono ?_
        rintro e w4 ⟨rfl, hb4⟩
        have hv7b := Lib.hid (hv7'.out.below hb4)
        have hv9b := Lib.hid (hv9.out.below hb4)
        have hbw4 := Lib.hid (hbw3.out.trans (hb4.mono hbw3.out.size))
        clear cA
        go_wp2_with fail
        clear hv7' hv9 hbw3
        have hs4 := hb4.size
        replace hb4 := Lib.hid hb4
        -- the trees that were copied are the ones that came
        go_loopw [11] (fun t11 wr => ∃ k : Nat, k ≤ i ∧ t11 = .int .i64 k ∧ Hid (Below w4.heap.size w4 wr)) (fun t11 _ => i - (intOf t11).toNat)
        case atStart => exact ⟨0, by omega, by go_num, Lib.hid (Below.refl _ _)⟩
        case round =>
          obtain ⟨k, hk, rfl, hB⟩ := hrel
          rcases Nat.lt_or_ge k i with hlt | hge
          · have hlti2 : (k : Int) < (i : Int) := by omega
            have hip : k < ps.length := by rw [hn.out]; exact hlt
            obtain ⟨a', cap', e', _, _, h3⟩ := ((hC.out.below hbw4.out).below hB.out)
            injection e' with e1 e2 e3
            subst e1 e3
            obtain ⟨g4, o4, rfl, hg4, hc4⟩ := h3 (by omega)
            obtain ⟨u4, hu4, hTu4⟩ := hc4 k hip
            obtain ⟨a', cap', e', _, _, h3'⟩ := (((hTT.out.below hBw.out).below hbw4.out).below hB.out)
            injection e' with e1 e2' e3
            subst e1 e3
            obtain ⟨g5, o5, rfl, hg5, hc5⟩ := h3' (by omega)
            obtain ⟨u5, hu5, hTu5⟩ := hc5 k hip
            have x4 := fun z => below_cell (n := z) hu4
            have x5 := fun z => below_cell (n := z) hu5
            have cA := Lib.hid (fun z => alike_quiet (w := wr.drewN z) (hTu4.below (below_drewN (Below.refl _ _) z)) (hTu5.below (below_drewN (Below.refl _ _) z)))
            clear h3 hc4 h3' hc5 hu4 hu5 e2 e2'
            go_wp2_with fail
            go_quiet ((go_at_call 12; exact Calls.quiet_of (cA.out _)))
            go_wp2_with fail
            go_roundw
            case rel => exact ⟨k + 1, by omega, by go_num, Lib.hid (below_drewN hB.out _)⟩
            case measure => simp [intOf]; omega
          · obtain rfl : k = i := by omega
            have hv7c := Lib.hid (hv7b.out.below hB.out)
            have hv9c := Lib.hid (hv9b.out.below hB.out)
            have hbw5 := Lib.hid (hbw4.out.trans (hB.out.mono (by have := hbw4.out.size; omega)))
            have hs5 := hB.out.size
            have hg79 : ∀ z, (Value.slice a7 N c7).ownBlock = some z → wA.heap.size ≤ z ∧ z < w2.heap.size := by
              intro z hz
              exact ⟨(own_type hv7.out hz).1, (World.ownsRow.lt hv7.out z hz).2⟩
            have hg9 : ∀ z, (Value.slice a9 N c9).ownBlock = some z → w2.heap.size ≤ z := fun z hz => (own_type hv9b.out hz).1
            replace hg79 := Lib.hid hg79; replace hg9 := Lib.hid hg9
            clear hv7b hv9b hbw4 hB hv7
            go_wp2_with fail
            generalize wr = w6 at *
            have hNl : ML.length = N := hN.out
            go_loopw [12] (fun t12 wr => ∃ j : Nat, j ≤ N ∧ t12 = .int .i64 j ∧ Hid (∃ L : List Tw, L.length = N ∧ TwsAt wr wA.heap.size (.slice a7 N c7) L) ∧ Hid (Only (fun z => (Value.slice a7 N c7).ownBlock = some z) w6 wr)) (fun t12 _ => N - (intOf t12).toNat)
            case atStart => exact ⟨0, by omega, by go_num, Lib.hid ⟨ML, hNl, hv7c.out⟩, Lib.hid (Only.refl _ _)⟩
            case round =>
              clear hv7c
              obtain ⟨j, hj, rfl, hL, hO⟩ := hrel
              rcases Nat.lt_or_ge j N with hlt | hge
              · have hltj : (j : Int) < (N : Int) := by omega
                obtain ⟨L, hLN, hLT⟩ := hL.out
                obtain ⟨g7, c7', e7, _, _, _, _⟩ := hLT.owned (by omega)
                rw [hLN] at e7
                injection e7 with e7 _ e8
                subst e7 e8
                obtain ⟨o0, k0, m0, x0, y0, y1, y2, y3, hfz⟩ := hLT.held hLN.symm hlt
                have f0 := hfz (j * 4); have f1 := hfz (j * 4 + 1); have f2 := hfz (j * 4 + 2); have f3 := hfz (j * 4 + 3)
                have hset := Lib.hid (hLT.set hLN.symm hlt 99 0 0 [])
                have hLs : (L.set j ⟨99, 0, 0, []⟩).length = N := by rw [List.length_set]; exact hLN
                replace hLs := Lib.hid hLs
                clear hfz hL hLT
                go_wp2_with fail
                go_roundw
                case rel => exact ⟨j + 1, by omega, by go_num, Lib.hid ⟨_, hLs.out, hset.out.1⟩, Lib.hid (hO.out.then (hset.out.2.mono (fun z _ hz => by subst hz; rfl)))⟩
                case measure => simp [intOf]; omega
              · obtain rfl : j = N := by omega
                have hltj : ¬ ((j : Int) < (j : Int)) := by omega
                have hbL := Lib.hid (hO.out.below (B := wA.heap.size) (by have := hbw5.out.size; omega) (fun z hz hz2 => by have := (hg79.out z hz2).1; omega))
                have hv9d := Lib.hid (show TwsAt wr w2.heap.size (.slice a9 j c9) ML from ownsRow_only hv9c.out hO.out (fun z hz hz2 => by have h1 := (hg79.out z hz2).2; have h2 := hg9.out z hz; omega))
                have hb6 := Lib.hid (hbw5.out.trans hbL.out)
                have u0 := cell_on r0 hb6.out; have u1 := cell_on r1 hb6.out; have u2 := cell_on r2 hb6.out; have u3 := cell_on r3 hb6.out
                have c5 := Lib.hid (cMake.out wr _ (hC.out.below hb6.out) (by omega) (by have := hm1.out; omega))
                have hB6 := Lib.hid (hBw.out.trans (hb6.out.mono hBw.out.size))
                clear hv9c hO hL hbL cMake r0 r1 r2 r3
                go_wp2_with fail
                refine c5.out.mono ?_
                rintro e w8 ⟨v8, rfl, hv8, hb8⟩
                obtain ⟨a8, c8, e8, _, _⟩ := hv8.shape
                rw [hNl] at e8
                subst e8
                have cA := Lib.hid (alike_tw hv8.twIn (hv9d.out.below hb8).twIn)
                have hB8 := Lib.hid (hB6.out.trans (hb8.mono hB6.out.size))
                replace hv8 := Lib.hid hv8
                clear c5 u0 u1 u2 u3
                go_wp2_with fail
                refine cA.out.mono ?_
                rintro e w9 ⟨rfl, hb9⟩
                have hB9 := Lib.hid (hB8.out.trans (hb9.mono hB8.out.size))
                go_wp2_with fail
                refine (hWk.out _).mono ?_
                rintro e w10 ⟨rfl, hb10⟩
                go_wp2_with fail
                go_ret
                exact ⟨rfl, hB9.out.trans (hb10.mono hB9.out.size)⟩
  · go_wp2_with fail
    refine (hWk.out _).mono ?_
    rintro e w3 ⟨rfl, hb3⟩
    go_wp2_with fail
    go_ret
    exact ⟨rfl, hz0.out.trans (hb3.mono hz0.out.size)⟩
end Go.Proofs.Ythgkkdhalcpgbaa
