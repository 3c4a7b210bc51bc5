/- The document's Parts (layer 8), walked. No condition. -/
import Derived.Test.YthgkkdhalcpgbaaRKids
import Derived.Test.YthgkkdhalcpgbaaRDMake
import Derived.Deep.RegionLaw
import Derived.Deep.AppendLies
namespace Go.Proofs.Ythgkkdhalcpgbaa
open Go.RowKit Go.Shelf

set_option maxRecDepth 20000 in
theorem refParts_bad {v : Value} {ts : List Tw} (w : World) (hT : TwIn w v ts) (hf : ∀ x ∈ ts, FitT x) {E : Int} (h : (lookF ts).2.2 = E) (h0 : E ≠ 0) :
    Calls Try.prog 11 #[v] w fun e w' => e = .returned (.tuple #[.slice none 0 0, .int .i64 E]) ∧ Below w.heap.size w w' := by
  have hc := fun W (hT : TwIn W v ts) => refCheck_e W hT hf h
  replace hc := Lib.hid hc
  replace hf := Lib.hid hf
  have h0b : (E != 0) = true := by simpa using h0
  have hTT := Lib.hid hT
  obtain ⟨a, cap, rfl, _, _, _⟩ := hT
  clear h
  go_enter Try.func11, Try.ntmps11
  go_wp2_with fail
  refine (hc.out _ hTT.out).mono ?_
  rintro e w1 ⟨k, rfl, hb⟩
  go_wp2_with fail
  go_ret2
  exact ⟨rfl, hb⟩
/-- A piece of a list of twigs, from one place to another. -/
theorem run_piece (g off n l h cap : Nat) (hlh : l < h) (hhn : h ≤ n) (hm : n ≤ cap) : ∀ W, (Instr.slice 23 (.slice (some ⟨g, off, none⟩) n cap) (some (.int .i64 (l : Int))) (some (.int .i64 (h : Int))) none).run Try.prog W = .ok (.slice (some ⟨g, off + l * 4, none⟩) (h - l) (cap - l)) W := by
  intro W
  rw [run_slice_lh (P := Try.prog) (w := W) 23 (some ⟨g, off, none⟩) n cap Try.underlying23 .i64 .i64 (l : Int) (h : Int) (by omega) (by omega) (by omega)]
  obtain ⟨i0, hi, _, hz1, _⟩ := tw_parts
  have he : Try.prog.elem 23 = 32 := by kernel_rfl
  have hs : (sizeOf (Try.prog.elem 23)).run Try.prog W = .ok 4 W := by rw [he]; simp [sizeOf, typeInfo, hi, hz1, Sem.run_bind, Result.andThen]
  rw [hs]
  simp only [Result.andThen, sliced, Int.toNat_natCast]
  rw [if_neg (by omega)]
  simp [Addr.add]
/-- The twigs of a part, as a piece of the whole. -/
theorem piece_in {w : World} {g off n cap : Nat} {x : Tw} {ps : List (List Tw)} (hT : TwIn w (.slice (some ⟨g, off, none⟩) n cap) (x :: ps.flatten)) (hn : n = (x :: ps.flatten).length) {i : Nat} (hi : i < ps.length) :
    TwIn w (.slice (some ⟨g, off + offP ps i * 4, none⟩) (ps.getD i []).length (cap - offP ps i)) (ps.getD i []) := by
  subst hn
  have e : x :: ps.flatten = (x :: (ps.take i).flatten) ++ (ps.getD i [] ++ (ps.drop (i + 1)).flatten) := by
    conv => lhs; rw [← List.take_append_drop i ps]
    rw [List.flatten_append, List.drop_eq_getElem_cons hi, List.flatten_cons, List.getD_eq_getElem?_getD, List.getElem?_eq_getElem hi]
    rfl
  have eo : offP ps i = (x :: (ps.take i).flatten).length := by unfold offP; rw [List.length_cons]; omega
  rw [eo]
  rw [e] at hT
  have h1 := TwIn.tail hT rfl rfl rfl (.inr rfl)
  exact TwIn.head h1 rfl
theorem tw_news {w : World} {ad : Addr} {n c : Nat} {us : List Tw} (hu : TwIn w (.slice (some ad) n c) us) (hn : n = us.length) (j : Nat) (u : Value) (h : (rowOf twC us)[j]? = some u) : w.cell? (ad.add j) = some u := by
  subst hn
  obtain ⟨a, cap, e, h1, h2, h3⟩ := hu
  have hj : j < us.length * 4 := by rw [← rowOf_length twC_len us]; exact (List.getElem?_eq_some_iff.1 h).1
  obtain ⟨g, off, e2, hg, hc⟩ := h3 (by omega)
  injection e with e _ _
  rw [← e] at e2
  injection e2 with e2
  subst e2
  have q := hc (j / 4) (by omega) (j % 4) (by omega)
  have r := rowOf_get twC_len us (j / 4) (j % 4) (by omega) (by omega)
  rw [show j / 4 * 4 + j % 4 = j by omega] at r
  have e3 : (⟨g, off, none⟩ : Addr).add j = ⟨g, off + j, none⟩ := by simp [Addr.add]
  have e4 : off + j = off + j / 4 * 4 + j % 4 := by omega
  rw [e3, e4, q, ← r]
  exact h
theorem trs_grown {w w' : World} {base : Nat} {v v' u : Value} {ps : List (List Tw)} {q : List Tw} {vs : List Value} (g1 : vs.length = ps.length) (g2 : w.ownsRow base 23 1 v ps.length vs) (g3 : ∀ i, i < ps.length → ∃ u, vs[i]? = some u ∧ TwsAt w base u (ps.getD i [])) (hu : TwsAt w base u q)
    (h2 : w'.ownsRow base 23 1 v' (ps.length + 1) (vs ++ [u])) (h3 : w.grownBy w' v.ownBlock) : Trs w' base v' (ps ++ [q]) := by
  have hO : Only (fun k => v.ownBlock = some k) w w' := Only.of_grown h3 (fun k hk => hk)
  have hlen : vs.length = ps.length := g1
  refine ⟨vs ++ [u], by simp [g1], by rw [List.length_append]; exact h2, fun i hi => ?_⟩
  rw [List.length_append, List.length_singleton] at hi
  rcases Nat.lt_or_ge i ps.length with hlt | hge
  · obtain ⟨y, hy, hB⟩ := g3 i hlt
    refine ⟨y, by rw [List.getElem?_append_left (by omega)]; exact hy, ?_⟩
    have e : (ps ++ [q]).getD i [] = ps.getD i [] := by rw [List.getD_eq_getElem?_getD, List.getD_eq_getElem?_getD, List.getElem?_append_left hlt]
    rw [e]
    exact ownsRow_only hB hO (own_apart hB g2 (by decide))
  · obtain rfl : i = ps.length := by omega
    refine ⟨u, by rw [← g1, List.getElem?_append_right (Nat.le_refl _)]; simp, ?_⟩
    have e : (ps ++ [q]).getD ps.length [] = q := by rw [List.getD_eq_getElem?_getD, List.getElem?_append_right (Nat.le_refl _)]; simp
    rw [e]
    exact ownsRow_only hu hO (own_apart hu g2 (by decide))
theorem trs_base {w : World} {b c : Nat} {v : Value} {ps : List (List Tw)} (h : Trs w b v ps) (hc : c ≤ b) : Trs w c v ps := by
  obtain ⟨vs, h1, h2, h3⟩ := h
  refine ⟨vs, h1, ownsRow_base h2 (fun g hg => by have := (own_type h2 hg).1; omega), fun i hi => ?_⟩
  obtain ⟨u, hu, hB⟩ := h3 i hi
  exact ⟨u, hu, hB.base hc⟩
theorem drew_grown {W w2 : World} {row : Option Nat} {o : Obj} (hg : (W.alloc o).drew.grownBy w2 row) (hr : ∀ k, row = some k → W.heap.size ≤ k) : Below W.heap.size W w2 :=
  (((Below.refl _ W).alloc (Nat.le_refl _) o).drew).grown hg (by show W.heap.size ≤ (W.alloc o).heap.size; rw [World.size_alloc]; omega) hr
theorem below_up {W w2 : World} {o : Obj} {b : Nat} (hg : (W.alloc o).drew.grownBy w2 (Value.slice (some ⟨W.heap.size, 0, none⟩) 0 b).ownBlock) (p : Obj) : Below W.heap.size W (w2.alloc p) := by
  have h := drew_grown hg (fun k hk => by have e : W.heap.size = k := Option.some.inj hk; omega)
  exact h.alloc h.size p
theorem one_news (w : World) (v : Value) (t : TypeId) (j : Nat) (u : Value) (h : [v][j]? = some u) : (w.alloc (.cells #[v] t)).cell? ((⟨w.heap.size, 0, none⟩ : Addr).add j) = some u := by
  match j, h with
  | 0, h =>
    simp at h
    subst h
    exact one_cell w #[v] t 0
theorem one_up (W : World) (o : Obj) : W.heap.size ≤ (W.alloc o).drew.heap.size := by
  show W.heap.size ≤ (W.alloc o).heap.size
  rw [World.size_alloc]
  omega
set_option maxRecDepth 20000 in
set_option maxHeartbeats 4000000 in
theorem refParts_ok {v : Value} {x : Tw} {ps : List (List Tw)} (w : World) (hT : TwIn w v (x :: ps.flatten)) (hf : ∀ y ∈ x :: ps.flatten, FitT y) (h : Ok (x :: ps.flatten)) (hx : x.kids = (ps.length : Int)) (hok : ∀ p ∈ ps, Ok p) (hpl : ps.length ≤ 2048) :
    Calls Try.prog 11 #[v] w fun e w' => ∃ v', e = .returned (.tuple #[v', .int .i64 0]) ∧ Trs w' w.heap.size v' ps ∧ Below w.heap.size w w' := by
  have hE := fun W (hT : TwIn W v (x :: ps.flatten)) i hi => refEnd_part W hT h hok (i := i) hi
  have cC := fun W (hT : TwIn W v (x :: ps.flatten)) => refCheck_e W hT hf (E := 0) h
  have cK := fun W (hT : TwIn W v (x :: ps.flatten)) => refKids_any W hT h hx hok hpl
  have hl := ((ok_iff _).1 h).2
  have hof := offP_le ps
  have hp0 : ∀ i, i < ps.length → 0 < (ps.getD i []).length := fun i hi => ((ok_iff _).1 (hok _ (getD_mem hi))).1.1
  have hTT := Lib.hid hT
  obtain ⟨a, cap, rfl, hlc, hcm, h3⟩ := hT
  obtain ⟨g, off, rfl, hg, hcell⟩ := h3 (by simp)
  have hfl : ps.flatten.length ≤ 2047 := by rw [List.length_cons] at hl; omega
  have hPi := fun W (hT : TwIn W (.slice (some ⟨g, off, none⟩) (x :: ps.flatten).length cap) (x :: ps.flatten)) i hi => piece_in (i := i) hT rfl hi
  have hNf : (x :: ps.flatten).length = 1 + ps.flatten.length := by rw [List.length_cons]; omega
  obtain ⟨N, hN⟩ := exHid ((x :: ps.flatten).length)
  rw [hN.out] at hTT hE cC cK hPi hNf hlc ⊢
  replace hE := Lib.hid hE; replace hof := Lib.hid hof; replace cC := Lib.hid cC; replace cK := Lib.hid cK; replace hPi := Lib.hid hPi; replace hp0 := Lib.hid hp0
  replace hf := Lib.hid hf
  obtain ⟨n, hn⟩ := exHid ps.length
  rw [hn.out] at hpl cK
  clear h3 hcell h hok hl
  replace hNf := Lib.hid hNf; replace hfl := Lib.hid hfl; replace hx := Lib.hid hx
  go_enter Try.func11, Try.ntmps11
  go_wp2_with fail
  refine (cC.out _ hTT.out).mono ?_
  rintro e w1 ⟨k, rfl, hb1⟩
  have cK1 := Lib.hid (cK.out w1 (hTT.out.below hb1))
  replace hb1 := Lib.hid hb1
  go_wp2_with fail
  refine cK1.out.mono ?_
  rintro e w2 ⟨vk, rfl, hKd, hb2⟩
  have hlr : ((List.range n).map (offP ps)).length = n := by simp
  obtain ⟨ak, ck, e2, _, _⟩ := hKd.shape
  rw [hlr] at e2
  subst e2
  have hB2 := Lib.hid (hb1.out.trans (hb2.mono hb1.out.size))
  replace hKd := Lib.hid hKd
  clear cC cK cK1 hb2
  go_wp2_with fail
  go_loopw [7, 8] (fun t7 t8 wr => ∃ i : Nat, i ≤ n ∧ t8 = .int .i64 i ∧ Hid (Trs wr w2.heap.size t7 (ps.take i)) ∧ Hid (Below w2.heap.size w2 wr)) (fun _ t8 _ => n - (intOf t8).toNat)
  case atStart => exact ⟨0, by omega, by go_num, Lib.hid ⟨[], rfl, ⟨rfl, .inl ⟨rfl, rfl⟩⟩, fun i hi => by simp at hi⟩, Lib.hid (Below.refl _ _)⟩
  case round =>
    obtain ⟨i, hin, rfl, hR, hB⟩ := hrel
    rcases Nat.lt_or_ge i n with hlt | hge
    · have hlti : (i : Int) < (n : Int) := by omega
      have hip : i < ps.length := by rw [hn.out]; exact hlt
      obtain ⟨gk, ck', ek, hgk1, hgk2, hkc⟩ := hKd.out.owned (by rw [hlr]; omega)
      rw [hlr] at ek
      injection ek with ek1 _ ek2
      subst ek1 ek2
      have hk0 := hkc i (by rw [hlr]; exact hlt)
      rw [List.getElem_map, List.getElem_range] at hk0
      have hli : (ps.take i).length = i := by rw [List.length_take]; omega
      obtain ⟨a7, c7, e7, _, _⟩ := hR.out.shape
      rw [hli] at e7
      subst e7
      have hos := offP_succ hip
      have hole := hof.out (i + 1)
      have hpp := hp0.out i hip
      have htk : ps.take (i + 1) = ps.take i ++ [ps.getD i []] := by
        rw [List.take_add_one, List.getD_eq_getElem?_getD, List.getElem?_eq_getElem hip]
        rfl
      have hBw := Lib.hid (hB2.out.trans (hB.out.mono hB2.out.size))
      have cE := fun W (hb : Below w.heap.size w W) => hE.out W (hTT.out.below hb) i hip
      have hPc := fun W (hb : Below w.heap.size w W) => hPi.out W (hTT.out.below hb) i hip
      generalize ps.getD i [] = p at *
      obtain ⟨o, ho⟩ := exHid (offP ps i)
      rw [ho.out] at hk0 hos cE hPc
      obtain ⟨pl, hpl2⟩ := exHid p.length
      rw [hpl2.out] at hpp hos hPc cE
      have hole2 : o + pl ≤ N := by have := hNf.out; omega
      have hsl := run_piece g off N o (o + pl) cap (by omega) hole2 hlc
      rw [show o + pl - o = pl by omega] at hsl
      have k1 := cell_on hk0 hB.out
      unfold natV at k1
      replace cE := Lib.hid cE; replace hPc := Lib.hid hPc; replace htk := Lib.hid htk; replace hos := Lib.hid hos
      clear hk0 hkc hole
      have hZ := (Below.refl wr.heap.size wr).alloc (Nat.le_refl _) (.cells #[] 32)
      have ca := Lib.hid (cE.out wr.drew hBw.out.drew)
      have cb := Lib.hid (cE.out (wr.alloc (.cells #[] 32)).drew (hBw.out.trans (hZ.mono hBw.out.size)).drew)
      have ka := k1
      have kb := cell_on k1 hZ
      replace hZ := Lib.hid hZ
      go_wp2_with fail
      obtain ⟨i0, hi, hz0, hz1, hz2⟩ := tw_parts
      obtain ⟨j0, hj, hy0, hy1, hy2⟩ := tr_parts
      obtain ⟨vs, r1, r2, r3⟩ := hR.out
      rw [hli] at r2
      have hpl9 : pl ≤ 2048 := by have h1 := hNf.out; have h2 := hfl.out; omega
      have hn1 : (0 : Int) ≤ (o : Int) + (pl : Int) := by omega
      have hn2 : (o : Int) + (pl : Int) ≤ (cap : Int) := by omega
      have hn3 : ((o : Int) + (pl : Int)).toNat = o + pl := by omega
      have hn4 : ¬ cap = o := by omega
      have hn5 : o ≤ o + pl := by omega
      have A0 := Lib.hid (show TwsAt (wr.alloc (.cells #[] 32)).drew wr.heap.size (.slice (some ⟨wr.heap.size, 0, none⟩) 0 0) [] from tws_new wr _ rfl)
      have A1 := Lib.hid (fun j u h => tw_news (hPc.out (wr.alloc (.cells #[] 32)).drew (hBw.out.trans ((hZ.out.drew).mono hBw.out.size))) hpl2.out.symm j u h)
      have A2 := Lib.hid (show (rowOf twC p).length = pl * 4 by rw [rowOf_length twC_len, hpl2.out])
      replace hsl := Lib.hid hsl
      replace r2 := Lib.hid r2; replace r3 := Lib.hid r3; replace r1 := Lib.hid r1
      go_region_law (first
          | (go_simp; go_at_call 26; (first | refine ca.out.mono ?_ | refine cb.out.mono ?_); rintro e w' ⟨rfl, rfl⟩)
          | (refine step_append_lies ((wr.alloc (.cells #[] 32)).drew) rfl (.tmp 26) (.tmp 38) 23 rfl wr.heap.size 32 i0 (.agg #[.int .u8 0, .int .i64 0, .int .i64 0, .string ⟨#[]⟩]) 4 40 Try.underlying23 hi hz0 hz1 hz2 rfl (by decide) _ 0 [] rfl A0.out ⟨g, off + o * 4, none⟩ pl (cap - o) (rowOf twC p) rfl A2.out A1.out (tws_one p) hpp (by unfold maxLen; omega) (by omega) (one_up _ _) _ rfl ?_; intro g2 cap2 w5 hown2 hgr2 hg2 hl2)
          | (have hX := Lib.hid (below_up hgr2 (.cells #[.slice (some ⟨g2, 0, none⟩) pl cap2] 23)); refine step_append_lies (w5.alloc (.cells #[.slice (some ⟨g2, 0, none⟩) pl cap2] 23)) rfl (.tmp 25) (.tmp 40) 26 rfl w2.heap.size 23 j0 (.slice none 0 0) 1 24 Try.underlying26 hj hy0 hy1 hy2 rfl (by decide) _ i vs rfl (ownsRow_only r2.out (Only.of_below hX.out) (fun _ _ h => h)) ⟨w5.heap.size, 0, none⟩ 1 1 [.slice (some ⟨g2, 0, none⟩) pl cap2] rfl rfl (fun j u h => one_news w5 _ _ j u h) (fun y hy => by simp at hy; subst hy; rfl) (by omega) (by unfold maxLen; omega) (by omega) (by have := hX.out.size; have := hB.out.size; omega) _ rfl ?_; intro g4 cap4 w6 hown4 hgr4 hg4 hl4))
      all_goals
        have hp5 := drew_grown hgr2 (fun k hk => by have e : wr.heap.size = k := Option.some.inj hk; omega)
        have hX := hp5.alloc hp5.size (.cells #[.slice (some ⟨g2, 0, none⟩) pl cap2] 23)
        have hBs := hB.out.size
        have hTp : TwsAt w5 w2.heap.size (.slice (some ⟨g2, 0, none⟩) pl cap2) p := by
          have h := hown2
          rw [Nat.zero_add, List.nil_append] at h
          have h2 : TwsAt w5 wr.heap.size (.slice (some ⟨g2, 0, none⟩) pl cap2) p := by unfold TwsAt; rw [hpl2.out]; exact h
          exact h2.base hBs
        have hT6 := trs_grown (ps := ps.take i) (q := p) r1.out (by rw [hli]; exact ownsRow_only r2.out (Only.of_below hX) (fun _ _ h => h)) (fun j hj => by
          obtain ⟨u, hu, hBu⟩ := r3.out j hj
          exact ⟨u, hu, hBu.below hX⟩) (hTp.below ((Below.refl _ w5).alloc (Nat.le_refl _) _)) (by rw [hli]; exact hown4) hgr4
        have hlo := World.ownsRow.lt r2.out
        have hB7 : Below w2.heap.size w2 w6 := by
          have h1 := hB.out.trans (hX.mono hBs)
          exact h1.grown hgr4 h1.size (fun k hk => (own_type r2.out hk).1)
        rw [← htk.out] at hT6
        replace hT6 := Lib.hid hT6; replace hB7 := Lib.hid hB7
        clear hown2 hgr2 hg2 hl2 hown4 hgr4 hg4 hl4 hp5 hX hTp hlo A0 A1 A2 ca cb r1 r2 r3 hR hB hBw
        go_wp2_with fail
        go_roundw
        case rel => exact ⟨i + 1, by omega, by go_num, hT6, hB7⟩
        case measure => simp [intOf]; omega
    · obtain rfl : i = n := by omega
      have hlti : ¬ ((i : Int) < (i : Int)) := by omega
      have hml : ps.take i = ps := List.take_of_length_le (by rw [hn.out]; omega)
      rw [hml] at hR
      obtain ⟨a7, c7, e7, _, _⟩ := hR.out.shape
      subst e7
      go_wp2_with fail
      go_ret2
      exact ⟨_, rfl, trs_base hR.out hB2.out.size, hB2.out.trans (hB.out.mono hB2.out.size)⟩
end Go.Proofs.Ythgkkdhalcpgbaa
