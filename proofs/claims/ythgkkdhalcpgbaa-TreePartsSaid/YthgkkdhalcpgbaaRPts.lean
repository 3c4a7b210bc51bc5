/- The law TreeParts, walked (layer 8). No condition. -/
import Derived.Test.YthgkkdhalcpgbaaRDPart
import Derived.Test.YthgkkdhalcpgbaaRTrd
import Derived.Test.YthgkkdhalcpgbaaRSet
import Derived.Test.YthgkkdhalcpgbaaROps
import Derived.Test.YthgkkdhalcpgbaaRAlike
import Derived.Test.YthgkkdhalcpgbaaRMany
import Derived.Test.YthgkkdhalcpgbaaROpen
namespace Go.Proofs.Ythgkkdhalcpgbaa
open Go.RowKit Go.Shelf

theorem len_flat1 {ps : List (List Tw)} {p : List Tw} (h : p ∈ ps) : p.length ≤ ps.flatten.length := by
  obtain ⟨a, b, rfl⟩ := List.append_of_mem h
  rw [List.flatten_append, List.flatten_cons]
  simp only [List.length_append]
  omega
/-- append(l, m...): at the operation; m lies behind an address; nothing else turns. -/
theorem wpList_append_twsO {w : World} {base : Nat} {v : Value} {ts us : List Tw} {ops : Array Oper} {rest : List Oper} {o : Oper} {a : Act} {Q : Exit → Act → World → Prop} (hgd : o.guard = none) (s x : Operand)
    (ho : o.op = .call { callee := .builtin .append, args := #[s, x], argTypes := #[23, 23] })
    (hs : a.eval s = v) (hown : TwsAt w base v ts) {ad : Addr} {m c : Nat} (hx : a.eval x = .slice (some ad) m c) (hu : TwIn w (.slice (some ad) m c) us) (hm : m = us.length)
    (hk : ts.length ≤ 1000000000) (hk2 : us.length ≤ 1000000000) (hbase : base ≤ w.heap.size)
    (h : ∀ a' cap w', TwsAt w' base (.slice a' (ts.length + us.length) cap) (ts ++ us) → Only (fun k => v.ownBlock = some k) w w' → wpList Try.prog ops Q rest (a.put o.dst (.slice a' (ts.length + us.length) cap)) w') : wpList Try.prog ops Q (o :: rest) a w := by
  obtain ⟨i0, hi, hz0, hz1, hz2⟩ := tw_parts
  refine wpList_append_own_at _ hgd s x 23 ho base 32 i0 (.agg #[.int .u8 0, .int .i64 0, .int .i64 0, .string ⟨#[]⟩]) 4 40 Try.underlying23 hi hz0 hz1 hz2 rfl (by decide) v ts.length (rowOf twC ts) hs hown ad m c (rowOf twC us) hx (by rw [hm]; exact rowOf_length twC_len us) (fun j u hj => tw_news hu hm j u hj) (tws_one us) (by unfold maxLen; omega) (by omega) hbase ?_
  intro v' w' h2 h3 _ _
  rw [← rowOf_append] at h2
  have h2' : TwsAt w' base v' (ts ++ us) := by
    unfold TwsAt
    rw [List.length_append, ← hm]
    exact h2
  obtain ⟨a', cap, e, _⟩ := h2'.shape
  rw [List.length_append] at e
  subst e
  exact h a' cap w' h2' (Only.of_grown h3 (fun k hk => hk))
/-- The list of which the first are written over: the others as they were, no two in one block, all below t. -/
def LeftAt (w : World) (b t : Nat) (v : Value) (ps : List (List Tw)) (i : Nat) : Prop :=
  ∃ vs : List Value, vs.length = ps.length ∧ w.ownsRow b 23 1 v ps.length vs ∧ (∀ j, i ≤ j → j < ps.length → ∃ u, vs[j]? = some u ∧ TwsAt w b u (ps.getD j []) ∧ ∀ g, u.ownBlock = some g → g < t) ∧
    (∀ (j k : Nat) (u x : Value), i ≤ j → j < k → vs[j]? = some u → vs[k]? = some x → ∀ g, u.ownBlock = some g → ¬ x.ownBlock = some g) ∧ ∀ g, v.ownBlock = some g → g < t
theorem TrsD.left {w : World} {b : Nat} {v : Value} {ps : List (List Tw)} (h : TrsD w b v ps) : LeftAt w b w.heap.size v ps 0 := by
  obtain ⟨vs, h1, h2, h3, h4⟩ := h
  refine ⟨vs, h1, h2, fun j _ hj => ?_, fun j k u x _ hjk hu hx => h4 j k u x hjk hu hx, fun g hg => (World.ownsRow.lt h2 g hg).2⟩
  obtain ⟨u, hu, hB⟩ := h3 j hj
  exact ⟨u, hu, hB, fun g hg => (World.ownsRow.lt hB g hg).2⟩
theorem LeftAt.below {w W : World} {b t i : Nat} {v : Value} {ps : List (List Tw)} (h : LeftAt w b t v ps i) (hb : Below w.heap.size w W) : LeftAt W b t v ps i := by
  obtain ⟨vs, h1, h2, h3, h4, h5⟩ := h
  refine ⟨vs, h1, ownsRow_only (F := fun _ => False) h2 (Only.of_below hb) (fun _ _ h => h), fun j hij hj => ?_, h4, h5⟩
  obtain ⟨u, hu, hB, hl⟩ := h3 j hij hj
  exact ⟨u, hu, hB.below hb, hl⟩
theorem Trs.only {F : Nat → Prop} {w W : World} {b : Nat} {v : Value} {ps : List (List Tw)} (h : Trs w b v ps) (ho : Only F w W) (hF : ∀ g, b ≤ g → ¬ F g) : Trs W b v ps := by
  obtain ⟨vs, h1, h2, h3⟩ := h
  refine ⟨vs, h1, ownsRow_only h2 ho (fun g hg => hF g (own_type h2 hg).1), fun i hi => ?_⟩
  obtain ⟨u, hu, hB⟩ := h3 i hi
  exact ⟨u, hu, ownsRow_only hB ho (fun g hg => hF g (own_type hB hg).1)⟩
/-- The next one of the list: where it lies; and the list behind it, when it alone has turned and its own place in the list. -/
theorem LeftAt.next {w : World} {b t i n c : Nat} {ad : Option Addr} {ps : List (List Tw)} (h : LeftAt w b t (.slice ad n c) ps i) (hn : n = ps.length) (hi : i < n) (h0 : 0 < (ps.getD i []).length) :
    ∃ gl g cg, ad = some ⟨gl, 0, none⟩ ∧ b ≤ gl ∧ gl < t ∧ b ≤ g ∧ g < t ∧ gl ≠ g ∧ (ps.getD i []).length ≤ cg ∧ cg ≤ 9223372036854775807 ∧ w.cell? ⟨gl, i, none⟩ = some (.slice (some ⟨g, 0, none⟩) (ps.getD i []).length cg) ∧ w.frozen? ⟨gl, i, none⟩ = false ∧
      TwsAt w g (.slice (some ⟨g, 0, none⟩) (ps.getD i []).length cg) (ps.getD i []) ∧
      (∀ (W : World) (a' : Option Addr) (n' c' : Nat), Only (fun k => k = g) w W → W.cell? ⟨gl, i, none⟩ = some (.slice (some ⟨g, 0, none⟩) (ps.getD i []).length cg) ∧ W.frozen? ⟨gl, i, none⟩ = false ∧ LeftAt (W.setCell ⟨gl, i, none⟩ (.slice a' n' c')) b t (.slice ad n c) ps (i + 1)) := by
  subst hn
  obtain ⟨vs, h1, h2, h3, h4, h5⟩ := h
  obtain ⟨u, hu, hT, hut⟩ := h3 i (Nat.le_refl _) hi
  obtain ⟨g, cg, rfl, hg1, hg2, hg3, hg4⟩ := hT.owned h0
  obtain ⟨gl, cl, e, hl1, hl2, _, _, _⟩ := ownsRow_head h2 (by omega)
  injection e with e e2 e3
  subst e e3
  have hne : gl ≠ g := fun e => by
    subst e
    exact own_apart hT h2 (by decide) gl rfl rfl
  have hc : w.cell? ⟨gl, i, none⟩ = vs[i]? := by
    have := World.ownsRow.cellAt (g := gl) (cap := c) h2 i (by omega)
    exact this
  refine ⟨gl, g, cg, rfl, hl1, h5 gl rfl, hg1, hut g rfl, hne, hg3, hg4, hc.trans hu, World.ownsRow.frozenAt (n := ps.length) h2 i, ownsRow_base hT (fun k hk => by have e : g = k := Option.some.inj hk; omega), fun W a' n' c' ho => ?_⟩
  have hr := ownsRow_only h2 ho (fun k hk e => hne ((Option.some.inj hk).trans e))
  have hcW : W.cell? ⟨gl, i, none⟩ = vs[i]? := by
    have := World.ownsRow.cellAt (g := gl) (cap := c) hr i (by omega)
    exact this
  refine ⟨hcW.trans hu, World.ownsRow.frozenAt (n := ps.length) hr i, ?_⟩
  have hst := (World.ownsRow.stored hr i (.slice a' n' c')).1
  have hO2 : Only (fun k => k = gl) W (W.setCell ⟨gl, i, none⟩ (.slice a' n' c')) := (Only.refl (fun k => k = gl) W).setCell (p := ⟨gl, i, none⟩) (.inl rfl) _
  refine ⟨vs.set i (.slice a' n' c'), by rw [List.length_set]; exact h1, by simpa using hst, fun j hij hj => ?_, fun j k y z hij hjk hy hz => ?_, h5⟩
  · obtain ⟨y, hy, hB, hyl⟩ := h3 j (by omega) hj
    refine ⟨y, by rw [List.getElem?_set_ne (by omega)]; exact hy, ?_, hyl⟩
    have a1 : TwsAt W b y (ps.getD j []) := ownsRow_only hB ho (fun k hk e => h4 i j _ y (Nat.le_refl _) (by omega) hu hy g rfl (by rw [hk, e]))
    exact ownsRow_only a1 hO2 (fun k hk e => by
      subst e
      exact own_apart a1 hr (by decide) k hk rfl)
  · rw [List.getElem?_set_ne (by omega)] at hy hz
    exact h4 j k y z (by omega) hjk hy hz
/-- Two small twigs, new. -/
theorem two_news (w : World) : TwIn (w.alloc (.cells #[.int .u8 98, .int .i64 0, .int .i64 0, .string ⟨#[]⟩, .int .u8 98, .int .i64 0, .int .i64 0, .string ⟨#[]⟩] 32)) (.slice (some ⟨w.heap.size, 0, none⟩) 2 2) [⟨98, 0, 0, []⟩, ⟨98, 0, 0, []⟩] := by
  refine ⟨_, 2, rfl, Nat.le_refl _, by omega, fun _ => ⟨w.heap.size, 0, rfl, by simp, fun i hi c hc => ?_⟩⟩
  rw [one_cell]
  simp only [List.length_cons, List.length_nil] at hi
  rcases (show i = 0 ∨ i = 1 by omega) with rfl | rfl
  · rcases (show c = 0 ∨ c = 1 ∨ c = 2 ∨ c = 3 by omega) with rfl | rfl | rfl | rfl <;> rfl
  · rcases (show c = 0 ∨ c = 1 ∨ c = 2 ∨ c = 3 by omega) with rfl | rfl | rfl | rfl <;> rfl
theorem parts_both {ts : List Tw} (hf : ∀ x ∈ ts, FitT x) {E : Int} (hE : (lookF ts).2.2 = E) : ∃ ps : List (List Tw), (∀ p ∈ ps, Ok p) ∧ ps.length ≤ 2048 ∧ ps.flatten.length ≤ 2048 ∧
    (∀ W u, TwIn W u ts → Calls Try.prog 10 #[u] W fun e w' => ∃ v', e = .returned (.tuple #[v', .int .i64 E]) ∧ TrsD w' W.heap.size v' ps ∧ Below W.heap.size W w') ∧
    (∀ W u, TwIn W u ts → Calls Try.prog 11 #[u] W fun e w' => ∃ v', e = .returned (.tuple #[v', .int .i64 E]) ∧ Trs w' W.heap.size v' ps ∧ Below W.heap.size W w') := by
  by_cases h0 : E = 0
  · subst h0
    obtain ⟨x, ps, rfl, hx, hpo, _, hpl, hl⟩ := ok_parts (show Ok ts from hE)
    rw [List.length_cons] at hl
    exact ⟨ps, hpo, hpl, by omega, fun W u hT => Parts_okD W hT hf hE hx hpo hpl, fun W u hT => refParts_ok W hT hf hE hx hpo hpl⟩
  · refine ⟨[], fun p hp => (by cases hp), Nat.zero_le _, Nat.zero_le _, fun W u hT => (Parts_bad W hT hf hE h0).mono ?_, fun W u hT => (refParts_bad W hT hf hE h0).mono ?_⟩
    · rintro e w' ⟨rfl, hb⟩
      exact ⟨_, rfl, ⟨[], rfl, ⟨rfl, .inl ⟨rfl, rfl⟩⟩, fun i hi => (by simp at hi), fun i j u x _ h => (by simp at h)⟩, hb⟩
    · rintro e w' ⟨rfl, hb⟩
      exact ⟨_, rfl, ⟨[], rfl, ⟨rfl, .inl ⟨rfl, rfl⟩⟩, fun i hi => (by simp at hi)⟩, hb⟩
set_option maxRecDepth 20000 in
set_option maxHeartbeats 4000000 in
theorem treeParts_walk (v : Value) (w : World) (h : TwsIn w v) :
    Calls Try.prog 3 #[v] w fun e w' => e = .returned (.bool true) ∧ Below w.heap.size w w' := by
  obtain ⟨ts, hT, hf, _⟩ := h
  have hWk := Lib.hid wakes_any
  have hTT := Lib.hid hT
  obtain ⟨E, hE⟩ := exHid (lookF ts).2.2
  obtain ⟨ps, hpo, hpl, hfl, cP, cR⟩ := parts_both hf hE.out
  obtain ⟨a, cap, rfl, hlc, hcm, h3⟩ := hT
  obtain ⟨N, hN⟩ := exHid ts.length
  obtain ⟨n, hn⟩ := exHid ps.length
  have hp0 := Lib.hid (fun i (hi : i < ps.length) => ((ok_iff _).1 (hpo _ (getD_mem hi))).1.1)
  have hpl2 := Lib.hid (fun i (hi : i < ps.length) => Nat.le_trans (len_flat1 (getD_mem hi)) hfl)
  rw [hN.out] at hTT ⊢
  rw [hn.out] at hpl
  replace cP := Lib.hid cP; replace cR := Lib.hid cR
  replace hf := Lib.hid hf; replace hpo := Lib.hid hpo; replace hfl := Lib.hid hfl
  clear h3 hlc
  by_cases h5 : 5000 < N
  · have h5i : (5000 : Int) < (N : Int) := by omega
    go_enter Try.func3, Try.ntmps3
    go_wp2_with fail
    refine (hWk.out _).mono ?_
    rintro e w2 ⟨rfl, hb⟩
    go_wp2_with fail
    go_ret
    exact ⟨rfl, hb⟩
  · have h5i : ¬ (5000 : Int) < (N : Int) := by omega
    have h0c : (E != E) = false := by simp
    have h0n : ((n : Int) != (n : Int)) = false := by simp
    have cC := Lib.hid (Copied_any hTT.out (by rw [hN.out]; omega))
    go_enter Try.func3, Try.ntmps3
    go_wp2_with fail
    refine cC.out.mono ?_
    rintro e w1 ⟨v3, rfl, hv3, hb1⟩
    obtain ⟨a3, c3, e3, _, _⟩ := hv3.shape
    rw [hN.out] at e3
    subst e3
    have hc1 := Lib.hid hv3.twIn
    have hcP := Lib.hid (cP.out w1 _ hv3.twIn)
    replace hb1 := Lib.hid hb1
    clear hv3 cC
    go_wp2_with fail
    refine hcP.out.mono ?_
    rintro e w2 ⟨v4, rfl, hv4, hb2⟩
    obtain ⟨a4, c4, e4, _, _⟩ := hv4.shape
    rw [hn.out] at e4
    subst e4
    have hB2 := Lib.hid (hb1.out.trans (hb2.mono hb1.out.size))
    have hcR := Lib.hid (cR.out w2 _ (hTT.out.below hB2.out))
    replace hv4 := Lib.hid hv4; replace hb2 := Lib.hid hb2
    clear hcP cR
    go_wp2_with fail
    refine hcR.out.mono ?_
    rintro e w3 ⟨v6, rfl, hv6, hb3⟩
    obtain ⟨a6, c6, e6, _, _⟩ := hv6.shape
    rw [hn.out] at e6
    subst e6
    have hB3 := Lib.hid (hB2.out.trans (hb3.mono hB2.out.size))
    have hL3 := Lib.hid (hv4.out.left.below hb3)
    have hc3 := Lib.hid ((hc1.out.below hb2.out).below hb3)
    have hs12 := hb2.out.size
    have hs23 := hb3.size
    replace hv6 := Lib.hid hv6; replace hb3 := Lib.hid hb3
    clear hcR
    go_wp2_with fail
    have hb12 := hb2
    clear hv4 hb2
    go_loopw [8] (fun t8 wr => ∃ i : Nat, i ≤ n ∧ t8 = .int .i64 i ∧ Hid (LeftAt wr w1.heap.size w2.heap.size (.slice a4 n c4) ps i) ∧ Hid (Only (fun z => w1.heap.size ≤ z ∧ z < w2.heap.size) w3 wr)) (fun t8 _ => n - (intOf t8).toNat)
    case atStart => exact ⟨0, by omega, by go_num, hL3, Lib.hid (Only.refl _ _)⟩
    case round =>
      clear hL3
      obtain ⟨i, hi, rfl, hL, hO⟩ := hrel
      rcases Nat.lt_or_ge i n with hlt | hge
      · have hlti : (i : Int) < (n : Int) := by omega
        have hip : i < ps.length := by rw [hn.out]; exact hlt
        obtain ⟨gl, g, cg, hal, hl1, hl2, hg1, hg2, hne, hcg, hcgm, hcl, hfz, hTg, hnext⟩ := hL.out.next hn.out.symm hlt (hp0.out i hip)
        subst hal
        obtain ⟨a', cap', e', _, _, h3⟩ := (hv6.out.only hO.out (fun z hz hF => by omega)).trsIn
        injection e' with e1 e2 e3
        subst e1 e3
        obtain ⟨g6, o6, rfl, hg6, hc6⟩ := h3 (by omega)
        obtain ⟨u6, hu6, hTu6⟩ := hc6 i hip
        have x4 := fun z => below_cell (n := z) hcl
        have x6 := fun z => below_cell (n := z) hu6
        have hlp := hpl2.out i hip
        have hpp := hp0.out i hip
        generalize ps.getD i [] = p at *
        have cA := Lib.hid (fun z => alike_quiet (w := wr.drewN z) (hTg.twIn.below (below_drewN (Below.refl _ _) z)) (hTu6.below (below_drewN (Below.refl _ _) z)))
        obtain ⟨pl, hpl3⟩ := exHid p.length
        have hTg' := fun z => Lib.hid (hTg.below (below_drewN (Below.refl _ wr) z))
        have hO' := fun z => Lib.hid (hO.out.then (Only.of_below (below_drewN (Below.refl _ wr) z)))
        have hnx := fun z => Lib.hid (fun (W : World) (a' : Option Addr) (n' c' : Nat) (ho : Only (fun k => k = g) (wr.drewN z) W) => hnext W a' n' c' ⟨ho.os, ho.tape, ho.output, ho.size, ho.block⟩)
        rw [hpl3.out] at hcg hlp hpp x4 hTg' hnx cA
        clear hnext hcl hu6 hTu6 hc6 h3 hL hO e2 hTg
        go_wp2_with fail
        go_quiet ((go_at_call 12; exact Calls.quiet_of (cA.out _)))
        go_wp2_with fail
        have hTg := hTg' nq; have hO := hO' nq; have hnext := hnx nq
        clear x4 x6 cA hTg' hO' hnx
        generalize wr.drewN nq = wA at *
        go_loopw [9] (fun t9 wr => ∃ k : Nat, k ≤ pl ∧ t9 = .int .i64 k ∧ Hid (∃ L : List Tw, L.length = pl ∧ TwsAt wr g (.slice (some ⟨g, 0, none⟩) pl cg) L) ∧ Hid (Only (fun z => z = g) wA wr)) (fun t9 _ => pl - (intOf t9).toNat)
        case atStart => exact ⟨0, by omega, by go_num, Lib.hid ⟨p, hpl3.out, hTg.out⟩, Lib.hid (Only.refl _ _)⟩
        case round =>
          clear hTg
          obtain ⟨k, hk, rfl, hLL, hOg⟩ := hrel
          obtain ⟨L, hLN, hLT⟩ := hLL.out
          obtain ⟨z1, z2, _⟩ := hnext.out wr none 0 0 hOg.out
          rcases Nat.lt_or_ge k pl with hlt2 | hge2
          · have hltk : (k : Int) < (pl : Int) := by omega
            obtain ⟨o0, k0, m0, x0, y0, y1, y2, y3, hfz2⟩ := hLT.held hLN.symm hlt2
            have f0 := hfz2 (k * 4); have f1 := hfz2 (k * 4 + 1); have f2 := hfz2 (k * 4 + 2); have f3 := hfz2 (k * 4 + 3)
            have hset := Lib.hid (hLT.set hLN.symm hlt2 99 0 0 [])
            have hLs : (L.set k ⟨99, 0, 0, []⟩).length = pl := by rw [List.length_set]; exact hLN
            replace hLs := Lib.hid hLs
            clear hfz2 hLL hLT
            go_wp2_with fail
            go_roundw
            case rel => exact ⟨k + 1, by omega, by go_num, Lib.hid ⟨_, hLs.out, hset.out.1⟩, Lib.hid (hOg.out.then hset.out.2)⟩
            case measure => simp [intOf]; omega
          · obtain rfl : k = pl := by omega
            have hltk : ¬ ((k : Int) < (k : Int)) := by omega
            have hal2 := (Below.refl wr.heap.size wr).alloc (Nat.le_refl _) (.cells #[.int .u8 98, .int .i64 0, .int .i64 0, .string ⟨#[]⟩, .int .u8 98, .int .i64 0, .int .i64 0, .string ⟨#[]⟩] 32)
            have hT2 := Lib.hid (hLT.below hal2)
            have hN2 := Lib.hid (two_news wr)
            have z3 := cell_on z1 hal2
            have hOa := Lib.hid (hOg.out.then (Only.of_below hal2))
            have hgw : g ≤ (wr.alloc (.cells #[.int .u8 98, .int .i64 0, .int .i64 0, .string ⟨#[]⟩, .int .u8 98, .int .i64 0, .int .i64 0, .string ⟨#[]⟩] 32)).heap.size := by
              have := (World.ownsRow.lt hLT g rfl).2
              have := hal2.size
              omega
            have hLl : L.length ≤ 1000000000 := by omega
            replace hLN := Lib.hid hLN
            clear hLL hLT hal2 hOg
            have hnx2 := Lib.hid (fun (W : World) (a' : Option Addr) (n' c' : Nat) (ho : Only (fun z => (some g : Option Nat) = some z) (wr.alloc (.cells #[.int .u8 98, .int .i64 0, .int .i64 0, .string ⟨#[]⟩, .int .u8 98, .int .i64 0, .int .i64 0, .string ⟨#[]⟩] 32)) W) => hnext.out W a' n' c' (hOa.out.then (ho.mono (fun z _ hz => (Option.some.inj hz).symm))))
            have hO3 := Lib.hid (fun (W : World) (ho : Only (fun z => (some g : Option Nat) = some z) (wr.alloc (.cells #[.int .u8 98, .int .i64 0, .int .i64 0, .string ⟨#[]⟩, .int .u8 98, .int .i64 0, .int .i64 0, .string ⟨#[]⟩] 32)) W) (z : Value) => ((hO.out.then ((hOa.out.then (ho.mono (fun z _ hz => (Option.some.inj hz).symm))).mono (fun z _ hz => (show w1.heap.size ≤ z ∧ z < w2.heap.size by subst hz; exact ⟨hg1, hg2⟩)))).setCell (p := ⟨gl, i, none⟩) (.inl ⟨hl1, hl2⟩) z))
            clear hOa hO hnext
            go_wp2_with (at_builtin; (refine wpList_append_twsO (base := g) (ts := L) (us := [⟨98, 0, 0, []⟩, ⟨98, 0, 0, []⟩]) rfl _ _ rfl rfl hT2.out rfl hN2.out rfl hLl (by simp) hgw ?_; intro a6 c6' w5 hT5 hO5; have q1 := (hnx2.out w5 none 0 0 hO5).1; have q2 := (hnx2.out w5 none 0 0 hO5).2.1; have q3 := Lib.hid (fun a' n' c' => (hnx2.out w5 a' n' c' hO5).2.2); have q4 := Lib.hid (hO3.out w5 hO5)))
            clear hnx2 hO3 hT2 hN2 z1 z2 z3
            go_roundw
            case rel => exact ⟨i + 1, by omega, by go_num, Lib.hid (q3.out _ _ _), Lib.hid (q4.out _)⟩
            case measure => simp [intOf]; omega
      · obtain rfl : i = n := by omega
        have hlti : ¬ ((i : Int) < (i : Int)) := by omega
        have hb4 := Lib.hid (hO.out.below (B := w1.heap.size) (by omega) (fun z hz hF => by omega))
        have hm := Lib.hid (hv6.out.only hO.out (fun z hz hF => by omega))
        have hcc := Lib.hid (hc1.out.below (show Below w1.heap.size w1 wr from ((hb12.out).trans (hb3.out.mono (by omega))).trans hb4.out))
        have hB4 := Lib.hid (hb1.out.trans ((((hb12.out).trans (hb3.out.mono (by omega))).trans hb4.out).mono hb1.out.size))
        have c5 := Lib.hid (cP.out wr _ hcc.out)
        clear hO hL hb4 hv6 cP
        generalize wr = wA at *
        go_wp2_with fail
        refine c5.out.mono ?_
        rintro e w5 ⟨v10, rfl, hv10, hb5⟩
        obtain ⟨a10, c10, e10, _, _⟩ := hv10.shape
        rw [hn.out] at e10
        subst e10
        have hB5 := Lib.hid (hB4.out.trans (hb5.mono hB4.out.size))
        have cA := Lib.hid (alike_tw (hcc.out.below hb5) (hTT.out.below hB5.out))
        have hm5 := Lib.hid (hm.out.below hb5)
        replace hv10 := Lib.hid hv10
        clear c5
        go_wp2_with fail
        refine cA.out.mono ?_
        rintro e w6 ⟨rfl, hb6⟩
        have hB6 := Lib.hid (hB5.out.trans (hb6.mono hB5.out.size))
        have hm6 := Lib.hid (hm5.out.below hb6)
        have hv6' := Lib.hid (hv10.out.below hb6)
        clear hm hm5 hv10 cA
        go_wp2_with fail
        go_loopw [12] (fun t12 wr => ∃ k : Nat, k ≤ i ∧ t12 = .int .i64 k ∧ Hid (Below w6.heap.size w6 wr)) (fun t12 _ => i - (intOf t12).toNat)
        case atStart => exact ⟨0, by omega, by go_num, Lib.hid (Below.refl _ _)⟩
        case round =>
          obtain ⟨k, hk, rfl, hB⟩ := hrel
          rcases Nat.lt_or_ge k i with hlt2 | hge2
          · have hltk : (k : Int) < (i : Int) := by omega
            have hip : k < ps.length := by rw [hn.out]; exact hlt2
            obtain ⟨a', cap', e', _, _, h3⟩ := (hm6.out.below hB.out).trsIn
            injection e' with e1 e2 e3
            subst e1 e3
            obtain ⟨g4, o4, rfl, hg4, hc4⟩ := h3 (by omega)
            obtain ⟨u4, hu4, hTu4⟩ := hc4 k hip
            obtain ⟨a', cap', e', _, _, h3'⟩ := (hv6'.out.below hB.out).trsIn
            injection e' with e1 e2' e3
            subst e1 e3
            obtain ⟨g5, o5, rfl, hg5, hc5⟩ := h3' (by omega)
            obtain ⟨u5, hu5, hTu5⟩ := hc5 k hip
            have x4 := fun z => below_cell (n := z) hu4
            have x5 := fun z => below_cell (n := z) hu5
            have cA := Lib.hid (fun z => alike_quiet (w := wr.drewN z) (hTu5.below (below_drewN (Below.refl _ _) z)) (hTu4.below (below_drewN (Below.refl _ _) z)))
            clear h3 hc4 h3' hc5 hu4 hu5 e2 e2'
            go_wp2_with fail
            go_quiet ((go_at_call 12; exact Calls.quiet_of (cA.out _)))
            go_wp2_with fail
            go_roundw
            case rel => exact ⟨k + 1, by omega, by go_num, Lib.hid (below_drewN hB.out _)⟩
            case measure => simp [intOf]; omega
          · obtain rfl : k = i := by omega
            have hltk : ¬ ((k : Int) < (k : Int)) := by omega
            have hB7 := Lib.hid (hB6.out.trans (hB.out.mono hB6.out.size))
            go_wp2_with fail
            refine (hWk.out _).mono ?_
            rintro e w10 ⟨rfl, hb10⟩
            go_wp2_with fail
            go_ret
            exact ⟨rfl, hB7.out.trans (hb10.mono hB7.out.size)⟩
end Go.Proofs.Ythgkkdhalcpgbaa
