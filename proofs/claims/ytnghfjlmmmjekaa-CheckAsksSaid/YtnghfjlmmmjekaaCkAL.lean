/- The law CheckAsks: what a flow asks of others is the document's; written over and gone on with, it is told as before. No condition. -/
import Derived.Test.YtnghfjlmmmjekaaAskD
import Derived.Test.YtnghfjlmmmjekaaAskG
import Derived.Test.YtnghfjlmmmjekaaCkSL
namespace Go.Proofs.Ytnghfjlmmmjekaa
open Go.RowKit Go.Shelf

/-- Names lie in memory as v. -/
def NamesR (w : World) (v : Value) (ns : List (List UInt8)) : Prop :=
  ∃ a cap, v = .slice a ns.length cap ∧ ns.length ≤ cap ∧ cap ≤ 9223372036854775807 ∧ (0 < ns.length → ∃ g, a = some ⟨g, 0, none⟩ ∧ g < w.heap.size ∧ ∀ i (hi : i < ns.length), w.cell? ⟨g, i, none⟩ = some (strV ns[i]))
theorem NamesAt.read {w : World} {base : Nat} {v : Value} {ns : List (List UInt8)} (h : NamesAt w base v ns) : NamesR w v ns := by
  obtain ⟨a, cap, rfl, h1, h2⟩ := h.shape
  refine ⟨a, cap, rfl, h1, h2, fun h0 => ?_⟩
  obtain ⟨g, cap', e, _, hg, _⟩ := ownsRow_head h h0
  injection e with e1 _ e3
  subst e1 e3
  refine ⟨g, rfl, hg, fun i hi => ?_⟩
  rw [World.ownsRow.cellAt (g := g) (cap := cap) h i (by omega), List.getElem?_map, List.getElem?_eq_getElem hi]
  rfl
set_option maxRecDepth 20000 in
set_option maxHeartbeats 1000000 in
theorem texts_true {w : World} {v1 v2 : Value} {ns : List (List UInt8)} (h1 : NamesR w v1 ns) (h2 : NamesR w v2 ns) :
    Calls Try.prog 15 #[v1, v2] w fun e w' => e = .returned (.bool true) ∧ Below w.heap.size w w' := by
  obtain ⟨a1, cap1, rfl, _, _, k1⟩ := h1
  obtain ⟨a2, cap2, rfl, hlc, hcm, k2⟩ := h2
  have hne : ((ns.length : Int) != (ns.length : Int)) = false := by simp
  replace k1 := Lib.hid k1
  replace k2 := Lib.hid k2
  go_enter Try.func15, Try.ntmps15
  go_wp2_with fail
  go_loopw [5] (fun t5 wr => ∃ i : Nat, i ≤ ns.length ∧ t5 = .int .i64 i ∧ Hid (Below w.heap.size w wr)) (fun t5 _ => ns.length - (intOf t5).toNat)
  case atStart => exact ⟨0, by omega, rfl, Lib.hid (Below.refl _ _)⟩
  case round =>
    obtain ⟨i, hi, rfl, hb⟩ := hrel
    rcases Nat.lt_or_ge i ns.length with hlt | hge
    · have hlti : (i : Int) < (ns.length : Int) := by omega
      obtain ⟨g1, rfl, hg1, c1⟩ := k1.out (by omega)
      obtain ⟨g2, rfl, hg2, c2⟩ := k2.out (by omega)
      have y1 := (hb.out.cell (p := ⟨g1, i, none⟩) hg1).trans (c1 i hlt)
      have y2 := (hb.out.cell (p := ⟨g2, i, none⟩) hg2).trans (c2 i hlt)
      unfold strV at y1 y2
      have hb2 := Lib.hid hb.out.drew
      have hnn : (ns[i] == ns[i]) = true := by simp
      generalize ns[i] = z at *
      clear c1 c2
      go_wp2_with fail
      go_region
      go_wp2_with fail
      go_roundw
      case rel => exact ⟨i + 1, by omega, by go_num, hb2⟩
      case measure => simp [intOf]; omega
    · obtain rfl : i = ns.length := by omega
      have hlti : ¬ ((ns.length : Int) < (ns.length : Int)) := by omega
      go_wp2_with fail
      go_ret
      exact ⟨rfl, hb.out⟩
def RAsksP (er : Int) (ts : List Tw) (w : World) (e : Ending) (w' : World) : Prop := ∃ a b c, e = .returned (.tuple #[a, b, c, .int .i64 er]) ∧ NamesAt w' w.heap.size a (asksF er 50 ts) ∧ NamesAt w' w.heap.size b (asksF er 51 ts) ∧ NamesAt w' w.heap.size c (asksF er 56 ts) ∧ Below w.heap.size w w'
set_option maxRecDepth 20000 in
set_option maxHeartbeats 2000000 in
theorem refAsks_any {v : Value} {ts : List Tw} (w : World) (hT : TwIn w v ts) (hf : ∀ x ∈ ts, FitT x) {r : List Int × Int × Int} (hr : SlotsIs ts r) (hl : r.2.2 = 0 → ts.length ≤ 2048) :
    Calls Try.prog 14 #[v] w (RAsksP r.2.2 ts w) := by
  have kN := Lib.hid (refSlots_any w hT hf hr)
  obtain ⟨l, at_, er⟩ := r
  unfold SlotsP at kN
  dsimp only at kN hl ⊢
  have hTT := Lib.hid (fun (W : World) (hb : Below w.heap.size w W) => hT.below hb)
  obtain ⟨a, cap, rfl, hlc, hcm, h3⟩ := hT
  clear hf hr h3
  by_cases he : er = 0
  · subst he
    have hl2 := hl rfl
    have kD := Lib.hid (fun (W : World) (op : Nat) (hb : Below w.heap.size w W) => named11_any W (hTT.out W hb) hl2 op)
    have eA : asksF 0 50 ts = insAll (namesOp 50 ts) [] := by unfold asksF; rw [if_pos rfl]
    have eB : asksF 0 51 ts = insAll (namesOp 51 ts) [] := by unfold asksF; rw [if_pos rfl]
    have eC : asksF 0 56 ts = insAll (namesOp 56 ts) [] := by unfold asksF; rw [if_pos rfl]
    replace eA := Lib.hid eA; replace eB := Lib.hid eB; replace eC := Lib.hid eC
    clear hl hTT
    go_enter Try.func14, Try.ntmps14
    go_wp2_with fail
    refine kN.out.mono ?_
    rintro e' w1 ⟨lv, rfl, _, hb1⟩
    have hz1 := hb1.size
    replace hb1 := Lib.hid hb1
    go_wp2_with fail
    refine (kD.out _ 50 hb1.out).mono ?_
    rintro e' w2 ⟨va, rfl, hA, hb2⟩
    have hb3 := Lib.hid (below_next hb1.out hb2)
    have hz2 := hb3.out.size
    have hA1 := Lib.hid (NamesAt.low hA hz1)
    clear hb2 hA
    go_wp2_with fail
    refine (kD.out _ 51 hb3.out).mono ?_
    rintro e' w3 ⟨vb, rfl, hB, hb4⟩
    have hb5 := Lib.hid (below_next hb3.out hb4)
    have hA2 := Lib.hid (hA1.out.below hb4)
    have hB1 := Lib.hid (NamesAt.low hB hz2)
    have hz3 := hb5.out.size
    clear hb4 hB hA1
    go_wp2_with fail
    refine (kD.out _ 56 hb5.out).mono ?_
    rintro e' w4 ⟨vc, rfl, hC, hb6⟩
    have hb7 := Lib.hid (below_next hb5.out hb6)
    have fA : Hid (NamesAt w4 w.heap.size va (asksF 0 50 ts)) := Lib.hid (by rw [eA.out]; exact hA2.out.below hb6)
    have fB : Hid (NamesAt w4 w.heap.size vb (asksF 0 51 ts)) := Lib.hid (by rw [eB.out]; exact hB1.out.below hb6)
    have fC : Hid (NamesAt w4 w.heap.size vc (asksF 0 56 ts)) := Lib.hid (by rw [eC.out]; exact NamesAt.low hC hz3)
    clear hb6 hC hA2 hB1
    go_wp2_with fail
    refine bodyPost_ret (results_4 rfl _ _ _) rfl ?_
    exact ⟨_, _, _, rfl, fA.out, fB.out, fC.out, hb7.out⟩
  · have hq : (er != 0) = true := bne_iff_ne.2 he
    have hnil : ∀ op W, NamesAt W w.heap.size (.slice none 0 0) (asksF er op ts) := by
      intro op W
      unfold asksF
      rw [if_neg he]
      exact World.ownsRow_nil _ _ _ _
    replace hnil := Lib.hid hnil
    clear hl he hTT
    go_enter Try.func14, Try.ntmps14
    go_wp2_with fail
    refine kN.out.mono ?_
    rintro e' w1 ⟨lv, rfl, _, hb1⟩
    replace hb1 := Lib.hid hb1
    go_wp2_with fail
    refine bodyPost_ret (results_4 rfl _ _ _) rfl ?_
    exact ⟨_, _, _, rfl, hnil.out 50 _, hnil.out 51 _, hnil.out 56 _, hb1.out⟩
theorem NamesAt.set {w : World} {base gl n cl : Nat} {ns : List (List UInt8)} (h : NamesAt w base (.slice (some ⟨gl, 0, none⟩) n cl) ns) (hlen : ns.length = n) (i : Nat) (x : List UInt8) :
    NamesAt (w.setCell ⟨gl, i, none⟩ (.string ⟨x.toArray⟩)) base (.slice (some ⟨gl, 0, none⟩) n cl) (ns.set i x) ∧ Only (fun k => k = gl) w (w.setCell ⟨gl, i, none⟩ (.string ⟨x.toArray⟩)) := by
  refine ⟨?_, (Only.refl (fun k => k = gl) w).setCell (p := ⟨gl, i, none⟩) (.inl rfl) _⟩
  unfold NamesAt at h ⊢
  have h2 := (World.ownsRow.stored (by rw [hlen] at h; exact h) i (.string ⟨x.toArray⟩)).1
  rw [List.length_set, hlen, List.map_set]
  exact h2
theorem NamesAt.at {w : World} {base gl n cl : Nat} {ns : List (List UInt8)} (h : NamesAt w base (.slice (some ⟨gl, 0, none⟩) n cl) ns) (hlen : ns.length = n) {i : Nat} (hi : i < n) : w.frozen? ⟨gl, i, none⟩ = false ∧ ∃ x, w.cell? ⟨gl, i, none⟩ = some (.string ⟨x⟩) := by
  unfold NamesAt at h
  rw [hlen] at h
  refine ⟨World.ownsRow.frozenAt h i, ?_⟩
  have hc := World.ownsRow.cellAt h i (by omega)
  rw [List.getElem?_map, List.getElem?_eq_getElem (by omega)] at hc
  exact ⟨_, hc⟩
def goneS : List UInt8 := [103, 111, 110, 101]
theorem srcTwo (w1 : World) : SrcN (w1.alloc (.cells #[.string ⟨#[103, 111, 110, 101]⟩, .string ⟨#[103, 111, 110, 101]⟩] 9)) (.slice (some ⟨w1.heap.size, 0, none⟩) 2 2) [goneS, goneS] :=
  .inr ⟨⟨w1.heap.size, 0, none⟩, 2, rfl, fun j x hj => by
    have h := heap_alloc_new w1 (.cells #[.string ⟨#[103, 111, 110, 101]⟩, .string ⟨#[103, 111, 110, 101]⟩] 9)
    match j, hj with
    | 0, hj =>
      simp at hj
      subst hj
      simp only [Addr.add, ↓reduceIte, World.cell?, h]
      rfl
    | 1, hj =>
      simp at hj
      subst hj
      have h10 : ¬ ((1 : Nat) = 0) := by decide
      simp only [Addr.add, h10, ↓reduceIte, World.cell?, h]
      rfl⟩
theorem asks_len {er : Int} {op : Nat} {ts : List Tw} (h : ts.length ≤ 5000) : (asksF er op ts).length ≤ 5000 := by
  unfold asksF
  split
  · have h1 := all_len (namesOp op ts) []
    have h2 := namesOp_len op ts
    simp only [List.length_nil] at h1
    omega
  · simp
theorem slots_few {ts : List Tw} {r : List Int × Int × Int} (hr : SlotsIs ts r) (h : r.2.2 = 0) : ts.length ≤ 2048 := by
  rcases hr with ⟨hb, rfl⟩ | ⟨_, hn, _⟩
  · exact absurd h hb
  · exact hn
set_option maxRecDepth 20000 in
set_option maxHeartbeats 8000000 in
theorem checkAsks_walk (v : Value) (w : World) (h : TwsIn w v) :
    Calls Try.prog 5 #[v] w fun e w' => e = .returned (.bool true) ∧ Below w.heap.size w w' := by
  obtain ⟨ts, hT, hf, _⟩ := h
  have hWk := Lib.hid wakes11_any
  obtain ⟨r, hr⟩ := slots_is ts
  have kS := Lib.hid (fun (W : World) (hb : Below w.heap.size w W) => Asks_any W (hT.below hb) hf hr (slots_few hr))
  have kR := Lib.hid (fun (W : World) (hb : Below w.heap.size w W) => refAsks_any W (hT.below hb) hf hr (slots_few hr))
  obtain ⟨l, at_, er⟩ := r
  unfold AsksP at kS
  unfold RAsksP at kR
  dsimp only at kS kR
  obtain ⟨a, cap, rfl, hlc, hcm, _⟩ := hT
  clear hf hr
  by_cases h5 : 5000 < ts.length
  · have h5i : (5000 : Int) < (ts.length : Int) := by omega
    clear kS kR
    go_enter Try.func5, Try.ntmps5
    go_wp2_with fail
    refine (hWk.out _).mono ?_
    rintro e w2 ⟨rfl, hb⟩
    go_wp2_with fail
    go_ret
    exact ⟨rfl, hb⟩
  · have h5i : ¬ (5000 : Int) < (ts.length : Int) := by omega
    have q2 : (er != er) = false := by simp
    have hfA := asks_len (er := er) (op := 50) (ts := ts) (by omega)
    have hfB := asks_len (er := er) (op := 51) (ts := ts) (by omega)
    clear h5
    generalize asksF er 50 ts = A at *
    generalize asksF er 51 ts = B at *
    generalize asksF er 56 ts = C at *
    go_enter Try.func5, Try.ntmps5
    go_wp2_with fail
    refine (kS.out w (Below.refl _ _)).mono ?_
    rintro e' w1 ⟨va, vb, vc, rfl, hA, hB, hC, hap, hb1⟩
    obtain ⟨aa, ac, rfl, _, _⟩ := id hA.shape
    obtain ⟨ba, bc, rfl, _, _⟩ := id hB.shape
    obtain ⟨ca, cc, rfl, _, _⟩ := id hC.shape
    have hz1 := hb1.size
    replace hb1 := Lib.hid hb1
    have hlA : Hid (∀ g, (Value.slice aa A.length ac).ownBlock = some g → w.heap.size ≤ g ∧ g < w1.heap.size) := Lib.hid (fun g hg => ⟨(hA.block hg).1, (hA.block hg).2.1⟩)
    have hlB : Hid (∀ g, (Value.slice ba B.length bc).ownBlock = some g → w.heap.size ≤ g ∧ g < w1.heap.size) := Lib.hid (fun g hg => ⟨(hB.block hg).1, (hB.block hg).2.1⟩)
    replace hA := Lib.hid hA; replace hB := Lib.hid hB; replace hC := Lib.hid hC; replace hap := Lib.hid hap
    go_wp2_with fail
    refine (kR.out w1 hb1.out).mono ?_
    rintro e' w2 ⟨vx, vy, vz, rfl, hX, hY, hZ, hb2⟩
    obtain ⟨xa, xc, rfl, _, _⟩ := id hX.shape
    obtain ⟨ya, yc, rfl, _, _⟩ := id hY.shape
    obtain ⟨za, zc, rfl, _, _⟩ := id hZ.shape
    have hA2 := Lib.hid (hA.out.below hb2); have hB2 := Lib.hid (hB.out.below hb2); have hC2 := Lib.hid (hC.out.below hb2)
    have hb3 := Lib.hid (below_next hb1.out hb2)
    replace hX := Lib.hid hX; replace hY := Lib.hid hY; replace hZ := Lib.hid hZ
    have kT := Lib.hid (fun (W : World) (u t : Value) (ns : List (List UInt8)) (h1 : NamesR W u ns) (h2 : NamesR W t ns) => texts_true h1 h2)
    clear hA hB hC hb1 hb2
    go_wp2_with fail
    refine (kT.out _ _ _ _ hA2.out.read hX.out.read).mono ?_
    rintro e' w3 ⟨rfl, hb4⟩
    have hA3 := Lib.hid (hA2.out.below hb4); have hB3 := Lib.hid (hB2.out.below hb4); have hC3 := Lib.hid (hC2.out.below hb4)
    have hX3 := Lib.hid (hX.out.below hb4); have hY3 := Lib.hid (hY.out.below hb4); have hZ3 := Lib.hid (hZ.out.below hb4)
    have hb5 := Lib.hid (below_next hb3.out hb4)
    clear hA2 hB2 hC2 hX hY hZ hb3 hb4
    go_wp2_with fail
    refine (kT.out _ _ _ _ hB3.out.read hY3.out.read).mono ?_
    rintro e' w4 ⟨rfl, hb6⟩
    have hA4 := Lib.hid (hA3.out.below hb6); have hB4 := Lib.hid (hB3.out.below hb6); have hC4 := Lib.hid (hC3.out.below hb6)
    have hX4 := Lib.hid (hX3.out.below hb6); have hY4 := Lib.hid (hY3.out.below hb6); have hZ4 := Lib.hid (hZ3.out.below hb6)
    have hb7 := Lib.hid (below_next hb5.out hb6)
    clear hA3 hB3 hC3 hX3 hY3 hZ3 hb5 hb6
    go_wp2_with fail
    refine (kT.out _ _ _ _ hC4.out.read hZ4.out.read).mono ?_
    rintro e' w5 ⟨rfl, hb8⟩
    have hA5 := Lib.hid (hA4.out.below hb8); have hB5 := Lib.hid (hB4.out.below hb8)
    have hX5 := Lib.hid (hX4.out.below hb8); have hY5 := Lib.hid (hY4.out.below hb8); have hZ5 := Lib.hid (hZ4.out.below hb8)
    have hb9 := Lib.hid (below_next hb7.out hb8)
    clear hA4 hB4 hC4 hX4 hY4 hZ4 hb7 hb8
    go_wp2_with fail
    go_loopw [11] (fun t11 wr => ∃ (j : Nat) (ns : List (List UInt8)), t11 = .int .i64 j ∧ j ≤ A.length ∧ Hid (ns.length = A.length) ∧ Hid (NamesAt wr w.heap.size (.slice aa A.length ac) ns) ∧ Hid (Only (fun k => (Value.slice aa A.length ac).ownBlock = some k) w5 wr)) (fun t11 _ => A.length - (intOf t11).toNat)
    case atStart => exact ⟨0, A, rfl, Nat.zero_le _, Lib.hid rfl, hA5, Lib.hid (Only.refl _ _)⟩
    case round =>
      obtain ⟨j, ns, rfl, hj, hln, hns, ho⟩ := hrel
      rcases Nat.lt_or_ge j A.length with hlt | hge
      · have hlti : (j : Int) < (A.length : Int) := by omega
        obtain ⟨gl, cl, e, _⟩ := ownsRow_head hns.out (by rw [hln.out]; omega)
        rw [hln.out] at e
        injection e with e1 e2 e3
        subst e1 e3
        obtain ⟨c1, x, c2⟩ := hns.out.at hln.out hlt
        obtain ⟨s1, s2⟩ := hns.out.set hln.out j goneS
        have hns2 := Lib.hid s1
        have ho2 := Lib.hid (ho.out.trans s2 (K := fun k => (Value.slice (some ⟨gl, 0, none⟩) A.length ac).ownBlock = some k) (fun k _ e => e) (fun k _ e => by rw [e]; rfl))
        have hln2 : Hid ((ns.set j goneS).length = A.length) := Lib.hid (by rw [List.length_set]; exact hln.out)
        clear s1 s2 ho hns hln
        go_wp2_with fail
        go_roundw
        case rel => exact ⟨j + 1, ns.set j goneS, by go_num, by omega, hln2, hns2, ho2⟩
        case measure => simp [intOf]; omega
      · obtain rfl : j = A.length := by omega
        have hlti : ¬ ((A.length : Int) < (A.length : Int)) := by omega
        have hbr := hb9.out.trans (ho.out.below hb9.out.size (fun k hk e => by have := (hlA.out k e).1; omega))
        have hBr := hB5.out.only ho.out (fun g hg e => hap.out g e hg)
        have far : ∀ (u : Value) (M : List (List UInt8)), NamesAt w5 w1.heap.size u M → NamesAt wr w1.heap.size u M := fun u M hu => hu.only ho.out (fun g hg e => by have := (hlA.out g e).2; have := (hu.block hg).1; omega)
        have hXr := far _ _ hX5.out; have hYr := far _ _ hY5.out; have hZr := far _ _ hZ5.out
        have hal := (Below.refl wr.heap.size wr).alloc (Nat.le_refl _) (.cells #[.string ⟨#[103, 111, 110, 101]⟩, .string ⟨#[103, 111, 110, 101]⟩] 9)
        have hsA := Lib.hid (srcTwo wr)
        have hNA := Lib.hid (hns.out.below hal)
        have hNB := Lib.hid (hBr.below hal); have hNX := Lib.hid (hXr.below hal); have hNY := Lib.hid (hYr.below hal); have hNZ := Lib.hid (hZr.below hal)
        have hbN := hbr.trans (hal.mono hbr.size)
        have hzN := hbN.size
        replace hbN := Lib.hid hbN
        have hlnA : ns.length ≤ 5000 := by rw [hln.out]; exact hfA
        have hnl := hln.out
        have hapr := hap.out
        replace hnl := Lib.hid hnl
        clear far hal hbr hBr hXr hYr hZr ho hns hX5 hY5 hZ5 hB5 hA5 hb9 hln
        go_wp2_with (at_builtin; first
          | (refine wpList_append_names (base := w.heap.size) (ns := ns) (ms := [goneS, goneS]) rfl _ _ rfl rfl hNA.out rfl hsA.out (by omega) (by simp) hzN ?_
             intro a9 c9 w9 h9 o9 b9
             have hNA9 : Hid (∃ k, k = ns.length + 2) := Lib.hid ⟨_, rfl⟩
             have hB9 := hNB.out.only o9 (fun g hg e => hapr g (by exact e) hg)
             have far2 : ∀ (u : Value) (M : List (List UInt8)), NamesAt (wr.alloc (.cells #[.string ⟨#[103, 111, 110, 101]⟩, .string ⟨#[103, 111, 110, 101]⟩] 9)) w1.heap.size u M → NamesAt w9 w1.heap.size u M := fun u M hu => hu.only o9 (fun g hg e => by have := (hlA.out g e).2; have := (hu.block hg).1; omega)
             have hX9 := far2 _ _ hNX.out; have hY9 := far2 _ _ hNY.out; have hZ9 := far2 _ _ hNZ.out
             have hb9 := hbN.out.trans (o9.below hzN (fun k hk e => by have := (hlA.out k e).1; omega))
             have hal9 := (Below.refl w9.heap.size w9).alloc (Nat.le_refl _) (.cells #[.string ⟨#[103, 111, 110, 101]⟩, .string ⟨#[103, 111, 110, 101]⟩] 9)
             have hsB := Lib.hid (srcTwo w9)
             have hMB := Lib.hid (hB9.below hal9); have hMX := Lib.hid (hX9.below hal9); have hMY := Lib.hid (hY9.below hal9); have hMZ := Lib.hid (hZ9.below hal9)
             have hbM := hb9.trans (hal9.mono hb9.size)
             have hzM := hbM.size
             replace hbM := Lib.hid hbM
             clear h9 o9 b9 hB9 far2 hX9 hY9 hZ9 hb9 hal9 hNA hNB hNX hNY hNZ hbN hsA)
          | (refine wpList_append_names (base := w.heap.size) (ns := B) (ms := [goneS, goneS]) rfl _ _ rfl rfl hMB.out rfl hsB.out (by omega) (by simp) hzM ?_
             intro a8 c8 w8 h8 o8 b8
             have far3 : ∀ (u : Value) (M : List (List UInt8)), NamesAt (w9.alloc (.cells #[.string ⟨#[103, 111, 110, 101]⟩, .string ⟨#[103, 111, 110, 101]⟩] 9)) w1.heap.size u M → NamesAt w8 w1.heap.size u M := fun u M hu => hu.only o8 (fun g hg e => by have := (hlB.out g e).2; have := (hu.block hg).1; omega)
             have hX8 := Lib.hid (far3 _ _ hMX.out); have hY8 := Lib.hid (far3 _ _ hMY.out); have hZ8 := Lib.hid (far3 _ _ hMZ.out)
             have hb8 := Lib.hid (hbM.out.trans (o8.below hzM (fun k hk e => by have := (hlB.out k e).1; omega)))
             clear h8 o8 b8 far3 hMB hMX hMY hMZ hbM hsB))
        refine (kS.out w8 hb8.out).mono ?_
        rintro e' wd ⟨vd, vg, vh, rfl, hD, hG, hH, _, hbD⟩
        obtain ⟨da, dc, rfl, _, _⟩ := id hD.shape
        obtain ⟨ga, gc, rfl, _, _⟩ := id hG.shape
        obtain ⟨ha, hc, rfl, _, _⟩ := id hH.shape
        have hXd := Lib.hid (hX8.out.below hbD); have hYd := Lib.hid (hY8.out.below hbD); have hZd := Lib.hid (hZ8.out.below hbD)
        have hbd := Lib.hid (below_next hb8.out hbD)
        replace hD := Lib.hid hD; replace hG := Lib.hid hG; replace hH := Lib.hid hH
        clear hX8 hY8 hZ8 hb8 hbD
        go_wp2_with fail
        refine (kT.out _ _ _ _ hD.out.read hXd.out.read).mono ?_
        rintro e' we ⟨rfl, hbE⟩
        have hGe := Lib.hid (hG.out.below hbE); have hHe := Lib.hid (hH.out.below hbE)
        have hYe := Lib.hid (hYd.out.below hbE); have hZe := Lib.hid (hZd.out.below hbE)
        have hbe := Lib.hid (below_next hbd.out hbE)
        clear hD hG hH hXd hYd hZd hbd hbE
        go_wp2_with fail
        refine (kT.out _ _ _ _ hGe.out.read hYe.out.read).mono ?_
        rintro e' wf ⟨rfl, hbF⟩
        have hHf := Lib.hid (hHe.out.below hbF); have hZf := Lib.hid (hZe.out.below hbF)
        have hbf := Lib.hid (below_next hbe.out hbF)
        clear hGe hHe hYe hZe hbe hbF
        go_wp2_with fail
        refine (kT.out _ _ _ _ hHf.out.read hZf.out.read).mono ?_
        rintro e' wg ⟨rfl, hbG⟩
        have hbg := Lib.hid (below_next hbf.out hbG)
        have hqa : (((ns.length : Int) + 2) == ((A.length : Int) + 2)) = true := by rw [hnl.out]; simp
        have hqb : (((B.length : Int) + 2) == ((B.length : Int) + 2)) = true := by simp
        clear hHf hZf hbf hbG
        go_wp2_with fail
        refine (hWk.out _).mono ?_
        rintro e wz ⟨rfl, hbz⟩
        go_wp2_with fail
        go_ret
        exact ⟨rfl, below_next hbg.out hbz⟩
end Go.Proofs.Ytnghfjlmmmjekaa
