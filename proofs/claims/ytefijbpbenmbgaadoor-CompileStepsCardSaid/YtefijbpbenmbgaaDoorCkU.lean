/- check's slots, Slots, Names (layer 11), walked. No condition. -/
import Derived.Test.YtefijbpbenmbgaaDoorCkR
import Derived.Test.YtefijbpbenmbgaaDoorRChk
import Derived.Laws.MakeOwn
namespace Go.Proofs.YtefijbpbenmbgaaDoor
open Go.RowKit Go.Shelf

def st0 : CSt := ⟨[], [], 0⟩
theorem good0 : GoodC st0 := ⟨List.nodup_nil, by decide, fun p h => (by cases h), by decide, fun p h => (by cases h)⟩
theorem make_ints (n : Nat) (hn : n ≤ 2048) : ∀ W : World, (Instr.makeSlice 41 (.int .i64 0) (.int .i64 (n : Int))).run Tryd.prog W = .ok (.slice (some ⟨W.heap.size, 0, none⟩) 0 n) (W.alloc (.cells (madeCells (Value.int .i64 0).cells (n * 1)) 3)) := by
  intro W
  obtain ⟨i0, hi, hz0, hz1, hz2⟩ := int_parts
  have h := run_makeSlice (P := Tryd.prog) W 41 3 i0 (.int .i64 0) Tryd.underlying41 hi hz0 .i64 .i64 0 (n : Int) (by omega) (by omega) (by rw [hz1]; simp; omega) (by rw [hz2]; omega) (by omega)
  rw [hz1] at h
  simpa using h
theorem alloc6 (w : World) (o0 o1 o2 o3 o4 o5 : Obj) :
    ((((((w.alloc o0).alloc o1).alloc o2).alloc o3).alloc o4).alloc o5).heap[w.heap.size]? = (w.alloc o0).heap[w.heap.size]? ∧
    ((((((w.alloc o0).alloc o1).alloc o2).alloc o3).alloc o4).alloc o5).heap[w.heap.size + 1]? = ((w.alloc o0).alloc o1).heap[(w.alloc o0).heap.size]? ∧
    ((((((w.alloc o0).alloc o1).alloc o2).alloc o3).alloc o4).alloc o5).heap[w.heap.size + 1 + 1]? = (((w.alloc o0).alloc o1).alloc o2).heap[((w.alloc o0).alloc o1).heap.size]? ∧
    ((((((w.alloc o0).alloc o1).alloc o2).alloc o3).alloc o4).alloc o5).heap[w.heap.size + 1 + 1 + 1]? = ((((w.alloc o0).alloc o1).alloc o2).alloc o3).heap[(((w.alloc o0).alloc o1).alloc o2).heap.size]? ∧
    ((((((w.alloc o0).alloc o1).alloc o2).alloc o3).alloc o4).alloc o5).heap[w.heap.size + 1 + 1 + 1 + 1]? = (((((w.alloc o0).alloc o1).alloc o2).alloc o3).alloc o4).heap[((((w.alloc o0).alloc o1).alloc o2).alloc o3).heap.size]? ∧
    ((((((w.alloc o0).alloc o1).alloc o2).alloc o3).alloc o4).alloc o5).heap[w.heap.size + 1 + 1 + 1 + 1 + 1]? = ((((((w.alloc o0).alloc o1).alloc o2).alloc o3).alloc o4).alloc o5).heap[(((((w.alloc o0).alloc o1).alloc o2).alloc o3).alloc o4).heap.size]? := by
  have s : ∀ (X : World) (o : Obj), (X.alloc o).heap.size = X.heap.size + 1 := fun X o => by simp
  have e : ∀ (X : World) (o : Obj) (k : Nat), k < X.heap.size → (X.alloc o).heap[k]? = X.heap[k]? := fun X o k hk => Below.heap_alloc _ _ _ hk
  refine ⟨?_, ?_, ?_, ?_, ?_, ?_⟩
  · rw [e _ o5 _ (by simp only [s]; omega), e _ o4 _ (by simp only [s]; omega), e _ o3 _ (by simp only [s]; omega), e _ o2 _ (by simp only [s]; omega), e _ o1 _ (by simp only [s]; omega)]
  · rw [e _ o5 _ (by simp only [s]; omega), e _ o4 _ (by simp only [s]; omega), e _ o3 _ (by simp only [s]; omega), e _ o2 _ (by simp only [s]; omega), s]
  · rw [e _ o5 _ (by simp only [s]; omega), e _ o4 _ (by simp only [s]; omega), e _ o3 _ (by simp only [s]; omega)]
    simp only [s]
  · rw [e _ o5 _ (by simp only [s]; omega), e _ o4 _ (by simp only [s]; omega)]
    simp only [s]
  · rw [e _ o5 _ (by simp only [s]; omega)]
    simp only [s]
  · simp only [s]
theorem slots_mem {w W : World} {v : Value} {ts : List Tw} {n : Nat} (hT : TwIn w v ts) (hn : n ≤ 2048) (hW : (((((w.alloc (.cells #[v] 23)).alloc (.cells (madeCells #[.int .i64 0] n) 3)).alloc (.cells #[.slice (some ⟨w.heap.size + 1, 0, none⟩) 0 n] 41)).alloc (.map #[] 0)).alloc (.cells #[.map (some (w.heap.size + 1 + 1 + 1)), .slice none 0 0, .int .i64 0] 75)).alloc (.cells #[.func (.func 33) #[] (capsC w.heap.size (w.heap.size + 1 + 1) (w.heap.size + 1 + 1 + 1 + 1) (w.heap.size + 1 + 1 + 1 + 1 + 1))] 76) = W) :
    CMem w W w.heap.size (w.heap.size + 1 + 1) (w.heap.size + 1 + 1 + 1 + 1) (w.heap.size + 1 + 1 + 1 + 1 + 1) v ts st0 := by
  have hB : Below w.heap.size w W := by
    rw [← hW]
    refine ((((((Below.refl _ w).alloc ?_ _).alloc ?_ _).alloc ?_ _).alloc ?_ _).alloc ?_ _).alloc ?_ _ <;> (simp; try omega)
  obtain ⟨a0, a1, a2, a3, a4, a5⟩ := alloc6 w (.cells #[v] 23) (.cells (madeCells #[.int .i64 0] n) 3) (.cells #[.slice (some ⟨w.heap.size + 1, 0, none⟩) 0 n] 41) (.map #[] 0) (.cells #[.map (some (w.heap.size + 1 + 1 + 1)), .slice none 0 0, .int .i64 0] 75) (.cells #[.func (.func 33) #[] (capsC w.heap.size (w.heap.size + 1 + 1) (w.heap.size + 1 + 1 + 1 + 1) (w.heap.size + 1 + 1 + 1 + 1 + 1))] 76)
  rw [hW, heap_alloc_new] at a0 a1 a2 a3 a4
  rw [hW] at a5
  have b5 := heap_alloc_new (((((w.alloc (.cells #[v] 23)).alloc (.cells (madeCells #[.int .i64 0] n) 3)).alloc (.cells #[.slice (some ⟨w.heap.size + 1, 0, none⟩) 0 n] 41)).alloc (.map #[] 0)).alloc (.cells #[.map (some (w.heap.size + 1 + 1 + 1)), .slice none 0 0, .int .i64 0] 75)) (.cells #[.func (.func 33) #[] (capsC w.heap.size (w.heap.size + 1 + 1) (w.heap.size + 1 + 1 + 1 + 1) (w.heap.size + 1 + 1 + 1 + 1 + 1))] 76)
  rw [hW] at b5
  rw [b5] at a5
  have hM : MapS Tryd.prog 9 3 W (w.heap.size + 1 + 1 + 1) (findL []) 0 := by
    have h0 := MapS.made (P := Tryd.prog) (k := 9) (e := 3) (((w.alloc (.cells #[v] 23)).alloc (.cells (madeCells #[.int .i64 0] n) 3)).alloc (.cells #[.slice (some ⟨w.heap.size + 1, 0, none⟩) 0 n] 41))
    have hs : (((w.alloc (.cells #[v] 23)).alloc (.cells (madeCells #[.int .i64 0] n) 3)).alloc (.cells #[.slice (some ⟨w.heap.size + 1, 0, none⟩) 0 n] 41)).heap.size = w.heap.size + 1 + 1 + 1 := by simp
    rw [hs] at h0
    have hfn : (fun _ => none : List UInt8 → Option Nat) = findL [] := by funext y; rfl
    rw [hfn] at h0
    rw [← hW]
    exact (h0.kept (F := fun _ => False) (Only.of_below ((Below.refl _ _).alloc (Nat.le_refl _) _)) (fun h => h)).kept (F := fun _ => False) (Only.of_below ((Below.refl _ _).alloc (Nat.le_refl _) _)) (fun h => h)
  refine ⟨hB, hT, a0, a5, ⟨_, a2, rfl, .inr ⟨w.heap.size + 1, n, _, rfl, by omega, a1, Nat.zero_le _, by unfold maxLen; omega, by rw [size_madeCells]; simp, rfl⟩⟩, by omega, ⟨w.heap.size + 1 + 1 + 1, .slice none 0 0, a4, hM, World.ownsRow_nil _ _ _ _, by omega, by omega⟩⟩
set_option maxRecDepth 20000 in
set_option maxHeartbeats 2000000 in
theorem slots_any {v : Value} {ts : List Tw} (w : World) (hT : TwIn w v ts) (hf : ∀ x ∈ ts, FitT x) (hn : ts.length ≤ 2048) {x : Tw} {K : Fs} (hok : (Fs.cons x K .nil).ok) (hx : ts = x :: K.flat) :
    Calls Tryd.prog 18 #[v] w fun e w' => ∃ lv, e = .returned (.tuple #[lv, .int .i64 (treeC x K st0).2]) ∧ IntsAt w' w.heap.size lv (treeC x K st0).1.l ∧ Below w.heap.size w w' := by
  obtain ⟨a, cap, rfl, h1, h2, _⟩ := id hT
  have hsf := fun c => sv_any (v := .func (.func 33) #[] c) rfl
  have hl0 : 0 < ts.length := by rw [hx]; simp
  have hmk := make_ints ts.length hn
  have hmm : ∀ W : World, (Instr.makeMap 72 none).run Tryd.prog W = .ok (.map (some W.heap.size)) (W.alloc (.map #[] 0)) := fun W => by
    simp [Instr.makeMap]
  replace hx := Lib.hid hx
  replace hT := Lib.hid hT
  obtain ⟨Z, hZ⟩ := exHid (treeC x K st0)
  rw [hZ.out]
  go_enter Tryd.func18, Tryd.ntmps18
  go_wp2_with fail
  generalize hW : (World.alloc _ _) = W
  have hM := slots_mem hT.out hn hW
  have hok2 : ts.drop st0.l.length = x :: (K.flat ++ []) := by rw [List.append_nil]; exact hx.out
  have kP := Lib.hid ((pass_all (v := .slice a ts.length cap) hf hn (.cons x K .nil) hok).1 W st0 [] hM hok2 good0)
  rw [hZ.out] at kP
  unfold capsC at kP
  have hbW := Lib.hid hM.b
  clear hW hM hok2 hZ
  refine kP.out.mono ?_
  rintro e' w2 ⟨rfl, hM2, _⟩
  obtain ⟨lv, l1, l2⟩ := hM2.l
  have l1c := cellC l1 0
  simp only [List.getElem?_toArray, List.getElem?_cons_zero] at l1c
  have hb2 := Lib.hid hM2.b
  replace l2 := Lib.hid l2
  clear hM2 l1 kP
  go_wp2_with fail
  go_ret2
  exact ⟨lv, rfl, l2.out, hb2.out⟩
/-- What a right tree's slots are, or where they go wrong. -/
def slotsF (x : Tw) (K : Fs) : List Int × Int × Int := if x.op ≠ 1 then ([], 0, 3) else if (treeC x K st0).2 ≠ 0 then ([], ((treeC x K st0).1.l.length : Int), (treeC x K st0).2) else ((treeC x K st0).1.l, 0, 0)
def SlotsIs (ts : List Tw) (r : List Int × Int × Int) : Prop := ((lookF ts).2.2 ≠ 0 ∧ r = ([], ((lookF ts).1 : Int), (lookF ts).2.2)) ∨ ((lookF ts).2.2 = 0 ∧ ts.length ≤ 2048 ∧ ∃ x K, (Fs.cons x K .nil).ok ∧ ts = x :: K.flat ∧ r = slotsF x K)
theorem slots_is (ts : List Tw) : ∃ r, SlotsIs ts r := by
  by_cases h : (lookF ts).2.2 = 0
  · obtain ⟨x, K, h1, h2, h3⟩ := right_forest h
    exact ⟨_, .inr ⟨h, h3, x, K, h1, h2, rfl⟩⟩
  · exact ⟨_, .inl ⟨h, rfl⟩⟩
def SlotsP (r : List Int × Int × Int) (w : World) (e : Ending) (w' : World) : Prop := ∃ lv, e = .returned (.tuple #[lv, .int .i64 r.2.1, .int .i64 r.2.2]) ∧ IntsAt w' w.heap.size lv r.1 ∧ Below w.heap.size w w'
theorem ints_nil (w : World) (b : Nat) : IntsAt w b (.slice none 0 0) [] := World.ownsRow_nil _ _ _ _
set_option maxRecDepth 20000 in
set_option maxHeartbeats 2000000 in
theorem Slots_any {v : Value} {ts : List Tw} (w : World) (hT : TwIn w v ts) (hf : ∀ x ∈ ts, FitT x) {r : List Int × Int × Int} (hr : SlotsIs ts r) :
    Calls Tryd.prog 12 #[v] w (SlotsP r w) := by
  have kC := Lib.hid (Check_any w hT hf)
  rcases hr with ⟨hb, rfl⟩ | ⟨hg, hn, x, K, hok, hx, rfl⟩
  · have hq : ((lookF ts).2.2 != 0) = true := bne_iff_ne.2 hb
    generalize lookF ts = D at *
    obtain ⟨d1, d2, d3⟩ := D
    dsimp only at *
    clear hT hf hb
    go_enter Tryd.func12, Tryd.ntmps12
    go_wp2_with fail
    refine kC.out.mono ?_
    rintro e' w1 ⟨rfl, hb1⟩
    go_wp2_with fail
    go_ret3
    exact ⟨_, rfl, ints_nil _ _, hb1⟩
  · have kS := fun (W : World) (h : TwIn W v ts) => slots_any W h hf hn hok hx
    have h0 : 0 < ts.length := by rw [hx]; simp
    obtain ⟨a, cap, rfl, h1, h2, h3⟩ := id hT
    obtain ⟨g, off, rfl, hgl, hc⟩ := h3 h0
    have y0 := hc 0 h0 0 (by omega)
    have hx0 : ts[0] = x := by simp [hx]
    rw [hx0] at y0
    simp only [twC, List.getElem?_cons_zero, Nat.zero_mul, Nat.add_zero] at y0
    have hl0 : (0 : Int) < (ts.length : Int) := by omega
    have hTT := Lib.hid (fun (W : World) (hb : Below w.heap.size w W) => hT.below hb)
    generalize lookF ts = D at *
    obtain ⟨d1, d2, d3⟩ := D
    dsimp only at hg kC
    subst hg
    obtain ⟨R, hR⟩ := exHid (slotsF x K)
    rw [hR.out]
    have hRR := hR.out
    unfold slotsF at hRR
    generalize treeC x K st0 = Z at *
    obtain ⟨zs, ze⟩ := Z
    dsimp only at kS hRR
    replace hRR := Lib.hid hRR
    replace kS := Lib.hid kS
    clear hR hok hc h3 hx0 hf hT
    replace hx := Lib.hid hx
    by_cases c1 : x.op = 1
    · have q1 : ((x.op : Int) != 1) = false := by rw [c1]; rfl
      have hR1 := hRR.out
      rw [if_neg (fun h => h c1)] at hR1
      replace c1 := Lib.hid c1
      by_cases cz : ze = 0
      · have qz : (ze != 0) = false := by rw [cz]; rfl
        rw [if_neg (fun h => h cz)] at hR1
        subst hR1
        replace cz := Lib.hid cz
        clear hRR
        go_enter Tryd.func12, Tryd.ntmps12
        go_wp2_with fail
        refine kC.out.mono ?_
        rintro e' w1 ⟨rfl, hb1⟩
        have y1 := (hb1.cell (p := ⟨g, off, none⟩) hgl).trans y0
        go_wp2_with fail
        refine (kS.out _ (hTT.out _ hb1)).mono ?_
        rintro e' w2 ⟨lv, rfl, hl, hb2⟩
        have hb3 := below_next hb1 hb2
        have hl2 : IntsAt w2 w.heap.size lv zs.l := ownsRow_base hl (fun k hk => by have := (hl.block hk).1; have := hb1.size; omega)
        clear hl hb1 hb2
        go_wp2_with fail
        go_ret3
        exact ⟨_, rfl, hl2, hb3⟩
      · have qz : (ze != 0) = true := bne_iff_ne.2 cz
        rw [if_pos cz] at hR1
        subst hR1
        clear hRR
        go_enter Tryd.func12, Tryd.ntmps12
        go_wp2_with fail
        refine kC.out.mono ?_
        rintro e' w1 ⟨rfl, hb1⟩
        have y1 := (hb1.cell (p := ⟨g, off, none⟩) hgl).trans y0
        go_wp2_with fail
        refine (kS.out _ (hTT.out _ hb1)).mono ?_
        rintro e' w2 ⟨lv, rfl, hl, hb2⟩
        obtain ⟨la, lc, rfl, _, _⟩ := hl.shape
        have hb3 := below_next hb1 hb2
        clear hl hb1 hb2
        go_wp2_with fail
        go_ret3
        exact ⟨_, rfl, ints_nil _ _, hb3⟩
    · have q1 : ((x.op : Int) != 1) = true := bne_iff_ne.2 (by omega)
      have hR1 := hRR.out
      rw [if_pos c1] at hR1
      subst hR1
      clear hRR
      go_enter Tryd.func12, Tryd.ntmps12
      go_wp2_with fail
      refine kC.out.mono ?_
      rintro e' w1 ⟨rfl, hb1⟩
      have y1 := (hb1.cell (p := ⟨g, off, none⟩) hgl).trans y0
      go_wp2_with fail
      go_ret3
      exact ⟨_, rfl, ints_nil _ _, hb1⟩
set_option maxHeartbeats 400000 in
theorem Names_any {v : Value} {ts : List Tw} (w : World) (hT : TwIn w v ts) (hf : ∀ x ∈ ts, FitT x) {r : List Int × Int × Int} (hr : SlotsIs ts r) :
    Calls Tryd.prog 7 #[v] w fun e w' => e = .returned (.tuple #[.int .i64 r.2.1, .int .i64 r.2.2]) ∧ Below w.heap.size w w' := by
  have k := Lib.hid (Slots_any w hT hf hr)
  clear hT hf hr
  go_enter Tryd.func7, Tryd.ntmps7
  go_wp2_with fail
  refine k.out.mono ?_
  rintro e w1 ⟨lv, rfl, hl, hb⟩
  go_wp2_with fail
  go_ret2
  exact ⟨rfl, hb⟩
end Go.Proofs.YtefijbpbenmbgaaDoor
