/- A part of the proof: CkU, GSlots, GTop, GHead, GSame, GWak. No condition. -/
import Derived.Laws.MakeOwn
import Derived.BigQuiet
import Derived.LoopTactic
import Derived.IntWalk
import Derived.Test.YtefijbpbenmbgaaDoorQ05
import Derived.Test.YtefijbpbenmbgaaDoorQ09
import Derived.Test.YtefijbpbenmbgaaDoorQ10
set_option linter.unusedVariables false
set_option linter.unusedSimpArgs false
namespace Go.Proofs.YtefijbpbenmbgaaDoor
open Go.RowKit Go.Shelf
def st0 : CSt := ⟨[], [], 0⟩
theorem good0 : GoodC st0 := ⟨List.nodup_nil, by decide, fun p h => (by cases h), by decide, fun p h => (by cases h)⟩
theorem make_ints (n : Nat) (hn : n ≤ 2048) : ∀ W : World, (Instr.makeSlice 41 (.int .i64 0) (.int .i64 (n : Int))).run Tryd.prog W = .ok (.slice (some ⟨W.heap.size, 0, none⟩) 0 n) (W.alloc (.cells (madeCells (Value.int .i64 0).cells (n * 1)) 3)) := by
 intro W;obtain ⟨i0, hi, hz0, hz1, hz2⟩ := int_parts;have h := run_makeSlice (P := Tryd.prog) W 41 3 i0 (.int .i64 0) Tryd.underlying41 hi hz0 .i64 .i64 0 (n : Int) (by omega) (by omega) (by rw [hz1]; simp; omega) (by rw [hz2]; omega) (by omega);rw [hz1] at h
 simpa using h
theorem alloc6 (w : World) (o0 o1 o2 o3 o4 o5 : Obj) :
   ((((((w.alloc o0).alloc o1).alloc o2).alloc o3).alloc o4).alloc o5).heap[w.heap.size]? = (w.alloc o0).heap[w.heap.size]? ∧
   ((((((w.alloc o0).alloc o1).alloc o2).alloc o3).alloc o4).alloc o5).heap[w.heap.size + 1]? = ((w.alloc o0).alloc o1).heap[(w.alloc o0).heap.size]? ∧
   ((((((w.alloc o0).alloc o1).alloc o2).alloc o3).alloc o4).alloc o5).heap[w.heap.size + 1 + 1]? = (((w.alloc o0).alloc o1).alloc o2).heap[((w.alloc o0).alloc o1).heap.size]? ∧
   ((((((w.alloc o0).alloc o1).alloc o2).alloc o3).alloc o4).alloc o5).heap[w.heap.size + 1 + 1 + 1]? = ((((w.alloc o0).alloc o1).alloc o2).alloc o3).heap[(((w.alloc o0).alloc o1).alloc o2).heap.size]? ∧
   ((((((w.alloc o0).alloc o1).alloc o2).alloc o3).alloc o4).alloc o5).heap[w.heap.size + 1 + 1 + 1 + 1]? = (((((w.alloc o0).alloc o1).alloc o2).alloc o3).alloc o4).heap[((((w.alloc o0).alloc o1).alloc o2).alloc o3).heap.size]? ∧
   ((((((w.alloc o0).alloc o1).alloc o2).alloc o3).alloc o4).alloc o5).heap[w.heap.size + 1 + 1 + 1 + 1 + 1]? = ((((((w.alloc o0).alloc o1).alloc o2).alloc o3).alloc o4).alloc o5).heap[(((((w.alloc o0).alloc o1).alloc o2).alloc o3).alloc o4).heap.size]? := by
 have s : ∀ (X : World) (o : Obj), (X.alloc o).heap.size = X.heap.size + 1 := fun X o => by simp
 have e : ∀ (X : World) (o : Obj) (k : Nat), k < X.heap.size → (X.alloc o).heap[k]? = X.heap[k]? := fun X o k hk => Below.heap_alloc _ _ _ hk;refine ⟨?_, ?_, ?_, ?_, ?_, ?_⟩
 · rw [e _ o5 _ (by simp only [s]; omega), e _ o4 _ (by simp only [s]; omega), e _ o3 _ (by simp only [s]; omega), e _ o2 _ (by simp only [s]; omega), e _ o1 _ (by simp only [s]; omega)]
 · rw [e _ o5 _ (by simp only [s]; omega), e _ o4 _ (by simp only [s]; omega), e _ o3 _ (by simp only [s]; omega), e _ o2 _ (by simp only [s]; omega), s]
 · rw [e _ o5 _ (by simp only [s]; omega), e _ o4 _ (by simp only [s]; omega), e _ o3 _ (by simp only [s]; omega)]
   simp only [s]
 · rw [e _ o5 _ (by simp only [s]; omega), e _ o4 _ (by simp only [s]; omega)]
   simp only [s]
 · rw [e _ o5 _ (by simp only [s]; omega)]
   simp only [s]
 · simp only [s]
theorem slots_mem {w W : World} {v : Value} {ts : List Tw} {n : Nat} (hT : TwIn w v ts) (hn : n ≤ 2048) (hW : (((((w.alloc (.cells #[v] 23)).alloc (.cells (madeCells #[.int .i64 0] n) 3)).alloc (.cells #[.slice (some ⟨w.heap.size + 1, 0, none⟩) 0 n] 41)).alloc (.map #[] 0)).alloc (.cells #[.map (some (w.heap.size + 1 + 1 + 1)), .slice none 0 0, .int .i64 0] 75)).alloc (.cells #[.func (.func 33) #[] (capsC w.heap.size (w.heap.size + 1 + 1) (w.heap.size + 1 + 1 + 1 + 1) (w.heap.size + 1 + 1 + 1 + 1 + 1))] 76) = W) :
   CMem w W w.heap.size (w.heap.size + 1 + 1) (w.heap.size + 1 + 1 + 1 + 1) (w.heap.size + 1 + 1 + 1 + 1 + 1) v ts st0 := by
 have hB : Below w.heap.size w W := by
   rw [← hW];refine ((((((Below.refl _ w).alloc ?_ _).alloc ?_ _).alloc ?_ _).alloc ?_ _).alloc ?_ _).alloc ?_ _ <;> (simp; try omega)
 obtain ⟨a0, a1, a2, a3, a4, a5⟩ := alloc6 w (.cells #[v] 23) (.cells (madeCells #[.int .i64 0] n) 3) (.cells #[.slice (some ⟨w.heap.size + 1, 0, none⟩) 0 n] 41) (.map #[] 0) (.cells #[.map (some (w.heap.size + 1 + 1 + 1)), .slice none 0 0, .int .i64 0] 75) (.cells #[.func (.func 33) #[] (capsC w.heap.size (w.heap.size + 1 + 1) (w.heap.size + 1 + 1 + 1 + 1) (w.heap.size + 1 + 1 + 1 + 1 + 1))] 76);rw [hW, heap_alloc_new] at a0 a1 a2 a3 a4;rw [hW] at a5;have b5 := heap_alloc_new (((((w.alloc (.cells #[v] 23)).alloc (.cells (madeCells #[.int .i64 0] n) 3)).alloc (.cells #[.slice (some ⟨w.heap.size + 1, 0, none⟩) 0 n] 41)).alloc (.map #[] 0)).alloc (.cells #[.map (some (w.heap.size + 1 + 1 + 1)), .slice none 0 0, .int .i64 0] 75)) (.cells #[.func (.func 33) #[] (capsC w.heap.size (w.heap.size + 1 + 1) (w.heap.size + 1 + 1 + 1 + 1) (w.heap.size + 1 + 1 + 1 + 1 + 1))] 76);rw [hW] at b5;rw [b5] at a5;have hM : MapS Tryd.prog 9 3 W (w.heap.size + 1 + 1 + 1) (findL []) 0 := by
   have h0 := MapS.made (P := Tryd.prog) (k := 9) (e := 3) (((w.alloc (.cells #[v] 23)).alloc (.cells (madeCells #[.int .i64 0] n) 3)).alloc (.cells #[.slice (some ⟨w.heap.size + 1, 0, none⟩) 0 n] 41));have hs : (((w.alloc (.cells #[v] 23)).alloc (.cells (madeCells #[.int .i64 0] n) 3)).alloc (.cells #[.slice (some ⟨w.heap.size + 1, 0, none⟩) 0 n] 41)).heap.size = w.heap.size + 1 + 1 + 1 := by simp
   rw [hs] at h0;have hfn : (fun _ => none : List UInt8 → Option Nat) = findL [] := by funext y; rfl
   rw [hfn] at h0;rw [← hW];exact (h0.kept (F := fun _ => False) (Only.of_below ((Below.refl _ _).alloc (Nat.le_refl _) _)) (fun h => h)).kept (F := fun _ => False) (Only.of_below ((Below.refl _ _).alloc (Nat.le_refl _) _)) (fun h => h)
 refine ⟨hB, hT, a0, a5, ⟨_, a2, rfl, .inr ⟨w.heap.size + 1, n, _, rfl, by omega, a1, Nat.zero_le _, by unfold maxLen; omega, by rw [size_madeCells]; simp, rfl⟩⟩, by omega, ⟨w.heap.size + 1 + 1 + 1, .slice none 0 0, a4, hM, World.ownsRow_nil _ _ _ _, by omega, by omega⟩⟩
set_option maxRecDepth 20000 in
set_option maxHeartbeats 2000000 in
theorem slots_any {v : Value} {ts : List Tw} (w : World) (hT : TwIn w v ts) (hf : ∀ x ∈ ts, FitT x) (hn : ts.length ≤ 2048) {x : Tw} {K : Fs} (hok : (Fs.cons x K .nil).ok) (hx : ts = x :: K.flat) :
   Calls Tryd.prog 18 #[v] w fun e w' => ∃ lv, e = .returned (.tuple #[lv, .int .i64 (treeC x K st0).2]) ∧ IntsAt w' w.heap.size lv (treeC x K st0).1.l ∧ Below w.heap.size w w' := by
 obtain ⟨a, cap, rfl, h1, h2, _⟩ := id hT;have hsf := fun c => sv_any (v := .func (.func 33) #[] c) rfl
 have hl0 : 0 < ts.length := by rw [hx]; simp
 have hmk := make_ints ts.length hn;have hmm : ∀ W : World, (Instr.makeMap 72 none).run Tryd.prog W = .ok (.map (some W.heap.size)) (W.alloc (.map #[] 0)) := fun W => by
   simp [Instr.makeMap]
 replace hx := Lib.hid hx;replace hT := Lib.hid hT;obtain ⟨Z, hZ⟩ := exHid (treeC x K st0);rw [hZ.out];go_enter Tryd.func18, Tryd.ntmps18
 go_wp2_with fail
 generalize hW : (World.alloc _ _) = W;have hM := slots_mem hT.out hn hW;have hok2 : ts.drop st0.l.length = x :: (K.flat ++ []) := by rw [List.append_nil]; exact hx.out
 have kP := Lib.hid ((pass_all (v := .slice a ts.length cap) hf hn (.cons x K .nil) hok).1 W st0 [] hM hok2 good0);rw [hZ.out] at kP;unfold capsC at kP;have hbW := Lib.hid hM.b;clear hW hM hok2 hZ;refine kP.out.mono ?_;rintro e' w2 ⟨rfl, hM2, _⟩;obtain ⟨lv, l1, l2⟩ := hM2.l;have l1c := cellC l1 0;simp only [List.getElem?_toArray, List.getElem?_cons_zero] at l1c;have hb2 := Lib.hid hM2.b;replace l2 := Lib.hid l2;clear hM2 l1 kP;go_wp2_with fail
 go_ret2
 exact ⟨lv, rfl, l2.out, hb2.out⟩
def slotsF (x : Tw) (K : Fs) : List Int × Int × Int := if x.op ≠ 1 then ([], 0, 3) else if (treeC x K st0).2 ≠ 0 then ([], ((treeC x K st0).1.l.length : Int), (treeC x K st0).2) else ((treeC x K st0).1.l, 0, 0)
def SlotsIs (ts : List Tw) (r : List Int × Int × Int) : Prop := ((lookF ts).2.2 ≠ 0 ∧ r = ([], ((lookF ts).1 : Int), (lookF ts).2.2)) ∨ ((lookF ts).2.2 = 0 ∧ ts.length ≤ 2048 ∧ ∃ x K, (Fs.cons x K .nil).ok ∧ ts = x :: K.flat ∧ r = slotsF x K)
theorem slots_is (ts : List Tw) : ∃ r, SlotsIs ts r := by
 by_cases h : (lookF ts).2.2 = 0
 · obtain ⟨x, K, h1, h2, h3⟩ := right_forest h
   exact ⟨_, .inr ⟨h, h3, x, K, h1, h2, rfl⟩⟩
 · exact ⟨_, .inl ⟨h, rfl⟩⟩
def SlotsP (r : List Int × Int × Int) (w : World) (e : Ending) (w' : World) : Prop := ∃ lv, e = .returned (.tuple #[lv, .int .i64 r.2.1, .int .i64 r.2.2]) ∧ IntsAt w' w.heap.size lv r.1 ∧ Below w.heap.size w w'
theorem ints_nil (w : World) (b : Nat) : IntsAt w b (.slice none 0 0) [] := World.ownsRow_nil _ _ _ _
set_option maxRecDepth 20000 in
set_option maxHeartbeats 2000000 in
theorem Slots_any {v : Value} {ts : List Tw} (w : World) (hT : TwIn w v ts) (hf : ∀ x ∈ ts, FitT x) {r : List Int × Int × Int} (hr : SlotsIs ts r) :
   Calls Tryd.prog 12 #[v] w (SlotsP r w) := by
 have kC := Lib.hid (Check_any w hT hf);rcases hr with ⟨hb, rfl⟩ | ⟨hg, hn, x, K, hok, hx, rfl⟩
 · have hq : ((lookF ts).2.2 != 0) = true := bne_iff_ne.2 hb
   generalize lookF ts = D at *;obtain ⟨d1, d2, d3⟩ := D;dsimp only at *;clear hT hf hb;go_enter Tryd.func12, Tryd.ntmps12
   go_wp2_with fail
   refine kC.out.mono ?_;rintro e' w1 ⟨rfl, hb1⟩;go_wp2_with fail
   go_ret3
   exact ⟨_, rfl, ints_nil _ _, hb1⟩
 · have kS := fun (W : World) (h : TwIn W v ts) => slots_any W h hf hn hok hx
   have h0 : 0 < ts.length := by rw [hx]; simp
   obtain ⟨a, cap, rfl, h1, h2, h3⟩ := id hT;obtain ⟨g, off, rfl, hgl, hc⟩ := h3 h0;have y0 := hc 0 h0 0 (by omega);have hx0 : ts[0] = x := by simp [hx]
   rw [hx0] at y0;simp only [twC, List.getElem?_cons_zero, Nat.zero_mul, Nat.add_zero] at y0;have hl0 : (0 : Int) < (ts.length : Int) := by omega
   have hTT := Lib.hid (fun (W : World) (hb : Below w.heap.size w W) => hT.below hb);generalize lookF ts = D at *;obtain ⟨d1, d2, d3⟩ := D;dsimp only at hg kC;subst hg;obtain ⟨R, hR⟩ := exHid (slotsF x K);rw [hR.out];have hRR := hR.out;unfold slotsF at hRR;generalize treeC x K st0 = Z at *;obtain ⟨zs, ze⟩ := Z;dsimp only at kS hRR;replace hRR := Lib.hid hRR;replace kS := Lib.hid kS;clear hR hok hc h3 hx0 hf hT;replace hx := Lib.hid hx;by_cases c1 : x.op = 1
   · have q1 : ((x.op : Int) != 1) = false := by rw [c1]; rfl
     have hR1 := hRR.out;rw [if_neg (fun h => h c1)] at hR1;replace c1 := Lib.hid c1;by_cases cz : ze = 0
     · have qz : (ze != 0) = false := by rw [cz]; rfl
       rw [if_neg (fun h => h cz)] at hR1;subst hR1;replace cz := Lib.hid cz;clear hRR;go_enter Tryd.func12, Tryd.ntmps12
       go_wp2_with fail
       refine kC.out.mono ?_;rintro e' w1 ⟨rfl, hb1⟩;have y1 := (hb1.cell (p := ⟨g, off, none⟩) hgl).trans y0;go_wp2_with fail
       refine (kS.out _ (hTT.out _ hb1)).mono ?_;rintro e' w2 ⟨lv, rfl, hl, hb2⟩;have hb3 := below_next hb1 hb2;have hl2 : IntsAt w2 w.heap.size lv zs.l := ownsRow_base hl (fun k hk => by have := (hl.block hk).1; have := hb1.size; omega);clear hl hb1 hb2;go_wp2_with fail
       go_ret3
       exact ⟨_, rfl, hl2, hb3⟩
     · have qz : (ze != 0) = true := bne_iff_ne.2 cz
       rw [if_pos cz] at hR1;subst hR1;clear hRR;go_enter Tryd.func12, Tryd.ntmps12
       go_wp2_with fail
       refine kC.out.mono ?_;rintro e' w1 ⟨rfl, hb1⟩;have y1 := (hb1.cell (p := ⟨g, off, none⟩) hgl).trans y0;go_wp2_with fail
       refine (kS.out _ (hTT.out _ hb1)).mono ?_;rintro e' w2 ⟨lv, rfl, hl, hb2⟩;obtain ⟨la, lc, rfl, _, _⟩ := hl.shape;have hb3 := below_next hb1 hb2;clear hl hb1 hb2;go_wp2_with fail
       go_ret3
       exact ⟨_, rfl, ints_nil _ _, hb3⟩
   · have q1 : ((x.op : Int) != 1) = true := bne_iff_ne.2 (by omega)
     have hR1 := hRR.out;rw [if_pos c1] at hR1;subst hR1;clear hRR;go_enter Tryd.func12, Tryd.ntmps12
     go_wp2_with fail
     refine kC.out.mono ?_;rintro e' w1 ⟨rfl, hb1⟩;have y1 := (hb1.cell (p := ⟨g, off, none⟩) hgl).trans y0;go_wp2_with fail
     go_ret3
     exact ⟨_, rfl, ints_nil _ _, hb1⟩
set_option maxHeartbeats 400000 in
theorem Names_any {v : Value} {ts : List Tw} (w : World) (hT : TwIn w v ts) (hf : ∀ x ∈ ts, FitT x) {r : List Int × Int × Int} (hr : SlotsIs ts r) :
   Calls Tryd.prog 7 #[v] w fun e w' => e = .returned (.tuple #[.int .i64 r.2.1, .int .i64 r.2.2]) ∧ Below w.heap.size w w' := by
 have k := Lib.hid (Slots_any w hT hf hr);clear hT hf hr;go_enter Tryd.func7, Tryd.ntmps7
 go_wp2_with fail
 refine k.out.mono ?_;rintro e w1 ⟨lv, rfl, hl, hb⟩;go_wp2_with fail
 go_ret2
 exact ⟨rfl, hb⟩
end Go.Proofs.YtefijbpbenmbgaaDoor
namespace Go.Proofs.YtefijbpbenmbgaaDoor
open Go.RowKit Go.Shelf
theorem kids_deep (ts : List Tw) (k : Kind) (kids : Int) (f : PSt → Bool × PSt) (hf : ∀ s, s.gone < ts.length → s.tooDeep ≤ ts.length → (f s).2.gone ≤ ts.length ∧ (f s).2.tooDeep ≤ ts.length) :
   ∀ (n p : Nat) (s : PSt), s.gone ≤ ts.length → s.tooDeep ≤ ts.length → (kidsF f ts k kids n p s).2.gone ≤ ts.length ∧ (kidsF f ts k kids n p s).2.tooDeep ≤ ts.length
 | 0, _, s, h1, h2 => ⟨h1, h2⟩
 | n + 1, p, s, h1, h2 => by
   unfold kidsF;split
   · exact ⟨h1, h2⟩
   · split
     · exact ⟨h1, h2⟩
     · have h3 := hf s (by omega) h2
       split
       · exact h3
       · exact kids_deep ts k kids f hf n (p + 1) (f s).2 h3.1 h3.2
theorem pass_deep (ts : List Tw) : ∀ (fuel lies : Nat) (s : PSt), s.gone < ts.length → s.tooDeep ≤ ts.length → (passF fuel ts lies s).2.gone ≤ ts.length ∧ (passF fuel ts lies s).2.tooDeep ≤ ts.length
 | 0, _, s, h1, h2 => ⟨Nat.le_of_lt h1, h2⟩
 | fuel + 1, lies, s, h1, h2 => by
   unfold passF;split
   · exact ⟨Nat.le_of_lt h1, h2⟩
   · split
     · exact ⟨Nat.le_of_lt h1, h2⟩
     · refine kids_deep ts _ _ _ (fun s' a b => pass_deep ts fuel (lies + 1) s' a b) _ 0 (nextS s lies) h1 ?_
       unfold nextS;dsimp only;split <;> omega
theorem look_le (ts : List Tw) : (lookF ts).1 ≤ ts.length := by
 unfold lookF;split
 · exact Nat.zero_le _
 · split
   · exact Nat.zero_le _
   · have h := pass_deep ts ts.length 1 ⟨0, 0, 0⟩ (by show 0 < _; omega) (Nat.zero_le _)
     split
     · exact h.1
     · split
       · exact h.2
       · exact Nat.zero_le _
theorem trees_le : ∀ (F : Fs) (st : CSt), (treesC F st).1.l.length ≤ st.l.length + F.flat.length
 | .nil, st => Nat.le_refl _
 | .cons x k r, st => by
   unfold treesC;show _ ≤ st.l.length + (x :: (k.flat ++ r.flat)).length
   rw [List.length_cons, List.length_append];split
   · exact Nat.le_add_right _ _
   · have ih := trees_le k ⟨st.l ++ [(slotC st x).1], st.seen, (slotC st x).2.1⟩
     generalize treesC k ⟨st.l ++ [(slotC st x).1], st.seen, (slotC st x).2.1⟩ = R at *;have e1 : (⟨st.l ++ [(slotC st x).1], st.seen, (slotC st x).2.1⟩ : CSt).l.length = st.l.length + 1 := by simp
     rw [e1] at ih;split
     · omega
     · have h2 := trees_le r (endC x (slotC st x).1 st.seen.length R.1)
       have e : (endC x (slotC st x).1 st.seen.length R.1).l = R.1.l := by
         unfold endC;split
         · rfl
         · split <;> rfl
       rw [e] at h2;omega
theorem slots_bad {ts : List Tw} {r : List Int × Int × Int} (h : SlotsIs ts r) (he : r.2.2 ≠ 0) : r.1 = [] ∧ ∃ k : Nat, r.2.1 = (k : Int) ∧ k ≤ ts.length := by
 rcases h with ⟨_, rfl⟩ | ⟨_, _, x, K, _, hx, rfl⟩
 · exact ⟨rfl, _, rfl, look_le ts⟩
 · unfold slotsF at he ⊢
   split
   · exact ⟨rfl, 0, rfl, Nat.zero_le _⟩
   · rename_i h1
     rw [if_neg h1] at he;split
     · refine ⟨rfl, _, rfl, ?_⟩
       have := trees_le (.cons x K .nil) st0;rw [tree_one] at this;rw [hx]
       simpa [Fs.flat, st0] using this
     · rename_i h2
       rw [if_neg h2] at he;exact absurd rfl he
theorem slots_good {ts : List Tw} {r : List Int × Int × Int} (h : SlotsIs ts r) (he : r.2.2 = 0) : r.2.1 = 0 ∧ ∃ st, r.1 = st.l ∧ BInv ts st := by
 rcases h with ⟨hb, rfl⟩ | ⟨_, _, x, K, _, hx, rfl⟩
 · exact absurd he hb
 · unfold slotsF at he ⊢
   split
   · rename_i h1
     rw [if_pos h1] at he;cases he
   · rename_i h1
     rw [if_neg h1] at he;split
     · rename_i h2
       rw [if_pos h2] at he;exact absurd he h2
     · rename_i h2
       refine ⟨rfl, (treeC x K st0).1, rfl, ?_⟩;have hb0 : BInv [] st0 := ⟨rfl, rfl, by decide, fun p hp => (by cases hp), fun i x s h => by simp at h⟩;have := trees_bound (.cons x K .nil) [] st0 hb0 (by rw [tree_one]; omega);rw [tree_one] at this;rw [hx]
       simpa [Fs.flat] using this
theorem slotFits_of : ∀ (ts : List Tw) (l : List Int), l.length = ts.length → (∀ (i : Nat) (x : Tw) (s : Int), ts[i]? = some x → l[i]? = some s → SlotFit x s) → SlotsFit ts l
 | [], [], _, _ => trivial
 | [], _ :: _, h, _ => by simp at h
 | _ :: _, [], h, _ => by simp at h
 | x :: r, s :: t, h, hp => ⟨hp 0 x s rfl rfl, slotFits_of r t (by simpa using h) (fun i y u h1 h2 => hp (i + 1) y u (by simpa using h1) (by simpa using h2))⟩
theorem names_le (l : List Tw) (i : Nat) : (namesL (l.take i)).length ≤ (namesL l).length := by
 have : namesL l = namesL (l.take i) ++ namesL (l.drop i) := by rw [← namesL_app, List.take_append_drop]
 rw [this, List.length_append];omega
theorem slots_fit {ts : List Tw} {st : CSt} (h : BInv ts st) : SlotsFit ts st.l := by
 refine slotFits_of ts st.l h.len (fun i x s hx hs => ?_);have hb := h.bound i x s hx hs;have hle := names_le ts i;have hm := h.made;have hfew := h.few;unfold BoundAt at hb;by_cases c : makesB x = true
 · rw [if_pos c] at hb
   obtain ⟨rfl, h2⟩ := hb;exact ⟨by omega, by omega, fun _ => by omega⟩
 · rw [if_neg c] at hb
   by_cases d : usesB x = true
   · rw [if_pos d] at hb
     obtain ⟨k, rfl, hk⟩ := hb;have : k < (namesL (ts.take i)).length := by
       rcases Nat.lt_or_ge k (namesL (ts.take i)).length with h | h
       · exact h
       · rw [List.getElem?_eq_none h] at hk; cases hk
     exact ⟨by omega, by omega, fun _ => by omega⟩
   · rw [if_neg d] at hb
     subst hb;refine ⟨by omega, by omega, fun e => ?_⟩;exfalso
     unfold makesB at c;unfold usesB at d;simp only [Bool.or_eq_true, beq_iff_eq] at c d;omega
theorem flow_tree {ts : List Tw} {r : List Int × Int × Int} (h : SlotsIs ts r) (he : r.2.2 = 0) : ts.length ≤ 2048 ∧ ∃ x K, (Fs.cons x K .nil).ok ∧ ts = x :: K.flat ∧ x.op = 1 := by
 rcases h with ⟨hb, rfl⟩ | ⟨_, hn, x, K, hok, hx, rfl⟩
 · exact absurd he hb
 · refine ⟨hn, x, K, hok, hx, ?_⟩
   unfold slotsF at he;by_cases c : x.op = 1
   · exact c
   · rw [if_pos c] at he
     cases he
end Go.Proofs.YtefijbpbenmbgaaDoor
namespace Go.Proofs.YtefijbpbenmbgaaDoor
open Go.RowKit Go.Shelf
theorem part_all {w0 : World} {bc : Nat} (hO : OpsOK w0) : ∀ F : Fs, F.ok → AllP (PartOK w0 bc) F
 | .nil, _ => trivial
 | .cons _ k r, ⟨h1, h2, h3, h4⟩ => ⟨part_step hO ⟨h1, h2, h3, trivial⟩ (part_all hO k h3), part_all hO r h4⟩
def CompP (ts : List Tw) (r : List Int × Int × Int) (w : World) (e : Ending) (w' : World) : Prop :=
 Below w.heap.size w w' ∧ ((r.2.2 ≠ 0 ∧ e = .returned (.tuple #[.slice none 0 0, .int .i64 0, .int .i64 r.2.2])) ∨
   (r.2.2 = 0 ∧ ∃ cv code x K, (Fs.cons x K .nil).ok ∧ ts = x :: K.flat ∧ x.op = 1 ∧ Gens (.cons x K .nil) 0 code ∧ e = .returned (.tuple #[cv, .int .i64 (x.kids - 1), .int .i64 0]) ∧ InsAt w' w.heap.size cv code))
set_option maxRecDepth 20000 in
set_option maxHeartbeats 4000000 in
theorem Compile_any {v : Value} {ts : List Tw} (w : World) (hO : OpsOK w) (hT : TwIn w v ts) (hf : ∀ x ∈ ts, FitT x) {r : List Int × Int × Int} (hr : SlotsIs ts r) :
   Calls Tryd.prog 6 #[v] w (CompP ts r w) := by
 have kS := Lib.hid (Slots_any w hT hf hr);have hTT := Lib.hid hT;obtain ⟨a, cap, rfl, hlc, hcm, h3⟩ := hT;unfold SlotsP at kS;by_cases he : r.2.2 = 0
 · obtain ⟨hn, x, K, hok, hx, hop⟩ := flow_tree hr he
   obtain ⟨hz0, st, hl, hB⟩ := slots_good hr he;have hfit := slots_fit hB;obtain ⟨l, at_, er⟩ := r;dsimp only at he hl hz0 kS;subst he;subst hl;subst hz0;have hl0 : (0 : Int) < (ts.length : Int) := by rw [hx]; simp only [List.length_cons]; omega
   obtain ⟨g, off, rfl, hgl, hc⟩ := h3 (by omega);have y0 := hc 0 (by omega) 0 (by omega);have y1 := hc 0 (by omega) 1 (by omega);have hx0 : ts[0]'(by omega) = x := by simp [hx]
   rw [hx0] at y0 y1;simp only [twC, List.getElem?_cons_zero, List.getElem?_cons_succ, Nat.zero_mul, Nat.add_zero] at y0 y1;have hk : x.kids = (K.count : Int) := hok.2.1;have hkc := count_le K;have hkl : K.flat.length ≤ 2048 := by have := congrArg List.length hx; simp at this; omega
   clear hc h3 hx0 y0 hB hr hkc;have hkd : ∃ n : Nat, x.kids = (n : Int) + 1 ∧ n ≤ 2048 := by
     have hc := count_le K;obtain ⟨⟨kd, hkd, ha, _⟩, _⟩ := hok;have hl : 1 ≤ kd.least := by
       rw [hop] at hkd;have : kindOf 1 = some ⟨1, 1, 2048, 2⟩ := rfl;rw [this] at hkd;cases hkd
       decide
     unfold allowsB at ha;simp only [Bool.and_eq_true, decide_eq_true_eq] at ha;exact ⟨K.count - 1, by omega, by omega⟩
   obtain ⟨m, hm, hmb⟩ := hkd;rw [hm] at y1;have hP := Lib.hid (fun (W : World) (bc : Nat) (hOW : OpsOK W) => (part_all (w0 := W) (bc := bc) hOW (.cons x K .nil) hok).1);replace hx := Lib.hid hx;replace hok := Lib.hid hok;replace hop := Lib.hid hop;replace hf := Lib.hid hf;replace hfit := Lib.hid hfit;replace hk := Lib.hid hk;replace hkl := Lib.hid hkl;replace hm := Lib.hid hm;replace hO := Lib.hid hO;generalize hst : st.l = sl at *;clear hst st;generalize hnt : ts.length = nt at *;replace hnt := Lib.hid hnt;go_enter Tryd.func6, Tryd.ntmps6
   go_wp2_with fail
   refine kS.out.mono ?_;rintro e' w1 ⟨lv, rfl, hl, hb1⟩;obtain ⟨la, lc, rfl, hs1, hs2⟩ := id hl.shape;clear hs1 hs2;have hT1 := Lib.hid (hTT.out.below hb1);have hN1 := Lib.hid hl.nums;have hO1 := Lib.hid (hO.out.below hb1);have y2 := (hb1.cell (p := ⟨g, off + 1, none⟩) hgl).trans y1;replace hb1 := Lib.hid hb1;clear y1 kS hl hO hTT;have hN := heap_alloc_new w1 (.cells #[.slice none 0 0, .slice (some ⟨g, off, none⟩) nt cap, .slice la sl.length lc] 47);have hCM : CM w1 (w1.alloc (.cells #[.slice none 0 0, .slice (some ⟨g, off, none⟩) nt cap, .slice la sl.length lc] 47)) w1.heap.size (x :: (K.flat ++ [])) [] := by
     refine ⟨(Below.refl _ w1).alloc (Nat.le_refl _) _, Nat.le_refl _, ⟨_, _, _, sl, hN, World.ownsRow_nil _ _ _ _, ?_, hN1.out, ?_⟩, ?_⟩
     · rw [List.append_nil, ← hx.out]; exact hT1.out
     · rw [List.append_nil, ← hx.out]; exact hfit.out
     · rw [List.append_nil, ← hx.out]; exact hf.out
   have kP := Lib.hid (hP.out w1 w1.heap.size hO1.out _ [] [] hCM (by have := hkl.out; simp only [List.length_nil]; omega));clear hN hCM hP hN1 hT1 hO1;go_wp2_with fail
   refine kP.out.mono ?_;rintro e' w2 ⟨rfl, c, hg1, hM2, ho2⟩;rw [List.nil_append] at hM2;obtain ⟨cv, tv, sv, sl2, h1, h2, _, _, _⟩ := id hM2.mem;obtain ⟨ca, cc, rfl, hc1, hc2⟩ := id h2.shape;clear hc1 hc2;have c0 := cellC h1 0;simp only [List.getElem?_toArray, List.getElem?_cons_zero] at c0;have hgl1 : g < w1.heap.size := Nat.lt_of_lt_of_le hgl hb1.out.size;have y3 := (hM2.b.cell (p := ⟨g, off + 1, none⟩) hgl1).trans y2;have hB := Lib.hid (hb1.out.trans (hM2.b.mono hb1.out.size));have hI := Lib.hid (ownsRow_base (base' := w.heap.size) h2 (fun k hk => by have := (InsAt.block h2 hk).1; have := hb1.out.size; omega));replace hg1 := Lib.hid hg1;clear kP h1 h2 hM2 ho2 y2 hgl1;go_wp2_with fail
   go_region
   go_wp2_with fail
   go_ret3
   refine ⟨hB.out.drew, .inr ⟨rfl, _, c, x, K, hok.out, hx.out, hop.out, hg1.out, ?_, hI.out⟩⟩;rw [hm.out, show ((m : Int) + 1 - 1) = (m : Int) by omega];rfl
 · have hz := slots_bad hr he
   obtain ⟨l, at_, er⟩ := r;dsimp only at he hz kS;obtain ⟨rfl, k, rfl, hk⟩ := hz;have hq : (er != 0) = true := bne_iff_ne.2 he;clear h3 hr hTT hf hO;replace he := Lib.hid he;go_enter Tryd.func6, Tryd.ntmps6
   go_wp2_with fail
   refine kS.out.mono ?_;rintro e' w1 ⟨lv, rfl, hl, hb1⟩;obtain ⟨la, lc, rfl, _, _⟩ := hl.shape;replace hb1 := Lib.hid hb1;clear hl kS;go_wp2_with fail
   go_ret3
   exact ⟨hb1.out, .inl ⟨he.out, rfl⟩⟩
end Go.Proofs.YtefijbpbenmbgaaDoor
namespace Go.Proofs.YtefijbpbenmbgaaDoor
open Go.RowKit Go.Shelf
theorem gens_nil {F : Fs} {p : Nat} {c : List Ins} (h : Gens F p c) (hF : F = .nil) : c = [] := by
 cases h <;> first | rfl | cases hF
theorem gens_head {F : Fs} {p : Nat} {c : List Ins} (h : Gens F p c) : ∀ x k, F = .cons x k .nil →
   (x.op = 1 → ∃ d, Gens k p d ∧ c = d ++ [mkI 28 0]) ∧ (x.op = 3 → Gens k p c) ∧
   (x.op = 7 → ∀ a ka b kb, k = .cons a ka (.cons b kb .nil) → ∃ d e, Gens (.cons a ka .nil) p d ∧ Gens (.cons b kb .nil) (p + d.length + 1) e ∧ c = d ++ mkI 2 ((p + d.length + 1 + e.length + 1 : Nat) : Int) :: (e ++ [mkI 1 (p : Int)])) ∧
   (x.op ∈ loneOps → ∃ d, Gens k p d ∧ c = d ++ [loneI x]) := by
 induction h with
 | nil => intro x k e; cases e
 | @seq y ky r p c d h1 h2 i1 i2 =>
   intro x k e;injection e with e1 e2 e3;subst e1 e2;rw [gens_nil h2 e3, List.append_nil];exact i1 y ky rfl
 | @flow y ky p c hy h1 _ =>
   intro x k e;injection e with e1 e2;subst e1 e2;exact ⟨fun _ => ⟨c, h1, rfl⟩, fun e => by omega, fun e => by omega, fun e => absurd hy (lone_facts e).2.1⟩
 | @block y ky p c hy h1 _ =>
   intro x k e;injection e with e1 e2;subst e1 e2;exact ⟨fun e => by omega, fun _ => h1, fun e => by omega, fun e => by have := lone_facts e; omega⟩
 | @lone y ky p c hy h1 _ =>
   intro x k e;injection e with e1 e2;subst e1 e2;have := lone_facts hy;exact ⟨fun e => by omega, fun e => by omega, fun e => by omega, fun _ => ⟨c, h1, rfl⟩⟩
 | @loop y a ka b kb p c d hy h1 h2 _ _ =>
   intro x k e;injection e with e1 e2;subst e1;refine ⟨fun e => by omega, fun e => by omega, fun _ a' ka' b' kb' e' => ?_, fun e => by have := lone_facts e; omega⟩;rw [← e2] at e';injection e' with q1 q2 q3;injection q3 with q3 q4;subst q1 q2 q3 q4;exact ⟨c, d, h1, h2, rfl⟩
 | @store y ky p c s hy _ _ _ _ =>
   intro x k e;injection e with e1 e2;subst e1;exact ⟨fun e => by omega, fun e => by omega, fun e => by omega, fun e => by have := lone_facts e; omega⟩
 | @load y p s hy _ _ =>
   intro x k e;injection e with e1 e2;subst e1;exact ⟨fun e => by omega, fun e => by omega, fun e => by omega, fun e => by have := lone_facts e; omega⟩
 | @if2 y a ka b kb p c d hy _ _ _ _ =>
   intro x k e;injection e with e1 e2;subst e1;exact ⟨fun e => by omega, fun e => by omega, fun e => by omega, fun e => by have := lone_facts e; omega⟩
 | @if3 y a ka b kb f kf p c d e' hy _ _ _ _ _ _ =>
   intro x k e;injection e with e1 e2;subst e1;exact ⟨fun e => by omega, fun e => by omega, fun e => by omega, fun e => by have := lone_facts e; omega⟩
 | @either y a ka b kb p c d hy _ _ _ _ =>
   intro x k e;injection e with e1 e2;subst e1;exact ⟨fun e => by omega, fun e => by omega, fun e => by omega, fun e => by have := lone_facts e; omega⟩
 | @fork y a ka p c hy _ _ =>
   intro x k e;injection e with e1 e2;subst e1;exact ⟨fun e => by omega, fun e => by omega, fun e => by omega, fun e => by have := lone_facts e; omega⟩
theorem flat_inj : ∀ (F G : Fs) (r s : List Tw), F.ok → G.ok → F.count = G.count → F.flat ++ r = G.flat ++ s → F = G ∧ r = s
 | .nil, .nil, r, s, _, _, _, h => ⟨rfl, h⟩
 | .nil, .cons _ _ _, _, _, _, _, hc, _ => by simp [Fs.count] at hc
 | .cons _ _ _, .nil, _, _, _, _, hc, _ => by simp [Fs.count] at hc
 | .cons x k F, .cons y l G, r, s, hF, hG, hc, h => by
   have h' : x :: (k.flat ++ (F.flat ++ r)) = y :: (l.flat ++ (G.flat ++ s)) := by simpa [Fs.flat] using h
   injection h' with h1 h2;subst h1;have hk : k.count = l.count := by
     have a := hF.2.1;have b := hG.2.1;omega
   obtain ⟨rfl, h3⟩ := flat_inj k l _ _ hF.2.2.1 hG.2.2.1 hk h2;obtain ⟨rfl, h4⟩ := flat_inj F G r s hF.2.2.2 hG.2.2.2 (by simp only [Fs.count] at hc; omega) h3;exact ⟨rfl, h4⟩
def loopT : List Tw := [⟨1, 1, 0, [102]⟩, ⟨3, 1, 0, []⟩, ⟨7, 2, 0, []⟩, ⟨21, 0, 0, []⟩, ⟨3, 0, 0, []⟩]
def loopK : Fs := .cons ⟨3, 1, 0, []⟩ (.cons ⟨7, 2, 0, []⟩ (.cons ⟨21, 0, 0, []⟩ .nil (.cons ⟨3, 0, 0, []⟩ .nil .nil)) .nil) .nil
def loopC : List Ins := [mkI 21 0, mkI 2 3, mkI 1 0, mkI 28 0]
theorem loop_ok : (Fs.cons ⟨1, 1, 0, [102]⟩ loopK .nil).ok := by
 refine ⟨⟨_, rfl, by kernel_rfl, by kernel_rfl, trivial⟩, rfl, ?_, trivial⟩;refine ⟨⟨_, rfl, by kernel_rfl, by kernel_rfl, trivial⟩, rfl, ?_, trivial⟩;refine ⟨⟨_, rfl, by kernel_rfl, by kernel_rfl, by kernel_rfl, trivial⟩, rfl, ?_, trivial⟩;exact ⟨⟨_, rfl, by kernel_rfl, trivial⟩, rfl, trivial, ⟨_, rfl, by kernel_rfl, trivial⟩, rfl, trivial, trivial⟩
theorem loop_code {x : Tw} {K : Fs} {c : List Ins} (hok : (Fs.cons x K .nil).ok) (hx : loopT = x :: K.flat) (h : Gens (.cons x K .nil) 0 c) : c = loopC ∧ x.kids = 1 := by
 have he := flat_inj (.cons ⟨1, 1, 0, [102]⟩ loopK .nil) (.cons x K .nil) [] [] loop_ok hok rfl (by rw [flat_one, flat_one, ← hx]; rfl);injection he.1 with e1 e2;subst e1 e2;refine ⟨?_, rfl⟩;obtain ⟨d, h1, rfl⟩ := (gens_head h _ _ rfl).1 rfl;have h2 := (gens_head h1 _ _ rfl).2.1 rfl;obtain ⟨a, b, h3, h4, rfl⟩ := (gens_head h2 _ _ rfl).2.2.1 rfl _ _ _ _ rfl;obtain ⟨g, h5, rfl⟩ := (gens_head h3 _ _ rfl).2.2.2 (by decide);have h6 := (gens_head h4 _ _ rfl).2.1 rfl;rw [gens_nil h5 rfl, gens_nil h6 rfl];rfl
end Go.Proofs.YtefijbpbenmbgaaDoor
namespace Go.Proofs.YtefijbpbenmbgaaDoor
open Go.RowKit
set_option maxRecDepth 20000 in
set_option maxHeartbeats 1000000 in
theorem alike15_ins {w : World} {v1 v2 : Value} {ts : List Ins} (h1 : InsIn w v1 ts) (h2 : InsIn w v2 ts) :
   Calls Tryd.prog 11 #[v1, v2] w fun e w' => e = .returned (.bool true) ∧ Below w.heap.size w w' := by
 obtain ⟨a1, cap1, rfl, _, _, k1⟩ := h1;obtain ⟨a2, cap2, rfl, hlc, hcm, k2⟩ := h2;have hne : ((ts.length : Int) != (ts.length : Int)) = false := by simp
 replace k1 := Lib.hid k1;replace k2 := Lib.hid k2;go_enter Tryd.func11, Tryd.ntmps11
 go_wp2
 go_loopw [5] (fun t5 wr => ∃ i : Nat, i ≤ ts.length ∧ t5 = .int .i64 i ∧ Below w.heap.size w wr) (fun t5 _ => ts.length - (intOf t5).toNat)
 case atStart => exact ⟨0, by omega, rfl, Below.refl _ _⟩
 case round =>
   obtain ⟨i, hi, rfl, hbw⟩ := hrel;rcases Nat.lt_or_ge i ts.length with hlt | hge
   · obtain ⟨b1, o1, rfl, hl1, hc1⟩ := k1.out (by omega)
     obtain ⟨b2, o2, rfl, hl2, hc2⟩ := k2.out (by omega);have hlti : (i : Int) < (ts.length : Int) := by omega
     have x1 := fun n c (h : c < 4) => ((below_drewN hbw n).cell (p := ⟨b1, o1 + i * 4 + c, none⟩) hl1).trans (hc1 i hlt c h)
     have x2 := fun n c (h : c < 4) => ((below_drewN hbw n).cell (p := ⟨b2, o2 + i * 4 + c, none⟩) hl2).trans (hc2 i hlt c h)
     generalize ts[i] = t at *;obtain ⟨op, kids, num, text⟩ := t;have p0 := fun n => x1 n 0 (by omega); have p1 := fun n => x1 n 1 (by omega); have p2 := fun n => x1 n 2 (by omega); have p3 := fun n => x1 n 3 (by omega)
     have q0 := fun n => x2 n 0 (by omega); have q1 := fun n => x2 n 1 (by omega); have q2 := fun n => x2 n 2 (by omega); have q3 := fun n => x2 n 3 (by omega)
     simp only [insC, List.getElem?_cons_succ, List.getElem?_cons_zero, Nat.add_zero] at p0 p1 p2 p3 q0 q1 q2 q3;clear x1 x2 hc1 hc2;replace hbw := Lib.hid hbw;go_wp2
     go_quiet (fail)
     go_wp2
     go_roundw
     case rel => exact ⟨i + 1, by omega, by go_num, below_drewN hbw.out _⟩
     case measure => simp [intOf]; omega
   · obtain rfl : i = ts.length := by omega
     have hlti : ¬ ((ts.length : Int) < (ts.length : Int)) := by omega
     go_wp2
     go_ret
     exact ⟨rfl, hbw⟩
end Go.Proofs.YtefijbpbenmbgaaDoor
namespace Go.Proofs.YtefijbpbenmbgaaDoor
open Go.RowKit Go.Shelf
theorem loop_is : SlotsIs loopT ([-1, -1, -1, -1, -1], 0, 0) := by
 have h1 : (lookF loopT).2.2 = 0 := by kernel_rfl
 exact .inr ⟨h1, by decide, ⟨1, 1, 0, [102]⟩, loopK, loop_ok, rfl, by kernel_rfl⟩
theorem loop_fit : ∀ x ∈ loopT, FitT x := by
 intro x hx;simp only [loopT, List.mem_cons, List.not_mem_nil, or_false] at hx;rcases hx with rfl | rfl | rfl | rfl | rfl <;> exact ⟨by decide, ⟨by decide, by decide⟩, ⟨by decide, by decide⟩, by decide⟩
set_option maxRecDepth 20000 in
set_option maxHeartbeats 1000000 in
theorem loopT_any (w : World) : Calls Tryd.prog 10 #[] w fun e w' => ∃ v, e = .returned v ∧ TwIn w' v loopT ∧ Below w.heap.size w w' := by
 have hb := (Below.refl w.heap.size w).alloc (Nat.le_refl _) (.cells (rowOf twC loopT).toArray 34);have hT : TwIn (w.alloc (.cells (rowOf twC loopT).toArray 34)) (.slice (some ⟨w.heap.size, 0, none⟩) 5 5) loopT := by
   refine ⟨_, 5, rfl, by decide, by decide, fun _ => ⟨w.heap.size, 0, rfl, by simp, fun i hi c hc => ?_⟩⟩;rw [one_cell, Nat.zero_add, List.getElem?_toArray, rowOf_get twC_len loopT i c hi hc]
 go_enter Tryd.func10, Tryd.ntmps10
 go_wp2_with fail
 go_ret
 exact ⟨_, rfl, hT, hb⟩
set_option maxRecDepth 20000 in
set_option maxHeartbeats 1000000 in
theorem wakes15_any (w : World) (hO : OpsOK w) : Calls Tryd.prog 5 #[] w fun e w' => e = .returned (.bool true) ∧ Below w.heap.size w w' := by
 have kM := Lib.hid (loopT_any w);have kC := Lib.hid (fun (v : Value) (W : World) (hO : OpsOK W) (h : TwIn W v loopT) => Compile_any W hO h loop_fit loop_is);replace hO := Lib.hid hO;go_enter Tryd.func5, Tryd.ntmps5
 go_wp2_with fail
 refine kM.out.mono ?_;rintro e' w1 ⟨v, rfl, hT, hb1⟩;obtain ⟨va, vc, rfl, _, _, _⟩ := id hT;have kC1 := Lib.hid (kC.out _ w1 (hO.out.below hb1) hT);clear hT kC;replace hb1 := Lib.hid hb1;go_wp2_with fail
 refine kC1.out.mono ?_;rintro e' w2 ⟨hb2, h | ⟨_, cv, code, x, K, hok, hx, _, hg, rfl, hI⟩⟩
 · exact absurd rfl h.1
 obtain ⟨rfl, hk⟩ := loop_code hok hx hg;rw [hk];obtain ⟨ca, cc, rfl, hc1, hc2⟩ := id hI.shape;clear hc1 hc2 hok hx hg hk kC1;have hbA := (Below.refl w2.heap.size w2).alloc (Nat.le_refl _) (.cells (rowOf insC loopC).toArray 36);have hA : InsIn (w2.alloc (.cells (rowOf insC loopC).toArray 36)) (.slice (some ⟨w2.heap.size, 0, none⟩) 4 4) loopC := by
   refine ⟨_, 4, rfl, by decide, by decide, fun _ => ⟨w2.heap.size, 0, rfl, by simp, fun i hi c hc => ?_⟩⟩;rw [one_cell, Nat.zero_add, List.getElem?_toArray, rowOf_get insC_len loopC i c hi hc]
 have kS := Lib.hid (alike15_ins (hI.insIn.below hbA) hA);have hb3 := Lib.hid (hb1.out.trans ((hb2.mono hb1.out.size).trans (hbA.mono (Nat.le_trans hb1.out.size hb2.size))));clear hI hA hbA hb2;go_wp2_with fail
 refine kS.out.mono ?_;rintro e w3 ⟨rfl, hb4⟩;have hb5 := Lib.hid (hb3.out.trans (hb4.mono hb3.out.size));clear hb4 kS hb3;go_wp2_with fail
 go_ret
 exact ⟨rfl, hb5.out⟩
end Go.Proofs.YtefijbpbenmbgaaDoor
