/- compile's Compile (layer 15), walked. No condition. -/
import Derived.Test.YtefijbpbenmbgaaDoorGPart2
import Derived.Test.YtefijbpbenmbgaaDoorGSlots
namespace Go.Proofs.YtefijbpbenmbgaaDoor
open Go.RowKit Go.Shelf

theorem part_all {w0 : World} {bc : Nat} (hO : OpsOK w0) : ∀ F : Fs, F.ok → AllP (PartOK w0 bc) F
  | .nil, _ => trivial
  | .cons _ k r, ⟨h1, h2, h3, h4⟩ => ⟨part_step hO ⟨h1, h2, h3, trivial⟩ (part_all hO k h3), part_all hO r h4⟩
/-- What Compile answers of twigs. -/
def CompP (ts : List Tw) (r : List Int × Int × Int) (w : World) (e : Ending) (w' : World) : Prop :=
  Below w.heap.size w w' ∧ ((r.2.2 ≠ 0 ∧ e = .returned (.tuple #[.slice none 0 0, .int .i64 0, .int .i64 r.2.2])) ∨
    (r.2.2 = 0 ∧ ∃ cv code x K, (Fs.cons x K .nil).ok ∧ ts = x :: K.flat ∧ x.op = 1 ∧ Gens (.cons x K .nil) 0 code ∧ e = .returned (.tuple #[cv, .int .i64 (x.kids - 1), .int .i64 0]) ∧ InsAt w' w.heap.size cv code))
set_option maxRecDepth 20000 in
set_option maxHeartbeats 4000000 in
theorem Compile_any {v : Value} {ts : List Tw} (w : World) (hO : OpsOK w) (hT : TwIn w v ts) (hf : ∀ x ∈ ts, FitT x) {r : List Int × Int × Int} (hr : SlotsIs ts r) :
    Calls Tryd.prog 6 #[v] w (CompP ts r w) := by
  have kS := Lib.hid (Slots_any w hT hf hr)
  have hTT := Lib.hid hT
  obtain ⟨a, cap, rfl, hlc, hcm, h3⟩ := hT
  unfold SlotsP at kS
  by_cases he : r.2.2 = 0
  · obtain ⟨hn, x, K, hok, hx, hop⟩ := flow_tree hr he
    obtain ⟨hz0, st, hl, hB⟩ := slots_good hr he
    have hfit := slots_fit hB
    obtain ⟨l, at_, er⟩ := r
    dsimp only at he hl hz0 kS
    subst he
    subst hl
    subst hz0
    have hl0 : (0 : Int) < (ts.length : Int) := by rw [hx]; simp only [List.length_cons]; omega
    obtain ⟨g, off, rfl, hgl, hc⟩ := h3 (by omega)
    have y0 := hc 0 (by omega) 0 (by omega)
    have y1 := hc 0 (by omega) 1 (by omega)
    have hx0 : ts[0]'(by omega) = x := by simp [hx]
    rw [hx0] at y0 y1
    simp only [twC, List.getElem?_cons_zero, List.getElem?_cons_succ, Nat.zero_mul, Nat.add_zero] at y0 y1
    have hk : x.kids = (K.count : Int) := hok.2.1
    have hkc := count_le K
    have hkl : K.flat.length ≤ 2048 := by have := congrArg List.length hx; simp at this; omega
    clear hc h3 hx0 y0 hB hr hkc
    have hkd : ∃ n : Nat, x.kids = (n : Int) + 1 ∧ n ≤ 2048 := by
      have hc := count_le K
      obtain ⟨⟨kd, hkd, ha, _⟩, _⟩ := hok
      have hl : 1 ≤ kd.least := by
        rw [hop] at hkd
        have : kindOf 1 = some ⟨1, 1, 2048, 2⟩ := rfl
        rw [this] at hkd
        cases hkd
        decide
      unfold allowsB at ha
      simp only [Bool.and_eq_true, decide_eq_true_eq] at ha
      exact ⟨K.count - 1, by omega, by omega⟩
    obtain ⟨m, hm, hmb⟩ := hkd
    rw [hm] at y1
    have hP := Lib.hid (fun (W : World) (bc : Nat) (hOW : OpsOK W) => (part_all (w0 := W) (bc := bc) hOW (.cons x K .nil) hok).1)
    replace hx := Lib.hid hx
    replace hok := Lib.hid hok
    replace hop := Lib.hid hop
    replace hf := Lib.hid hf
    replace hfit := Lib.hid hfit
    replace hk := Lib.hid hk
    replace hkl := Lib.hid hkl
    replace hm := Lib.hid hm
    replace hO := Lib.hid hO
    generalize hst : st.l = sl at *
    clear hst st
    generalize hnt : ts.length = nt at *
    replace hnt := Lib.hid hnt
    go_enter Tryd.func6, Tryd.ntmps6
    go_wp2_with fail
    refine kS.out.mono ?_
    rintro e' w1 ⟨lv, rfl, hl, hb1⟩
    obtain ⟨la, lc, rfl, hs1, hs2⟩ := id hl.shape
    clear hs1 hs2
    have hT1 := Lib.hid (hTT.out.below hb1)
    have hN1 := Lib.hid hl.nums
    have hO1 := Lib.hid (hO.out.below hb1)
    have y2 := (hb1.cell (p := ⟨g, off + 1, none⟩) hgl).trans y1
    replace hb1 := Lib.hid hb1
    clear y1 kS hl hO hTT
    have hN := heap_alloc_new w1 (.cells #[.slice none 0 0, .slice (some ⟨g, off, none⟩) nt cap, .slice la sl.length lc] 47)
    have hCM : CM w1 (w1.alloc (.cells #[.slice none 0 0, .slice (some ⟨g, off, none⟩) nt cap, .slice la sl.length lc] 47)) w1.heap.size (x :: (K.flat ++ [])) [] := by
      refine ⟨(Below.refl _ w1).alloc (Nat.le_refl _) _, Nat.le_refl _, ⟨_, _, _, sl, hN, World.ownsRow_nil _ _ _ _, ?_, hN1.out, ?_⟩, ?_⟩
      · rw [List.append_nil, ← hx.out]; exact hT1.out
      · rw [List.append_nil, ← hx.out]; exact hfit.out
      · rw [List.append_nil, ← hx.out]; exact hf.out
    have kP := Lib.hid (hP.out w1 w1.heap.size hO1.out _ [] [] hCM (by have := hkl.out; simp only [List.length_nil]; omega))
    clear hN hCM hP hN1 hT1 hO1
    go_wp2_with fail
    refine kP.out.mono ?_
    rintro e' w2 ⟨rfl, c, hg1, hM2, ho2⟩
    rw [List.nil_append] at hM2
    obtain ⟨cv, tv, sv, sl2, h1, h2, _, _, _⟩ := id hM2.mem
    obtain ⟨ca, cc, rfl, hc1, hc2⟩ := id h2.shape
    clear hc1 hc2
    have c0 := cellC h1 0
    simp only [List.getElem?_toArray, List.getElem?_cons_zero] at c0
    have hgl1 : g < w1.heap.size := Nat.lt_of_lt_of_le hgl hb1.out.size
    have y3 := (hM2.b.cell (p := ⟨g, off + 1, none⟩) hgl1).trans y2
    have hB := Lib.hid (hb1.out.trans (hM2.b.mono hb1.out.size))
    have hI := Lib.hid (ownsRow_base (base' := w.heap.size) h2 (fun k hk => by have := (InsAt.block h2 hk).1; have := hb1.out.size; omega))
    replace hg1 := Lib.hid hg1
    clear kP h1 h2 hM2 ho2 y2 hgl1
    go_wp2_with fail
    go_region
    go_wp2_with fail
    go_ret3
    refine ⟨hB.out.drew, .inr ⟨rfl, _, c, x, K, hok.out, hx.out, hop.out, hg1.out, ?_, hI.out⟩⟩
    rw [hm.out, show ((m : Int) + 1 - 1) = (m : Int) by omega]
    rfl
  · have hz := slots_bad hr he
    obtain ⟨l, at_, er⟩ := r
    dsimp only at he hz kS
    obtain ⟨rfl, k, rfl, hk⟩ := hz
    have hq : (er != 0) = true := bne_iff_ne.2 he
    clear h3 hr hTT hf hO
    replace he := Lib.hid he
    go_enter Tryd.func6, Tryd.ntmps6
    go_wp2_with fail
    refine kS.out.mono ?_
    rintro e' w1 ⟨lv, rfl, hl, hb1⟩
    obtain ⟨la, lc, rfl, _, _⟩ := hl.shape
    replace hb1 := Lib.hid hb1
    clear hl kS
    go_wp2_with fail
    go_ret3
    exact ⟨hb1.out, .inl ⟨he.out, rfl⟩⟩
end Go.Proofs.YtefijbpbenmbgaaDoor
