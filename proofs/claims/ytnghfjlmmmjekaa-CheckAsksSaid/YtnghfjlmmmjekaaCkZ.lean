/- The document's Slots (layer 11), walked: begun. No condition. -/
import Derived.Test.YtnghfjlmmmjekaaCkWs
import Derived.Test.YtnghfjlmmmjekaaRDChk
namespace Go.Proofs.Ytnghfjlmmmjekaa
open Go.RowKit Go.Shelf

theorem docF_eq11 {ts : List Tw} (hf : ∀ x ∈ ts, FitT x) : docF ts = ((lookF ts).1, (lookF ts).2.2) := by
  refine doc_look ts (fun i => ?_)
  unfold twAt
  rw [List.getD_eq_getElem?_getD]
  rcases Nat.lt_or_ge i ts.length with h | h
  · rw [List.getElem?_eq_getElem h]
    exact (hf _ (List.getElem_mem h)).2.2.2
  · rw [List.getElem?_eq_none h]
    decide
set_option maxRecDepth 20000 in
set_option maxHeartbeats 8000000 in
/-- Where the tree is not right, or is no flow. -/
theorem refSlots_bad {v : Value} {ts : List Tw} (w : World) (hT : TwIn w v ts) (hf : ∀ x ∈ ts, FitT x) {r : List Int × Int × Int} (hr : SlotsIs ts r) (hno : ∀ x K, ts = x :: K → (lookF ts).2.2 = 0 → x.op ≠ 1) :
    Calls Try.prog 9 #[v] w (SlotsP r w) := by
  have kC := Lib.hid (refCheck_any w hT hf)
  rw [docF_eq11 hf] at kC
  rcases hr with ⟨hb, rfl⟩ | ⟨hg, hn, x, K, hok, hx, rfl⟩
  · have hq : ((lookF ts).2.2 != 0) = true := bne_iff_ne.2 hb
    generalize lookF ts = D at *
    obtain ⟨d1, d2, d3⟩ := D
    dsimp only at *
    clear hT hf hb hno
    go_enter Try.func9, Try.ntmps9
    go_wp2_with fail
    refine kC.out.mono ?_
    rintro e' w1 ⟨rfl, hb1⟩
    go_wp2_with fail
    go_ret3
    exact ⟨_, rfl, ints_nil _ _, hb1⟩
  · have h0 : 0 < ts.length := by rw [hx]; simp
    obtain ⟨a, cap, rfl, h1, h2, h3⟩ := id hT
    obtain ⟨g, off, rfl, hgl, hc⟩ := h3 h0
    have y0 := hc 0 h0 0 (by omega)
    have hx0 : ts[0] = x := by simp [hx]
    rw [hx0] at y0
    simp only [twC, List.getElem?_cons_zero, Nat.zero_mul, Nat.add_zero] at y0
    have hl0 : (0 : Int) < (ts.length : Int) := by omega
    have hTT := Lib.hid (fun (W : World) (hb : Below w.heap.size w W) => hT.below hb)
    have hno1 := hno x K.flat hx hg
    generalize lookF ts = D at *
    obtain ⟨d1, d2, d3⟩ := D
    dsimp only at hg kC
    subst hg
    by_cases h1 : x.op = 1
    · exact absurd h1 hno1
    · have hs : slotsF x K = ([], 0, 3) := by unfold slotsF; rw [if_pos h1]
      rw [hs]
      have q1 : ((x.op : Int) != 1) = true := bne_iff_ne.2 (by omega)
      generalize x.op = xop at *
      clear hT hf hc h3 hx0 hok hx h1 hs hno hno1
      go_enter Try.func9, Try.ntmps9
      go_wp2_with fail
      refine kC.out.mono ?_
      rintro e' w1 ⟨rfl, hb1⟩
      have y1 := Below.keeps hb1 y0
      go_wp2_with fail
      go_ret3
      exact ⟨_, rfl, ints_nil _ _, hb1⟩
end Go.Proofs.Ytnghfjlmmmjekaa
