/- The law OperThree (layer 12), where the first text is long. (mkothree2.py) No condition. -/
import Derived.Test.YtnghfjlmmmjekaaOThree0
namespace Go.Proofs.Ytnghfjlmmmjekaa
open Go.RowKit

set_option maxRecDepth 20000 in
set_option maxHeartbeats 8000000 in
theorem threeC_walk (x y : Int) (s t : ByteArray) (w : World) (ix : I64 x) (iy : I64 y) (hs4 : ¬ s.size ≤ 4095) :
    Calls Try.prog 6 #[.int .i64 x, .int .i64 y, .string s, .string t] w fun e w' => e = .returned (.bool true) ∧ Below w.heap.size w w' := by
  have hWk := Lib.hid wakes12_any
  have kI := Lib.hid (fun (n : Int) (W : World) => Int_row n W)
  have q5 : ¬ ((s.size : Int) ≤ 4095) := by omega
  go_enter Try.func6, Try.ntmps6
  go_wp2_with fail
  refine (kI.out x _).mono ?_
  rintro e w1 ⟨v1, rfl, r1, b1⟩
  obtain ⟨g1, c1, rfl, lo1, hi1, -⟩ := ownsRow_head r1 (Nat.le_refl 1)
  replace b1 := Lib.hid b1
  replace r1 := Lib.hid r1
  go_wp2_with fail
  refine (kI.out y _).mono ?_
  rintro e w2 ⟨v2, rfl, r2, b2⟩
  obtain ⟨g2, c2, rfl, lo2, hi2, -⟩ := ownsRow_head r2 (Nat.le_refl 1)
  have r1' := Lib.hid (r1.out.below b2)
  have bb := below_next b1.out b2
  have al := (Below.refl w2.heap.size w2).alloc (Nat.le_refl _) (.cells #[.slice (some ⟨g1, 0, none⟩) 1 c1, .slice (some ⟨g2, 0, none⟩) 1 c2] 39)
  have hW := below_next bb al
  have q0 := cell_new1 w2 #[.slice (some ⟨g1, 0, none⟩) 1 c1, .slice (some ⟨g2, 0, none⟩) 1 c2] 39 0
  have q1 := cell_new1 w2 #[.slice (some ⟨g1, 0, none⟩) 1 c1, .slice (some ⟨g2, 0, none⟩) 1 c2] 39 1
  simp only [List.getElem?_toArray, List.getElem?_cons_succ, List.getElem?_cons_zero] at q0 q1
  have r1a := Lib.hid (r1'.out.below al)
  have r2a := Lib.hid (r2.below al)
  have hgn := heap_alloc_new w2 (.cells #[.slice (some ⟨g1, 0, none⟩) 1 c1, .slice (some ⟨g2, 0, none⟩) 1 c2] 39 (0, 0))
  have hz12 := b1.out.size
  have hz2 := b2.size
  clear r1 r1' r2 b1 b2 bb al
  have hP := pair_int r1a.out r2a.out ix iy
  obtain ⟨W0, hW0⟩ : ∃ W0, W0 = w2.alloc (.cells #[.slice (some ⟨g1, 0, none⟩) 1 c1, .slice (some ⟨g2, 0, none⟩) 1 c2] 39) := ⟨_, rfl⟩
  rw [← hW0] at hP hW q0 q1
  have hQ : Hid (ThreeQ W0 w2.heap.size 2) := Lib.hid (fun i hi hn => by
    obtain rfl : i = 0 := by omega
    exact ⟨_, _, _, _, _, q0, q1, hP⟩)
  have hbW := Lib.hid hW
  clear hP hW q0 q1 r1a r2a hgn
  go_wp2_with fail
  rw [← hW0]
  clear hW0
  go_loopw [14, 15, 16, 17, 18, 19, 20, 21, 22, 23, 24] (fun t14 _ _ _ _ _ _ _ _ _ _ wr => (t14 = .int .i64 0 ∨ t14 = .int .i64 2) ∧ Hid (Below W0.heap.size W0 wr)) (fun t14 _ _ _ _ _ _ _ _ _ _ _ => 2 - (intOf t14).toNat)
  case atStart => exact ⟨.inl rfl, Lib.hid (Below.refl _ _)⟩
  case round =>
   obtain ⟨hi, hB0⟩ := hrel
   rcases hi with rfl | rfl
   · obtain ⟨va, vb, l, s', m, ca, cb, hP⟩ := hQ.out 0 (by decide) (by decide)
     have y0 := Below.keeps hB0.out ca
     have y1 := Below.keeps hB0.out cb
     simp only [Nat.reduceAdd] at y1
     have hw1 : IntKind.i64.wrap (0 + 1) = 0 + 1 := by decide
     simp only [Int.reduceAdd] at hw1
     have hone := Lib.hid hP.one
     replace hP := Lib.hid hP
     clear ca cb
     go_wp2_with fail
     go_region_held3 (fun W => W.cell? ⟨w2.heap.size, 0, none⟩ = some va ∧ W.cell? ⟨w2.heap.size, 1, none⟩ = some vb)
       (first
         | exact ⟨y0, y1⟩
         | exact ⟨Below.keeps hn y0, Below.keeps hn y1⟩)
       ((go_at_call 18; refine (hP.out.lt _ hB0.out.drew).mono ?_; rintro e wa ⟨rfl, hn⟩))
     have hB1 := Lib.hid (below_next hB0.out.drew hn)
     replace y0 := Below.keeps hn (show wr.drew.cell? _ = some va from y0)
     replace y1 := Below.keeps hn (show wr.drew.cell? _ = some vb from y1)
     clear hn
     go_wp2_with fail
     go_region_held3 (fun W => W.cell? ⟨w2.heap.size, 0, none⟩ = some va ∧ W.cell? ⟨w2.heap.size, 1, none⟩ = some vb)
       (first
         | exact ⟨y0, y1⟩
         | exact ⟨Below.keeps hn y0, Below.keeps hn y1⟩)
       ((go_at_call 18; refine (hP.out.eq _ hB1.out.drew).mono ?_; rintro e wb ⟨rfl, hn⟩))
     have hB2 := Lib.hid (below_next hB1.out.drew hn)
     replace y0 := Below.keeps hn (show wa.drew.cell? _ = some va from y0)
     replace y1 := Below.keeps hn (show wa.drew.cell? _ = some vb from y1)
     clear hn
     go_wp2_with fail
     go_region_held3 (fun W => W.cell? ⟨w2.heap.size, 0, none⟩ = some va ∧ W.cell? ⟨w2.heap.size, 1, none⟩ = some vb)
       (first
         | exact ⟨y0, y1⟩
         | exact ⟨Below.keeps hn y0, Below.keeps hn y1⟩)
       ((go_at_call 18; refine (hP.out.gt _ hB2.out.drew).mono ?_; rintro e wc ⟨rfl, hn⟩))
     have hB3 := Lib.hid (below_next hB2.out.drew hn)
     replace y0 := Below.keeps hn (show wb.drew.cell? _ = some va from y0)
     replace y1 := Below.keeps hn (show wb.drew.cell? _ = some vb from y1)
     clear hn
     go_wp2_with fail
     go_region_held3 (fun W => W.cell? ⟨w2.heap.size, 0, none⟩ = some va ∧ W.cell? ⟨w2.heap.size, 1, none⟩ = some vb)
       (first
         | exact ⟨y0, y1⟩
         | exact ⟨Below.keeps hn y0, Below.keeps hn y1⟩)
       ((go_at_call 18; refine (hP.out.le _ hB3.out.drew).mono ?_; rintro e wd ⟨rfl, hn⟩))
     have hB4 := Lib.hid (below_next hB3.out.drew hn)
     replace y0 := Below.keeps hn (show wc.drew.cell? _ = some va from y0)
     replace y1 := Below.keeps hn (show wc.drew.cell? _ = some vb from y1)
     clear hn
     go_wp2_with fail
     go_region_held3 (fun W => W.cell? ⟨w2.heap.size, 0, none⟩ = some va ∧ W.cell? ⟨w2.heap.size, 1, none⟩ = some vb)
       (first
         | exact ⟨y0, y1⟩
         | exact ⟨Below.keeps hn y0, Below.keeps hn y1⟩)
       ((go_at_call 18; refine (hP.out.ne _ hB4.out.drew).mono ?_; rintro e we ⟨rfl, hn⟩))
     have hB5 := Lib.hid (below_next hB4.out.drew hn)
     replace y0 := Below.keeps hn (show wd.drew.cell? _ = some va from y0)
     replace y1 := Below.keeps hn (show wd.drew.cell? _ = some vb from y1)
     clear hn
     rcases hone.out with ⟨rfl, rfl, rfl⟩ | ⟨rfl, rfl, rfl⟩ | ⟨rfl, rfl, rfl⟩
     all_goals
       go_wp2_with fail
       go_roundw
       case rel => exact ⟨.inr (by go_num), hB5⟩
       case measure => simp [intOf]
   · go_wp2_with fail
     refine (hWk.out _).mono ?_
     rintro e wz ⟨rfl, hbz⟩
     go_wp2_with fail
     go_ret
     exact ⟨rfl, below_next (hbW.out.trans (hB0.out.mono hbW.out.size)) hbz⟩
end Go.Proofs.Ytnghfjlmmmjekaa
