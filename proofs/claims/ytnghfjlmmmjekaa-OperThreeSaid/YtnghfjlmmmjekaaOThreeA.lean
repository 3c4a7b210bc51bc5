/- The law OperThree (layer 12), where both texts are short. (mkothree2.py) No condition. -/
import Derived.Test.YtnghfjlmmmjekaaOThree0
namespace Go.Proofs.Ytnghfjlmmmjekaa
open Go.RowKit

set_option maxRecDepth 20000 in
set_option maxHeartbeats 8000000 in
theorem threeA_walk (x y : Int) (s t : ByteArray) (w : World) (ix : I64 x) (iy : I64 y) (hs4 : s.size ≤ 4095) (ht4 : t.size ≤ 4095) :
    Calls Try.prog 6 #[.int .i64 x, .int .i64 y, .string s, .string t] w fun e w' => e = .returned (.bool true) ∧ Below w.heap.size w w' := by
  have hWk := Lib.hid wakes12_any
  have kI := Lib.hid (fun (n : Int) (W : World) => Int_row n W)
  have kT := Lib.hid (fun (z : ByteArray) (h : z.size ≤ 4095) (W : World) => Text_row z h W)
  have q5 : (s.size : Int) ≤ 4095 := by omega
  have q6 : (t.size : Int) ≤ 4095 := by omega
  go_enter Try.func6, Try.ntmps6
  go_wp2_with fail
  refine (kI.out x _).mono ?_
  rintro e w1 ⟨v1, rfl, r1, b1⟩
  obtain ⟨g1, c1, rfl, lo1, hi1, -⟩ := ownsRow_head r1 (Nat.le_refl 1)
  replace b1 := Lib.hid b1
  replace r1 := Lib.hid r1
  go_wp2_with fail
  refine (kI.out y _).mono ?_
  rintro e w2 ⟨v2, rfl, r2, b2⟩
  obtain ⟨g2, c2, rfl, lo2, hi2, -⟩ := ownsRow_head r2 (Nat.le_refl 1)
  have r1' := Lib.hid (r1.out.below b2)
  have bb := below_next b1.out b2
  have al := (Below.refl w2.heap.size w2).alloc (Nat.le_refl _) (.cells #[.slice (some ⟨g1, 0, none⟩) 1 c1, .slice (some ⟨g2, 0, none⟩) 1 c2] 39)
  have hW := below_next bb al
  have q0 := cell_new1 w2 #[.slice (some ⟨g1, 0, none⟩) 1 c1, .slice (some ⟨g2, 0, none⟩) 1 c2] 39 0
  have q1 := cell_new1 w2 #[.slice (some ⟨g1, 0, none⟩) 1 c1, .slice (some ⟨g2, 0, none⟩) 1 c2] 39 1
  simp only [List.getElem?_toArray, List.getElem?_cons_succ, List.getElem?_cons_zero] at q0 q1
  have r1a := Lib.hid (r1'.out.below al)
  have r2a := Lib.hid (r2.below al)
  have hgn := heap_alloc_new w2 (.cells #[.slice (some ⟨g1, 0, none⟩) 1 c1, .slice (some ⟨g2, 0, none⟩) 1 c2] 39 (0, 0))
  have hz12 := b1.out.size
  have hz2 := b2.size
  have hWh := Lib.hid hW
  clear r1 r1' r2 b1 b2 bb al
  clear hW q0 q1
  go_wp2_with fail
  refine (kT.out s hs4 _).mono ?_
  rintro e w3 ⟨v3, rfl, r3, b3⟩
  obtain ⟨g3, c3, rfl, lo3, hi3, -⟩ := ownsRow_head r3 (Nat.le_refl 1)
  have hz2a : w2.heap.size + 1 ≤ g3 := by simpa using lo3
  have hz3 := b3.size
  have hgn3 := (b3.block _ (by simp)).trans hgn
  have r1b := Lib.hid (r1a.out.below b3); have r2b := Lib.hid (r2a.out.below b3)
  have bb3 := Lib.hid (below_next hWh.out b3)
  replace r3 := Lib.hid r3
  clear r1a r2a b3 hgn
  go_wp2_with fail
  refine (kT.out t ht4 _).mono ?_
  rintro e w4 ⟨v4, rfl, r4, b4⟩
  obtain ⟨g4, c4, rfl, lo4, hi4, -⟩ := ownsRow_head r4 (Nat.le_refl 1)
  have hgn4 := (b4.block _ (Array.getElem?_eq_some_iff.1 hgn3).1).trans hgn3
  have al4 := (Below.refl w4.heap.size w4).alloc (Nat.le_refl _) (.cells #[.slice (some ⟨g3, 0, none⟩) 1 c3, .slice (some ⟨g4, 0, none⟩) 1 c4] 39)
  have r1c := Lib.hid ((r1b.out.below b4).below al4); have r2c := Lib.hid ((r2b.out.below b4).below al4); have r3c := Lib.hid ((r3.out.below b4).below al4); have r4c := Lib.hid (r4.below al4)
  have hz4 := b4.size
  have hgn5 := (al4.block _ (Array.getElem?_eq_some_iff.1 hgn4).1).trans hgn4
  have hown : Hid ((w4.alloc (.cells #[.slice (some ⟨g3, 0, none⟩) 1 c3, .slice (some ⟨g4, 0, none⟩) 1 c4] 39)).ownsRow w2.heap.size 39 1 (.slice (some ⟨w2.heap.size, 0, none⟩) 2 2) 2 [.slice (some ⟨g1, 0, none⟩) 1 c1, .slice (some ⟨g2, 0, none⟩) 1 c2]) :=
    Lib.hid ⟨rfl, .inr ⟨w2.heap.size, 2, _, rfl, Nat.le_refl _, hgn5, Nat.le_refl _, by unfold maxLen; omega, rfl, rfl⟩⟩
  have hsrc : Hid (∀ j u, ([.slice (some ⟨g3, 0, none⟩) 1 c3, .slice (some ⟨g4, 0, none⟩) 1 c4] : List Value)[j]? = some u → (w4.alloc (.cells #[.slice (some ⟨g3, 0, none⟩) 1 c3, .slice (some ⟨g4, 0, none⟩) 1 c4] 39)).cell? ((⟨w4.heap.size, 0, none⟩ : Addr).add j) = some u) := Lib.hid (fun j u hj => by
    rw [show ((⟨w4.heap.size, 0, none⟩ : Addr).add j) = ⟨w4.heap.size, j, none⟩ by by_cases h0 : j = 0 <;> simp [Addr.add, h0], cell_new1, List.getElem?_toArray]
    exact hj)
  have bb4 := below_next (below_next bb3.out b4) al4
  have hzz : w2.heap.size ≤ (w4.alloc (.cells #[.slice (some ⟨g3, 0, none⟩) 1 c3, .slice (some ⟨g4, 0, none⟩) 1 c4] 39)).heap.size := by have := al4.size; simp at hz3; omega
  have hww := bb3.out.size
  replace bb4 := Lib.hid bb4
  clear r1b r2b r3 r4 b4 al4 hgn3 hgn4 hgn5
  go_wp2_with (at_builtin; refine wpList_append_vals (base := w2.heap.size) (vs := [.slice (some ⟨g1, 0, none⟩) 1 c1, .slice (some ⟨g2, 0, none⟩) 1 c2]) (us := [.slice (some ⟨g3, 0, none⟩) 1 c3, .slice (some ⟨g4, 0, none⟩) 1 c4]) rfl _ _ rfl rfl hown.out rfl hsrc.out (by simp [Value.oneCell']) (by simp) (by simp) (by simp) hzz ?_
               intro gl cl W0 hV hO)
  have hQ : Hid (ThreeQ W0 gl 4) := Lib.hid (by
    have far : ∀ {b g c : Nat} {d : List Nd}, RowN _ b (.slice (some ⟨g, 0, none⟩) 1 c) d → g ≠ w2.heap.size → RowN W0 b (.slice (some ⟨g, 0, none⟩) 1 c) d := @fun b g c d hr hne => hr.only hO (fun k hk e => hne (by
      have h1 : some g = some k := hk
      have h2 : some w2.heap.size = some k := e
      injection h1 with h1
      injection h2 with h2
      omega))
    have s1 := far r1c.out (by omega); have s2 := far r2c.out (by omega); have s3 := far r3c.out (by omega); have s4 := far r4c.out (by omega)
    have ca := fun j (hj : j < 4) => World.ownsRow.cellAt (g := gl) (cap := cl) hV j (by simpa using hj)
    rintro i (rfl | rfl) hn
    · exact ⟨_, _, _, _, _, ca 0 (by decide), ca 1 (by decide), pair_int s1 s2 ix iy⟩
    · exact ⟨_, _, _, _, _, ca 2 (by decide), ca 3 (by decide), pair_text s3 s4 hs4 ht4⟩)
  have hbW : Hid (Below w.heap.size w W0) := Lib.hid (bb4.out.trans (hO.below (by omega) (fun k hk e => by
    have h2 : some w2.heap.size = some k := e
    injection h2 with h2
    omega)))
  clear hV hO r1c r2c r3c r4c hown hsrc bb4
  go_loopw [14, 15, 16, 17, 18, 19, 20, 21, 22, 23, 24] (fun t14 _ _ _ _ _ _ _ _ _ _ wr => (t14 = .int .i64 0 ∨ t14 = .int .i64 2 ∨ t14 = .int .i64 4) ∧ Hid (Below W0.heap.size W0 wr)) (fun t14 _ _ _ _ _ _ _ _ _ _ _ => 4 - (intOf t14).toNat)
  case atStart => exact ⟨.inl rfl, Lib.hid (Below.refl _ _)⟩
  case round =>
   obtain ⟨hi, hB0⟩ := hrel
   rcases hi with rfl | rfl | rfl
   · obtain ⟨va, vb, l, s', m, ca, cb, hP⟩ := hQ.out 0 (by decide) (by decide)
     have y0 := Below.keeps hB0.out ca
     have y1 := Below.keeps hB0.out cb
     simp only [Nat.reduceAdd] at y1
     have hw1 : IntKind.i64.wrap (0 + 1) = 0 + 1 := by decide
     simp only [Int.reduceAdd] at hw1
     have hone := Lib.hid hP.one
     replace hP := Lib.hid hP
     clear ca cb
     go_wp2_with fail
     go_region_held3 (fun W => W.cell? ⟨gl, 0, none⟩ = some va ∧ W.cell? ⟨gl, 1, none⟩ = some vb)
       (first
         | exact ⟨y0, y1⟩
         | exact ⟨Below.keeps hn y0, Below.keeps hn y1⟩)
       ((go_at_call 18; refine (hP.out.lt _ hB0.out.drew).mono ?_; rintro e wa ⟨rfl, hn⟩))
     have hB1 := Lib.hid (below_next hB0.out.drew hn)
     replace y0 := Below.keeps hn (show wr.drew.cell? _ = some va from y0)
     replace y1 := Below.keeps hn (show wr.drew.cell? _ = some vb from y1)
     clear hn
     go_wp2_with fail
     go_region_held3 (fun W => W.cell? ⟨gl, 0, none⟩ = some va ∧ W.cell? ⟨gl, 1, none⟩ = some vb)
       (first
         | exact ⟨y0, y1⟩
         | exact ⟨Below.keeps hn y0, Below.keeps hn y1⟩)
       ((go_at_call 18; refine (hP.out.eq _ hB1.out.drew).mono ?_; rintro e wb ⟨rfl, hn⟩))
     have hB2 := Lib.hid (below_next hB1.out.drew hn)
     replace y0 := Below.keeps hn (show wa.drew.cell? _ = some va from y0)
     replace y1 := Below.keeps hn (show wa.drew.cell? _ = some vb from y1)
     clear hn
     go_wp2_with fail
     go_region_held3 (fun W => W.cell? ⟨gl, 0, none⟩ = some va ∧ W.cell? ⟨gl, 1, none⟩ = some vb)
       (first
         | exact ⟨y0, y1⟩
         | exact ⟨Below.keeps hn y0, Below.keeps hn y1⟩)
       ((go_at_call 18; refine (hP.out.gt _ hB2.out.drew).mono ?_; rintro e wc ⟨rfl, hn⟩))
     have hB3 := Lib.hid (below_next hB2.out.drew hn)
     replace y0 := Below.keeps hn (show wb.drew.cell? _ = some va from y0)
     replace y1 := Below.keeps hn (show wb.drew.cell? _ = some vb from y1)
     clear hn
     go_wp2_with fail
     go_region_held3 (fun W => W.cell? ⟨gl, 0, none⟩ = some va ∧ W.cell? ⟨gl, 1, none⟩ = some vb)
       (first
         | exact ⟨y0, y1⟩
         | exact ⟨Below.keeps hn y0, Below.keeps hn y1⟩)
       ((go_at_call 18; refine (hP.out.le _ hB3.out.drew).mono ?_; rintro e wd ⟨rfl, hn⟩))
     have hB4 := Lib.hid (below_next hB3.out.drew hn)
     replace y0 := Below.keeps hn (show wc.drew.cell? _ = some va from y0)
     replace y1 := Below.keeps hn (show wc.drew.cell? _ = some vb from y1)
     clear hn
     go_wp2_with fail
     go_region_held3 (fun W => W.cell? ⟨gl, 0, none⟩ = some va ∧ W.cell? ⟨gl, 1, none⟩ = some vb)
       (first
         | exact ⟨y0, y1⟩
         | exact ⟨Below.keeps hn y0, Below.keeps hn y1⟩)
       ((go_at_call 18; refine (hP.out.ne _ hB4.out.drew).mono ?_; rintro e we ⟨rfl, hn⟩))
     have hB5 := Lib.hid (below_next hB4.out.drew hn)
     replace y0 := Below.keeps hn (show wd.drew.cell? _ = some va from y0)
     replace y1 := Below.keeps hn (show wd.drew.cell? _ = some vb from y1)
     clear hn
     rcases hone.out with ⟨rfl, rfl, rfl⟩ | ⟨rfl, rfl, rfl⟩ | ⟨rfl, rfl, rfl⟩
     all_goals
       go_wp2_with fail
       go_roundw
       case rel => exact ⟨.inr (.inl (by go_num)), hB5⟩
       case measure => simp [intOf]
   · obtain ⟨va, vb, l, s', m, ca, cb, hP⟩ := hQ.out 2 (by decide) (by decide)
     have y0 := Below.keeps hB0.out ca
     have y1 := Below.keeps hB0.out cb
     simp only [Nat.reduceAdd] at y1
     have hw1 : IntKind.i64.wrap (2 + 1) = 2 + 1 := by decide
     simp only [Int.reduceAdd] at hw1
     have hone := Lib.hid hP.one
     replace hP := Lib.hid hP
     clear ca cb
     go_wp2_with fail
     go_region_held3 (fun W => W.cell? ⟨gl, 2, none⟩ = some va ∧ W.cell? ⟨gl, 3, none⟩ = some vb)
       (first
         | exact ⟨y0, y1⟩
         | exact ⟨Below.keeps hn y0, Below.keeps hn y1⟩)
       ((go_at_call 18; refine (hP.out.lt _ hB0.out.drew).mono ?_; rintro e wa ⟨rfl, hn⟩))
     have hB1 := Lib.hid (below_next hB0.out.drew hn)
     replace y0 := Below.keeps hn (show wr.drew.cell? _ = some va from y0)
     replace y1 := Below.keeps hn (show wr.drew.cell? _ = some vb from y1)
     clear hn
     go_wp2_with fail
     go_region_held3 (fun W => W.cell? ⟨gl, 2, none⟩ = some va ∧ W.cell? ⟨gl, 3, none⟩ = some vb)
       (first
         | exact ⟨y0, y1⟩
         | exact ⟨Below.keeps hn y0, Below.keeps hn y1⟩)
       ((go_at_call 18; refine (hP.out.eq _ hB1.out.drew).mono ?_; rintro e wb ⟨rfl, hn⟩))
     have hB2 := Lib.hid (below_next hB1.out.drew hn)
     replace y0 := Below.keeps hn (show wa.drew.cell? _ = some va from y0)
     replace y1 := Below.keeps hn (show wa.drew.cell? _ = some vb from y1)
     clear hn
     go_wp2_with fail
     go_region_held3 (fun W => W.cell? ⟨gl, 2, none⟩ = some va ∧ W.cell? ⟨gl, 3, none⟩ = some vb)
       (first
         | exact ⟨y0, y1⟩
         | exact ⟨Below.keeps hn y0, Below.keeps hn y1⟩)
       ((go_at_call 18; refine (hP.out.gt _ hB2.out.drew).mono ?_; rintro e wc ⟨rfl, hn⟩))
     have hB3 := Lib.hid (below_next hB2.out.drew hn)
     replace y0 := Below.keeps hn (show wb.drew.cell? _ = some va from y0)
     replace y1 := Below.keeps hn (show wb.drew.cell? _ = some vb from y1)
     clear hn
     go_wp2_with fail
     go_region_held3 (fun W => W.cell? ⟨gl, 2, none⟩ = some va ∧ W.cell? ⟨gl, 3, none⟩ = some vb)
       (first
         | exact ⟨y0, y1⟩
         | exact ⟨Below.keeps hn y0, Below.keeps hn y1⟩)
       ((go_at_call 18; refine (hP.out.le _ hB3.out.drew).mono ?_; rintro e wd ⟨rfl, hn⟩))
     have hB4 := Lib.hid (below_next hB3.out.drew hn)
     replace y0 := Below.keeps hn (show wc.drew.cell? _ = some va from y0)
     replace y1 := Below.keeps hn (show wc.drew.cell? _ = some vb from y1)
     clear hn
     go_wp2_with fail
     go_region_held3 (fun W => W.cell? ⟨gl, 2, none⟩ = some va ∧ W.cell? ⟨gl, 3, none⟩ = some vb)
       (first
         | exact ⟨y0, y1⟩
         | exact ⟨Below.keeps hn y0, Below.keeps hn y1⟩)
       ((go_at_call 18; refine (hP.out.ne _ hB4.out.drew).mono ?_; rintro e we ⟨rfl, hn⟩))
     have hB5 := Lib.hid (below_next hB4.out.drew hn)
     replace y0 := Below.keeps hn (show wd.drew.cell? _ = some va from y0)
     replace y1 := Below.keeps hn (show wd.drew.cell? _ = some vb from y1)
     clear hn
     rcases hone.out with ⟨rfl, rfl, rfl⟩ | ⟨rfl, rfl, rfl⟩ | ⟨rfl, rfl, rfl⟩
     all_goals
       go_wp2_with fail
       go_roundw
       case rel => exact ⟨.inr (.inr (by go_num)), hB5⟩
       case measure => simp [intOf]
   · go_wp2_with fail
     refine (hWk.out _).mono ?_
     rintro e wz ⟨rfl, hbz⟩
     go_wp2_with fail
     go_ret
     exact ⟨rfl, below_next (hbW.out.trans (hB0.out.mono hbW.out.size)) hbz⟩
end Go.Proofs.Ytnghfjlmmmjekaa
