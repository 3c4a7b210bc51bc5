/- The contract of a heap's Copy. -/
import Derived.Test.YtabcifaknckomaaHKeys2
import Derived.Shelf.SlMaps.Clone
namespace Go.Proofs.Ytabcifaknckomaa.HI
open Go.RowKit

theorem mapClone_any {w : World} {b n : Nat} {f : Int → Option Nat} (h : MapIs Try.prog 3 3 w b f n) :
    Calls Try.prog 38 #[.map (some b)] w fun e w' => e = .returned (.map (some w.heap.size)) ∧ MapIs Try.prog 3 3 w' w.heap.size f n ∧ Below w.heap.size w w' := by
  obtain ⟨D, h1, h2, h3, h4⟩ := h
  have := AnyW.maps_Clone_owns Try.layMap 3 (plainElem Try.prog 3) b n D w h1
  exact Calls.mono this fun e w' ⟨he, g1, _, g3⟩ => ⟨he, ⟨D, g1, h2, h3, h4⟩, g3⟩

theorem copy_fin {w w1 w2 : World} {b bm p : Nat} {sv v1 : Value} {d : List T} (h : HeapAt w b bm sv d p) (hrow : w1.ownsRow w.heap.size 65 3 v1 d.length (rowOf enc d)) (hb1 : Below w.heap.size w w1)
    {f : Int → Option Nat} (hM : MapIs Try.prog 3 3 w2 w1.heap.size f d.length) (hpl : Pl T.num f d) (hb2 : Below w1.heap.size w1 w2) :
    HeapAt (w2.alloc (.cells #[v1, .map (some w1.heap.size), .int .i64 p] 48)) w2.heap.size w1.heap.size v1 d p ∧ Below w.heap.size w (w2.alloc (.cells #[v1, .map (some w1.heap.size), .int .i64 p] 48)) ∧ ∀ k, Foot w2.heap.size w1.heap.size v1 k → w.heap.size ≤ k := by
  have ho : Only (fun _ => False) w2 (w2.alloc (.cells #[v1, .map (some w1.heap.size), .int .i64 p] 48)) := (Only.refl _ w2).alloc _
  have hB := below_next hb1 hb2
  have hl := hM.lt
  refine ⟨⟨heap_alloc_new w2 _, ?_, ⟨f, hM.kept ho (fun h => h), hpl⟩, h.num, h.len, h.lim⟩, hB.alloc hB.size _, fun k hk => ?_⟩
  · have r2 := ownsRow_only (ownsRow_only hrow (Only.of_below (F := fun _ => False) hb2) (fun _ _ h => h)) ho (fun _ _ h => h)
    exact ownsRow_base r2 (fun _ _ => Nat.zero_le _)
  · have h1 := hb1.size
    rcases hk with e | e | e
    · omega
    · omega
    · exact (hrow.lt k e).1

set_option maxRecDepth 100000 in
set_option maxHeartbeats 2000000 in
theorem copy_any {b bm p : Nat} {sv : Value} {d : List T} {w : World} (h : HeapAt w b bm sv d p) :
    Calls Try.prog 17 #[.pointer (some ⟨b, 0, none⟩)] w fun e w' => ∃ c cm sv', e = .returned (.pointer (some ⟨c, 0, none⟩)) ∧ HeapAt w' c cm sv' d p ∧ (∀ k, Foot c cm sv' k → w.heap.size ≤ k) ∧ Below w.heap.size w w' := by
  have Md := Lib.hid (made_any h)
  have hlim : d.length ≤ 1099511627776 := Nat.le_trans h.len h.lim
  obtain ⟨oa, cap, rfl, hnc, hcm⟩ := ownsRow_shape h.row
  have c0 := h.c0
  have c1 := h.c1
  have c2 := h.c2
  have CL := Lib.hid (clone_any (w := w.drew) h.row rfl hlim)
  obtain ⟨f, M, hpl⟩ := h.map
  have ML := Lib.hid (fun w1 (hb : Below w.drew.heap.size w.drew w1) => mapClone_any (M.kept (Only.of_below (F := fun _ => False) (below_drew hb)) (fun h => h)))
  have fin := Lib.hid (fun w1 w2 v1 a1 a2 a3 a4 => copy_fin (w1 := w1) (w2 := w2) (v1 := v1) h a1 a2 a3 hpl a4)
  clear h M hpl
  generalize hn : d.length = n at *
  replace hn := Lib.hid hn
  go_enter Try.func17, Try.ntmps17
  go_wp2_with (go_at_call 29; refine Md.out.mono ?_; rintro e w' ⟨rfl, rfl⟩)
  go_region_held3 (fun w' => w'.cell? ⟨b, 0, none⟩ = some (.slice oa n cap) ∧ w'.cell? ⟨b, 1, none⟩ = some (.map (some bm)) ∧ w'.cell? ⟨b, 2, none⟩ = some (.int .i64 p))
    (first
      | exact ⟨c0, c1, c2⟩
      | exact hold2
      | exact hold1
      | exact ⟨Below.keeps ((Below.refl _ _).alloc (Nat.le_refl _) _) hold2.1, Below.keeps ((Below.refl _ _).alloc (Nat.le_refl _) _) hold2.2.1, Below.keeps ((Below.refl _ _).alloc (Nat.le_refl _) _) hold2.2.2⟩)
    (first
      | (go_at_call 37; refine CL.out.mono ?_; rintro e w1 ⟨v1, rfl, hr1, hb1⟩; obtain ⟨oa1, cap1, rfl, _, _⟩ := ownsRow_shape hr1; have hold1 : w1.cell? ⟨b, 0, none⟩ = some (.slice oa n cap) ∧ w1.cell? ⟨b, 1, none⟩ = some (.map (some bm)) ∧ w1.cell? ⟨b, 2, none⟩ = some (.int .i64 p) := ⟨Below.keeps hb1 c0, Below.keeps hb1 c1, Below.keeps hb1 c2⟩)
      | (go_at_call 38; refine (ML.out w1 hb1).mono ?_; rintro e w2 ⟨rfl, hm2, hb2⟩; have hold2 : w2.cell? ⟨b, 0, none⟩ = some (.slice oa n cap) ∧ w2.cell? ⟨b, 1, none⟩ = some (.map (some bm)) ∧ w2.cell? ⟨b, 2, none⟩ = some (.int .i64 p) := ⟨Below.keeps hb2 hold1.1, Below.keeps hb2 hold1.2.1, Below.keeps hb2 hold1.2.2⟩))
  all_goals
    go_wp2
    go_ret
    obtain ⟨g1, g2, g3⟩ := fin.out w1 w2 _ hr1 (below_drew hb1) hm2 hb2
    exact ⟨_, _, _, rfl, g1, g3, g2⟩

theorem hp_copy {F : Nat → Prop} {w : World} {b p : Nat} {L : List T} (h : Hp F w b L p) :
    Calls Try.prog 17 #[.pointer (some ⟨b, 0, none⟩)] w fun e w' => ∃ c, e = .returned (.pointer (some ⟨c, 0, none⟩)) ∧ Hp (fun k => w.heap.size ≤ k) w' c L p ∧ Below w.heap.size w w' := by
  obtain ⟨bm, sv, d, h1, h2, h3, h4⟩ := h
  exact (copy_any h1).mono fun e w' ⟨c, cm, sv', he, g1, g2, g3⟩ => ⟨c, he, ⟨cm, sv', d, g1, h2, h3, g2⟩, g3⟩
end Go.Proofs.Ytabcifaknckomaa.HI
