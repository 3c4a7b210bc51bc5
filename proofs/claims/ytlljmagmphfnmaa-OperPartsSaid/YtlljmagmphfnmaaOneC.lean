/- (mkvb.py, out of One) The contract of value.isOne at right values. -/
import Derived.RangeFuncWrites
import Derived.Test.YtlljmagmphfnmaaIterC
namespace Go.Proofs.Ytlljmagmphfnmaa
open Go.RowKit Go.Shelf
attribute [local go_sem] Oper.semAt_some

theorem nodes_call (F : Fence) (n : Nat) (hF : F.fn 47) (hro : F.round = none) (a : Option Addr) (len cap : Nat) (w : World) :
    CallsIn F n Try.prog 47 #[.slice a len cap] w fun e w' => e = .returned (.func (.func 69) #[] #[.pointer (some ⟨w.heap.size, 0, none⟩)]) ∧ w' = w.alloc (.cells #[.slice a len cap] 23) := by
  refine callsIn_of_wp Try.func47 rfl hF ?_ hro
  simp only [Try.ntmps47, List.size_toArray, List.length_cons, List.length_nil, Nat.reduceAdd, Nat.reduceSub, Array.replicate_succ, Array.replicate_zero, List.push_toArray, List.append_toArray, List.nil_append, List.cons_append]
  gi_wp2
  go_ret
  exact ⟨rfl, rfl⟩

/-- The last of what came. -/
def lastG {d : List Nd} (pre : List (PairN d)) : Int := match (pre.map (·.1)).getLast? with | some x => (x.1 : Int) + 1 | none => 0
def lastM {d : List Nd} (pre : List (PairN d)) : Int := match (pre.map (·.1)).getLast? with | some x => x.2 | none => 1
theorem lastG_snoc {d : List Nd} (pre : List (PairN d)) (x : PairN d) : lastG (pre ++ [x]) = (x.1.1 : Int) + 1 := by unfold lastG; simp
theorem lastM_snoc {d : List Nd} (pre : List (PairN d)) (x : PairN d) : lastM (pre ++ [x]) = x.1.2 := by unfold lastM; simp
theorem last_come {d : List Nd} (hd : GoodV d) {ys : List (PairN d)} (h : ys.map (·.1) = comeN d d.length) : lastG ys = d.length ∧ lastM ys = 0 := by
  unfold lastG lastM
  rw [h]
  obtain ⟨k, hk⟩ : ∃ k, d.length = k + 1 := ⟨d.length - 1, by have := hd.ne; omega⟩
  have h1 : leftN (d.take (k + 1)) = 0 := by rw [List.take_of_length_le (by omega)]; exact hd.fin
  rw [hk, comeN_succ, h1]
  simp

theorem right_nd {nd : Nd} (h : RightNd nd) (w : World) : Calls Try.prog 48 #[ndV nd] w fun e w' => e = .returned (.bool true) ∧ Below w.heap.size w w' := by
  obtain ⟨k, kids, n, s, x, y⟩ := nd
  rcases h with ⟨_, h⟩ | ⟨_, h | h⟩ | ⟨_, h, _⟩ | ⟨_, h⟩ | ⟨_, h, hf, hx, hy⟩ | ⟨_, h⟩
  · cases h; exact right_go (by decide) (by decide) fine_00 (.inl ⟨rfl, rfl, rfl, rfl, rfl, rfl⟩) w
  · cases h; exact right_go (by decide) (by decide) fine_00 (.inr (.inl ⟨rfl, rfl, rfl, rfl, rfl, rfl⟩)) w
  · cases h; exact right_go (by decide) (by decide) fine_00 (.inr (.inr (.inl ⟨rfl, rfl, rfl, rfl, rfl, rfl⟩))) w
  · cases h; exact right_go (by decide) (by decide) fine_00 (.inr (.inr (.inr (.inl ⟨rfl, rfl, rfl, rfl, rfl⟩)))) w
  · cases h; exact right_go (by decide) (by decide) fine_00 (.inr (.inr (.inr (.inr (.inl ⟨rfl, rfl, rfl, rfl, rfl⟩))))) w
  · cases h; exact right_go hx hy hf (.inr (.inr (.inr (.inr (.inr (.inl ⟨rfl, rfl, rfl, rfl⟩)))))) w
  · cases h; exact right_go (by decide) (by decide) fine_00 (.inr (.inr (.inr (.inr (.inr (.inr ⟨rfl, rfl, rfl, rfl, rfl⟩)))))) w
theorem keeps_below {W W' : World} (h : Below W.heap.size W W') : KeepsOthers W W' :=
  KeepsOthers.of_grownBy (row := none) ⟨h.os, h.tape, h.output, h.size, fun k hk _ => h.block k hk⟩ (fun j o e => by cases e)
theorem boxed_below {W W' : World} {B : Nat} {t : TypeId} {v : Value} (h : Boxed W B t v) (hb : Below W.heap.size W W') : Boxed W' B t v := (hb.block B h.lt).trans h

set_option maxRecDepth 100000 in
set_option maxHeartbeats 4000000 in
theorem isOne_yes {w : World} {g cap : Nat} {d : List Nd} (hd : GoodV d) (hr : ∀ x ∈ d, RightNd x) (hkl : ∀ x ∈ d, x.kids < d.length) (hg : g < w.heap.size) (hrow : RowN w 0 (.slice (some ⟨g, 0, none⟩) d.length cap) d) :
    Calls Try.prog 27 #[.slice (some ⟨g, 0, none⟩) d.length cap] w fun e w' => e = .returned (.bool true) ∧ Below w.heap.size w w' := by
  have hsc := sc_any
  refine (callsIn_wide (n := 6)).1 ?_
  refine callsIn_of_wp_marks Try.func27 rfl trivial ?_ rfl
  simp only [Try.ntmps27, List.size_toArray, List.length_cons, List.length_nil, Nat.reduceAdd, Nat.reduceSub, Array.replicate_succ, Array.replicate_zero, List.push_toArray, List.append_toArray, List.nil_append, List.cons_append]
  gi_wp2_with (refine ⟨trivial, ?_⟩; gi_at_call 47; refine (nodes_call Fence.wide _ trivial rfl _ _ _ _).mono ?_; rintro e w' ⟨rfl, rfl⟩)
  have hex : ∃ W0, (((((w.alloc (.cells #[.slice (some ⟨g, 0, none⟩) d.length cap] 23)).alloc (.cells #[.bool false] 4)).alloc (.cells #[.int .i64 0] 3)).alloc (.cells #[.int .i64 1] 3)).alloc (.cells #[.slice (some ⟨g, 0, none⟩) d.length cap] 23)) = W0 := ⟨_, rfl⟩
  obtain ⟨W0, hW0⟩ := hex
  have b0 : Boxed W0 w.heap.size 23 (.slice (some ⟨g, 0, none⟩) d.length cap) := by rw [← hW0]; exact ((((Boxed.new w _ _).alloc _).alloc _).alloc _).alloc _
  have b1 : Boxed W0 (w.heap.size + 1) 4 (.bool false) := by
    rw [← hW0]
    have := Boxed.new (w.alloc (.cells #[.slice (some ⟨g, 0, none⟩) d.length cap] 23)) 4 (.bool false)
    rw [World.size_alloc] at this
    exact ((this.alloc _).alloc _).alloc _
  have b2 : Boxed W0 (w.heap.size + 1 + 1) 3 (.int .i64 0) := by
    rw [← hW0]
    have := Boxed.new ((w.alloc (.cells #[.slice (some ⟨g, 0, none⟩) d.length cap] 23)).alloc (.cells #[.bool false] 4)) 3 (.int .i64 0)
    rw [World.size_alloc, World.size_alloc] at this
    exact (this.alloc _).alloc _
  have b3 : Boxed W0 (w.heap.size + 1 + 1 + 1) 3 (.int .i64 1) := by
    rw [← hW0]
    have := Boxed.new (((w.alloc (.cells #[.slice (some ⟨g, 0, none⟩) d.length cap] 23)).alloc (.cells #[.bool false] 4)).alloc (.cells #[.int .i64 0] 3)) 3 (.int .i64 1)
    rw [World.size_alloc, World.size_alloc, World.size_alloc] at this
    exact this.alloc _
  have b4 : Boxed W0 (w.heap.size + 1 + 1 + 1 + 1) 23 (.slice (some ⟨g, 0, none⟩) d.length cap) := by
    rw [← hW0]
    have := Boxed.new ((((w.alloc (.cells #[.slice (some ⟨g, 0, none⟩) d.length cap] 23)).alloc (.cells #[.bool false] 4)).alloc (.cells #[.int .i64 0] 3)).alloc (.cells #[.int .i64 1] 3)) 23 (.slice (some ⟨g, 0, none⟩) d.length cap)
    rw [World.size_alloc, World.size_alloc, World.size_alloc, World.size_alloc] at this
    exact this
  have hB0 : Below w.heap.size w W0 := by
    rw [← hW0]
    exact (((((Below.refl _ w).alloc (Nat.le_refl _) _).alloc (by simp) _).alloc (by simp; omega) _).alloc (by simp; omega) _).alloc (by simp; omega) _
  have hsz : W0.heap.size = w.heap.size + 5 := by rw [← hW0]; simp
  rw [hW0]
  clear hW0
  refine wpIn_rangeFunc_ownF rfl (by omega) (gf := 69) (lb := #[.pointer (some ⟨w.heap.size + 1 + 1 + 1 + 1, 0, none⟩)]) rfl trivial (enters_of Try.func69 (by kernel_rfl) rfl)
    (nodes_stops Fence.wide 5 trivial rfl (by omega) (w.heap.size + 1 + 1 + 1 + 1) w.heap.size g cap d hd hg W0 (by omega) (by omega) b4.cell (hrow.below hB0)) belowK_t (belowK_b (by omega)) (Below.refl _ _) (fun _ => rfl)
    (fun pre W => Boxed W w.heap.size 23 (.slice (some ⟨g, 0, none⟩) d.length cap) ∧ (Boxed W (w.heap.size + 1) 4 (.bool false) ∧ (Boxed W (w.heap.size + 1 + 1) 3 (.int .i64 (lastG pre)) ∧ (Boxed W (w.heap.size + 1 + 1 + 1) 3 (.int .i64 (lastM pre)) ∧ Below w.heap.size w W))))
    (fun _ _ _ => False)
    (OwnFrom.and (Own.from (boxed_own _ _ (fun _ => .slice (some ⟨g, 0, none⟩) d.length cap)) _) (OwnFrom.and (Own.from (boxed_own _ _ (fun _ => .bool false)) _) (OwnFrom.and (Own.from (boxed_own _ _ (fun pre => .int .i64 (lastG pre))) _) (OwnFrom.and (Own.from (boxed_own _ _ (fun pre => .int .i64 (lastM pre))) _) (ownFrom_below (Nat.le_refl _) (by omega))))))
    (fun _ _ _ _ _ hs _ _ => hs)
    ⟨b0, b1, b2, b3, hB0⟩
    (fun x => { tmps := #[.slice (some ⟨g, 0, none⟩) d.length cap, .pointer (some ⟨w.heap.size, 0, none⟩), .pointer (some ⟨w.heap.size + 1, 0, none⟩), .pointer (some ⟨w.heap.size + 1 + 1, 0, none⟩), .pointer (some ⟨w.heap.size + 1 + 1 + 1, 0, none⟩), .int .i64 (x.1.1 : Int), .int .i64 x.1.2, undef, .slice (some ⟨g, 0, none⟩) d.length cap, .func (.func 69) #[] #[.pointer (some ⟨w.heap.size + 1 + 1 + 1 + 1, 0, none⟩)], .int .i64 (x.1.1 : Int), .int .i64 x.1.2, undef, undef, undef, undef, undef, undef, undef, undef, undef, undef, undef, undef, undef, undef, undef, undef, undef, undef, undef, undef, undef, undef, undef, undef, undef], defers := [] }) ?assign ?body ?done ?stop
  case assign =>
    intro l x W K hK
    gi_wp2
    exact hK
  case body =>
    rintro l pre ⟨⟨k, z⟩, hlt⟩ W ⟨q0, q1, q2, q3, hBW⟩ _
    simp only at hlt
    obtain ⟨x0, x1, x2, x3, x4⟩ := rowN_cells (hrow.below hBW) hlt
    have hnd := hr _ (List.getElem_mem hlt)
    have hkid := hkl _ (List.getElem_mem hlt)
    generalize hdk : d[k] = nd at x0 x1 x2 x3 x4 hnd hkid
    clear hdk
    have hRi := right_nd hnd
    obtain ⟨nk, nkids, nn, ns, nx, ny⟩ := nd
    simp only [ndV] at x0 x1 x2 x3 x4 hkid hRi
    have hkid' : ¬ (d.length : Int) ≤ (nkids : Int) := by omega
    have hki : (k : Int) < d.length := by omega
    have hfew := hd.few
    have c0 := q0.cell
    have hW1 : Below w.heap.size w (W.alloc (.cells #[.int .u8 nk, .int .i64 nkids, .int .i64 nn, .string ns, .complex .f64 nx ny] 37)) := hBW.alloc hBW.size _
    have hW2 := fun W2 (hb : Below (W.alloc (.cells #[.int .u8 nk, .int .i64 nkids, .int .i64 nn, .string ns, .complex .f64 nx ny] 37)).heap.size (W.alloc (.cells #[.int .u8 nk, .int .i64 nkids, .int .i64 nn, .string ns, .complex .f64 nx ny] 37)) W2) => (cells5 ((hb.block W.heap.size (by simp)).trans (heap_alloc_new W _))).2.1
    gi_wp2_with (refine ⟨trivial, ?_⟩; gi_at_call 48; refine (CallsIn.inRound l (callsIn_wide.2 (hRi _))).mono ?_; rintro e W2 ⟨rfl, hb⟩; have ck := hW2 _ hb; have p0 := boxed_below (q0.alloc _) hb; have p1 := boxed_below (q1.alloc _) hb; have p2 := boxed_below (q2.alloc _) hb; have p3 := boxed_below (q3.alloc _) hb; have p0c := p0.cell; have p2c := p2.cell; have p2f := p2.frozen; have p3c := p3.cell; have p3f := p3.frozen; have hB2 := hW1.trans (hb.mono hW1.size))
    refine ⟨((((KeepsOthers.alloc W _).trans (keeps_below hb)).trans (KeepsOthers.setCell _ _ _)).trans (KeepsOthers.setCell _ _ _)), ?_, ?_, ?_, ?_, ?_, ?_⟩
    · exact (((((Below.refl w.heap.size W).alloc hBW.size _).trans (hb.mono (by have := hBW.size; simp; omega))).setCell (p := ⟨w.heap.size + 1 + 1, 0, none⟩) (by show _ ≤ w.heap.size + 1 + 1; omega) _).setCell (p := ⟨w.heap.size + 1 + 1 + 1, 0, none⟩) (by show _ ≤ w.heap.size + 1 + 1 + 1; omega) _)
    · exact (p0.other (by omega) _).other (by omega) _
    · exact (p1.other (by omega) _).other (by omega) _
    · rw [lastG_snoc]; exact (p2.set _).other (by omega) _
    · rw [lastM_snoc]; exact (p3.other (by omega) _).set _
    · exact (hB2.setCell (p := ⟨w.heap.size + 1 + 1, 0, none⟩) (by show _ ≤ w.heap.size + 1 + 1; omega) _).setCell (p := ⟨w.heap.size + 1 + 1 + 1, 0, none⟩) (by show _ ≤ w.heap.size + 1 + 1 + 1; omega) _
  case done =>
    rintro D ys W hD hys ⟨q0, q1, q2, q3, hBW⟩ hK
    obtain ⟨e1, e2⟩ := last_come hd hys
    rw [e1] at q2
    rw [e2] at q3
    have c0 := q0.cell
    have c1 := q1.cell
    have f1 := q1.frozen
    have c2 := q2.cell
    have c3 := q3.cell
    gi_wp2
    have hK' := (KeepsOthers.setCell W ⟨w.heap.size + 1, 0, none⟩ (.bool true)).same D _ hK rfl
    refine ⟨by simp, .inl ⟨_, _, rfl, run_takeDeferred hK', ?_⟩⟩
    have hc5 := Go.cell_kept (q1.set (.bool true)).cell (grownBy_putObj' _ D (.deferred none)) (fun r e => by cases e; exact ⟨_, hK', rfl⟩)
    refine ⟨.bool true, ?_, rfl, (hBW.setCell (p := ⟨w.heap.size + 1, 0, none⟩) (by show _ ≤ w.heap.size + 1; omega) _).trans (belowK_b (w := w) (Nat.le_refl _) _ D _ _ (by omega) hK' rfl rfl)⟩
    simp [results, Try.f27, go_sem, hc5]
  case stop =>
    rintro D c pre W _ _ h _
    exact h.elim
end Go.Proofs.Ytlljmagmphfnmaa
