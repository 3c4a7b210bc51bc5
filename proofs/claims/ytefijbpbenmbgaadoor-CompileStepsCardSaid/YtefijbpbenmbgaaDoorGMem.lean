/- compile's memory (layer 15): the compiler's block, the code as far as it is written, the twigs and slots that are left. No condition. -/
import Derived.Test.YtefijbpbenmbgaaDoorGenP
import Derived.Test.YtefijbpbenmbgaaDoorIWs
import Derived.Test.YtefijbpbenmbgaaDoorCkM
namespace Go.Proofs.YtefijbpbenmbgaaDoor
open Go.RowKit Go.Shelf

/-- Whole numbers lie in memory as v. -/
def NumsIn (w : World) (v : Value) (l : List Int) : Prop :=
  ∃ a cap, v = .slice a l.length cap ∧ l.length ≤ cap ∧ cap ≤ 9223372036854775807 ∧ (0 < l.length → ∃ g off, a = some ⟨g, off, none⟩ ∧ g < w.heap.size ∧ ∀ i (hi : i < l.length), w.cell? ⟨g, off + i, none⟩ = some (.int .i64 l[i]))
theorem IntsAt.nums {w : World} {base : Nat} {v : Value} {l : List Int} (h : IntsAt w base v l) : NumsIn w v l := by
  rcases h.2 with ⟨hv, h0⟩ | ⟨g, cap, cur, hv, hb, hg, hnc, hcm, hsz, ht⟩
  · exact ⟨none, 0, by rw [hv, h0], by omega, by omega, fun h => by omega⟩
  · refine ⟨_, cap, hv, hnc, by unfold maxLen at hcm; omega, fun h0 => ⟨g, 0, rfl, (Array.getElem?_eq_some_iff.1 hg).1, fun i hi => ?_⟩⟩
    have hh := h
    unfold IntsAt at hh
    rw [hv] at hh
    have := World.ownsRow.cellAt (g := g) (cap := cap) hh i (by omega)
    rw [Nat.zero_add, this, List.getElem?_map, List.getElem?_eq_getElem hi]
    rfl
theorem NumsIn.below {w W : World} {v : Value} {l : List Int} (h : NumsIn w v l) (hb : Below w.heap.size w W) : NumsIn W v l := by
  obtain ⟨a, cap, rfl, h1, h2, h3⟩ := h
  refine ⟨a, cap, rfl, h1, h2, fun h0 => ?_⟩
  obtain ⟨g, off, rfl, hg, hc⟩ := h3 h0
  exact ⟨g, off, rfl, Nat.lt_of_lt_of_le hg hb.size, fun i hi => (hb.cell (p := ⟨g, off + i, none⟩) hg).trans (hc i hi)⟩
set_option maxRecDepth 20000 in
theorem size_ints (W : World) : (sizeOf (Tryd.prog.elem 41)).run Tryd.prog W = .ok 1 W := by kernel_rfl
set_option maxRecDepth 20000 in
theorem size_twigs (W : World) : (sizeOf (Tryd.prog.elem 22)).run Tryd.prog W = .ok 4 W := by kernel_rfl
set_option maxRecDepth 20000 in
theorem NumsIn.tail {w : World} {v : Value} {s : Int} {l : List Int} (h : NumsIn w v (s :: l)) : ∃ u, (∀ W, (Instr.slice 41 v (some (.int .i64 1)) none none).run Tryd.prog W = .ok u W) ∧ NumsIn w u l := by
  obtain ⟨a, cap, rfl, hc, hm, h3⟩ := h
  simp only [List.length_cons] at *
  obtain ⟨g, off, rfl, hg, hcc⟩ := h3 (by omega)
  refine ⟨.slice (if cap = 1 then some ⟨g, off, none⟩ else some ⟨g, off + 1, none⟩) l.length (cap - 1), fun W => ?_, ?_⟩
  · rw [run_slice_l (P := Tryd.prog) (w := W) 41 _ (l.length + 1) cap Tryd.underlying41 .i64 1 (by omega) (by omega), size_ints]
    simp [Result.andThen, sliced, Addr.add]
  · refine ⟨_, _, rfl, by omega, by omega, fun h0 => ?_⟩
    rw [if_neg (by omega)]
    refine ⟨g, off + 1, rfl, hg, fun i hi => ?_⟩
    have := hcc (i + 1) (by omega)
    rw [show off + 1 + i = off + (i + 1) by omega, this]
    rfl
set_option maxRecDepth 20000 in
theorem TwIn.tail1 {w : World} {v : Value} {x : Tw} {l : List Tw} (h : TwIn w v (x :: l)) : ∃ u, (∀ W, (Instr.slice 22 v (some (.int .i64 1)) none none).run Tryd.prog W = .ok u W) ∧ TwIn w u l := by
  obtain ⟨a, cap, rfl, hc, hm, h3⟩ := h
  simp only [List.length_cons] at *
  obtain ⟨g, off, rfl, hg, hcc⟩ := h3 (by omega)
  refine ⟨.slice (if cap = 1 then some ⟨g, off, none⟩ else some ⟨g, off + 4, none⟩) l.length (cap - 1), fun W => ?_, ?_⟩
  · rw [run_slice_l (P := Tryd.prog) (w := W) 22 _ (l.length + 1) cap Tryd.underlying22 .i64 1 (by omega) (by omega), size_twigs]
    simp [Result.andThen, sliced, Addr.add]
  · refine ⟨_, _, rfl, by omega, by omega, fun h0 => ?_⟩
    rw [if_neg (by omega)]
    refine ⟨g, off + 4, rfl, hg, fun i hi c hc4 => ?_⟩
    have := hcc (i + 1) (by omega) c hc4
    rw [show off + 4 + i * 4 + c = off + (i + 1) * 4 + c by omega, this]
    rfl
/-- The compiler, as compile goes through a tree: the twigs that are left, the code so far. -/
structure CM (w0 W : World) (bc : Nat) (tl : List Tw) (code : List Ins) : Prop where
  b : Below w0.heap.size w0 W
  hb : w0.heap.size ≤ bc
  mem : ∃ cv tv sv sl, W.heap[bc]? = some (.cells #[cv, tv, sv] 47 (0, 0)) ∧ InsAt W w0.heap.size cv code ∧ TwIn w0 tv tl ∧ NumsIn w0 sv sl ∧ SlotsFit tl sl
  fit : ∀ x ∈ tl, FitT x
/-- The blocks that it may turn. -/
def Fcm (base : Nat) (w : World) (k : Nat) : Prop := base ≤ k ∧ ∀ c t fr, w.heap[k]? = some (.cells c t fr) → t = 47 ∨ t = 36
section
variable {w0 w W : World} {bc : Nat} {tl : List Tw} {code : List Ins}
theorem notC {base k : Nat} {cs : Array Value} {t : TypeId} {fr : Nat × Nat} (h : w.heap[k]? = some (.cells cs t fr)) (ht : t ≠ 47 ∧ t ≠ 36) : ¬ Fcm base w k := fun e => by
  rcases e.2 _ _ _ h with h | h
  · exact ht.1 h
  · exact ht.2 h
theorem cm_back {base : Nat} (ho : Only (Fcm base w) w W) {k : Nat} (_hk : k < w.heap.size) (h : Fcm base W k) : Fcm base w k := by
  by_cases hw : Fcm base w k
  · exact hw
  · have e := ho.block k _hk hw
    exact ⟨h.1, fun c t fr hc => h.2 c t fr (e.trans hc)⟩
theorem cm_then {base : Nat} {W2 : World} (h1 : Only (Fcm base w) w W) (h2 : Only (Fcm base W) W W2) : Only (Fcm base w) w W2 := h1.trans h2 (fun _ _ h => h) (fun _ hk h => cm_back h1 hk h)
theorem InsAt.block {base : Nat} {v : Value} {ns : List Ins} (h : InsAt w base v ns) {g : Nat} (hg : v.ownBlock = some g) : base ≤ g ∧ g < w.heap.size ∧ ∃ cur, w.heap[g]? = some (.cells cur 36 (0, 0)) := by
  rcases h.2 with ⟨hv, _⟩ | ⟨g', cap, cur, hv, hb, hgg, _⟩
  · rw [hv] at hg; cases hg
  · rw [hv] at hg
    have e1 : g = g' := by simpa [Value.ownBlock] using hg.symm
    subst e1
    exact ⟨hb, (Array.getElem?_eq_some_iff.1 hgg).1, _, hgg⟩
theorem InsAt.apart {base : Nat} {v : Value} {ns : List Ins} {cs : Array Value} {t : TypeId} {gl : Nat} (h : InsAt w base v ns) (hs : w.heap[gl]? = some (.cells cs t (0, 0))) (ht : t ≠ 36) : ¬ v.ownBlock = some gl := by
  intro e
  obtain ⟨_, _, cur, h3⟩ := h.block e
  rw [h3] at hs
  injection hs with hs
  injection hs with _ hs _
  exact ht hs.symm
/-- New memory, or what was made since, turns nothing. -/
theorem CM.below (h : CM w0 w bc tl code) (hb : Below w.heap.size w W) : CM w0 W bc tl code := by
  obtain ⟨cv, tv, sv, sl, h1, h2, h3, h4, h5⟩ := h.mem
  exact ⟨h.b.trans (hb.mono h.b.size), h.hb, ⟨cv, tv, sv, sl, heldC (F := fun _ => False) (Only.of_below hb) h1 (fun e => e), h2.below hb, h3, h4, h5⟩, h.fit⟩
/-- The code is another one, the rest is as it was. -/
theorem CM.coded {code2 : List Ins} {cs : Array Value} {cv2 tv sv : Value} {sl : List Int} (h : CM w0 w bc tl code) (_hc : w.heap[bc]? = some (.cells cs 47 (0, 0))) (h3 : TwIn w0 tv tl) (h4 : NumsIn w0 sv sl) (h5 : SlotsFit tl sl)
    (hB : Below w0.heap.size w0 W) (hi : InsAt W w0.heap.size cv2 code2) (hm : W.heap[bc]? = some (.cells #[cv2, tv, sv] 47 (0, 0))) : CM w0 W bc tl code2 :=
  ⟨hB, h.hb, ⟨cv2, tv, sv, sl, hm, hi, h3, h4, h5⟩, h.fit⟩
end
/-- A cell of a block of three written over. -/
theorem stored3 {W : World} {b : Nat} {x0 x1 x2 : Value} {t : TypeId} (h : W.heap[b]? = some (.cells #[x0, x1, x2] t (0, 0))) (a : Value) : (W.setCell ⟨b, 0, none⟩ a).heap[b]? = some (.cells #[a, x1, x2] t (0, 0)) := by
  have := heap_setCell_same W b 0 _ _ a h
  simpa using this
end Go.Proofs.YtefijbpbenmbgaaDoor
