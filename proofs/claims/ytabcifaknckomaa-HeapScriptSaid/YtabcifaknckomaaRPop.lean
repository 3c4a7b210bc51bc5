/- The document's own heap: Peek, Pop. -/
import Derived.Test.YtabcifaknckomaaROps
namespace Go.Proofs.Ytabcifaknckomaa.RF
open Go.RowKit HI

/-- A thing as a value. -/
def agT (k n v : Int) : Value := .agg #[.int .i64 k, .int .i64 n, .int .i64 v]

theorem stored3 {W : World} {b : Nat} {x0 x1 x2 : Value} {t : TypeId} (h : W.heap[b]? = some (.cells #[x0, x1, x2] t (0, 0))) (a c d : Value) :
    (((W.setCell ⟨b, 0, none⟩ a).setCell ⟨b, 1, none⟩ c).setCell ⟨b, 2, none⟩ d).heap[b]? = some (.cells #[a, c, d] t (0, 0)) ∧ Only (fun k => k = b) W (((W.setCell ⟨b, 0, none⟩ a).setCell ⟨b, 1, none⟩ c).setCell ⟨b, 2, none⟩ d) := by
  constructor
  · have a1 := heap_setCell_same W b 0 _ _ a h
    have a2 := heap_setCell_same _ b 1 _ _ c a1
    have a3 := heap_setCell_same _ b 2 _ _ d a2
    simpa using a3
  · exact (((Only.refl (fun k => k = b) W).setCell (p := ⟨b, 0, none⟩) (.inl rfl) a).setCell (p := ⟨b, 1, none⟩) (.inl rfl) c).setCell (p := ⟨b, 2, none⟩) (.inl rfl) d
theorem cells3 {W : World} {b : Nat} {x0 x1 x2 : Value} {t : TypeId} (h : W.heap[b]? = some (.cells #[x0, x1, x2] t (0, 0))) : W.cell? ⟨b, 0, none⟩ = some x0 ∧ W.cell? ⟨b, 1, none⟩ = some x1 ∧ W.cell? ⟨b, 2, none⟩ = some x2 := by
  refine ⟨?_, ?_, ?_⟩ <;> simp [World.cell?, h]
theorem free3 {W : World} {b : Nat} {x0 x1 x2 : Value} {t : TypeId} (h : W.heap[b]? = some (.cells #[x0, x1, x2] t (0, 0))) : W.frozen? ⟨b, 0, none⟩ = false ∧ W.frozen? ⟨b, 1, none⟩ = false ∧ W.frozen? ⟨b, 2, none⟩ = false := by
  refine ⟨?_, ?_, ?_⟩ <;> simp [World.frozen?, h]

theorem results_peek {W : World} {b : Nat} {k n v : Int} {is : Bool} {tmps : Array Value} (h2 : tmps.getD 2 undef = .pointer (some ⟨b, 0, none⟩)) (h3 : tmps.getD 3 undef = .bool is) (hc : W.heap[b]? = some (.cells #[.int .i64 k, .int .i64 n, .int .i64 v] 36 (0, 0))) :
    (results Try.f20 tmps).run Try.prog W = .ok (.tuple #[agT k n v, .bool is]) W := by
  obtain ⟨c0, c1, c2⟩ := cells3 hc
  have h2' : tmps[2]?.getD undef = .pointer (some ⟨b, 0, none⟩) := by simpa using h2
  have h3' : tmps[3]?.getD undef = .bool is := by simpa using h3
  unfold agT
  simp [results, Try.results20, go_sem, h2', h3', c0, c1, c2]
theorem results_pop {W : World} {b : Nat} {k n v : Int} {is : Bool} {tmps : Array Value} (h2 : tmps.getD 2 undef = .pointer (some ⟨b, 0, none⟩)) (h3 : tmps.getD 3 undef = .bool is) (hc : W.heap[b]? = some (.cells #[.int .i64 k, .int .i64 n, .int .i64 v] 36 (0, 0))) :
    (results Try.f12 tmps).run Try.prog W = .ok (.tuple #[agT k n v, .bool is]) W := by
  obtain ⟨c0, c1, c2⟩ := cells3 hc
  have h2' : tmps[2]?.getD undef = .pointer (some ⟨b, 0, none⟩) := by simpa using h2
  have h3' : tmps[3]?.getD undef = .bool is := by simpa using h3
  unfold agT
  simp [results, Try.results12, go_sem, h2', h3', c0, c1, c2]

theorem first_none {r nx : Nat} {rv : Value} {R : List T} {w1 : World} (h : RefAt w1 r rv R nx) (h0 : R.length = 0) : Calls Try.prog 32 #[.pointer (some ⟨r, 0, none⟩)] w1 fun e w' => e = .returned (.int .i64 (-1)) ∧ ∃ q, w' = w1.drewN q :=
  (first_any h).mono fun e w' ⟨hq, hor⟩ => by
    rcases hor with ⟨_, he⟩ | ⟨m, hm, _⟩
    · exact ⟨he, hq⟩
    · have := hm.1; omega
theorem first_some {r nx : Nat} {rv : Value} {R : List T} {w1 : World} (h : RefAt w1 r rv R nx) (h0 : 0 < R.length) : Calls Try.prog 32 #[.pointer (some ⟨r, 0, none⟩)] w1 fun e w' => ∃ m q, e = .returned (.int .i64 (m : Nat)) ∧ FK R R.length m ∧ w' = w1.drewN q :=
  (first_any h).mono fun e w' ⟨⟨q, hq⟩, hor⟩ => by
    rcases hor with ⟨hn, _⟩ | ⟨m, hm, he⟩
    · omega
    · exact ⟨m, q, he, hm, hq⟩
/-- The zero thing's block. -/
abbrev zB : Obj := .cells #[.int .i64 0, .int .i64 0, .int .i64 0] 36
theorem zB_at (w : World) (q : Nat) : ((w.alloc zB).drewN q).heap[w.heap.size]? = some (.cells #[.int .i64 0, .int .i64 0, .int .i64 0] 36 (0, 0)) := heap_alloc_new w _

set_option maxHeartbeats 1000000 in
theorem rpeek_none {r nx : Nat} {rv : Value} {R : List T} {w : World} (h : RefAt w r rv R nx) (h0 : R.length = 0) :
    Calls Try.prog 20 #[.pointer (some ⟨r, 0, none⟩)] w fun e w' => e = .returned (.tuple #[agT 0 0 0, .bool false]) ∧ Below w.heap.size w w' := by
  have h1 := h.kept (F := fun _ => False) ((Only.refl _ w).alloc zB) (fun _ _ h => h)
  have F := Lib.hid (first_none h1 h0)
  clear h h1 h0
  go_enter Try.func20, Try.ntmps20
  go_wp2_with (go_at_call 32; refine F.out.mono ?_; rintro e w1 ⟨rfl, q, rfl⟩)
  obtain ⟨s1, s2⟩ := stored3 (zB_at w q) (.int .i64 0) (.int .i64 0) (.int .i64 0)
  refine bodyPost_ret (results_peek rfl rfl s1) rfl ⟨rfl, ?_⟩
  exact (below_drewN (n := q) ((Below.refl _ w).alloc (Nat.le_refl _) zB)).trans (s2.below (by show w.heap.size ≤ (w.alloc zB).heap.size; simp) (fun k hk e => by omega))

set_option maxHeartbeats 1000000 in
theorem rpeek_some {r nx : Nat} {rv : Value} {R : List T} {w : World} (h : RefAt w r rv R nx) (hr : Rising R) (h0 : 0 < R.length) :
    Calls Try.prog 20 #[.pointer (some ⟨r, 0, none⟩)] w fun e w' => ∃ x, e = .returned (.tuple #[agT x.key x.num x.v, .bool true]) ∧ IsFirst x R ∧ Below w.heap.size w w' := by
  have h1 := h.kept (F := fun _ => False) ((Only.refl _ w).alloc zB) (fun _ _ h => h)
  have F := Lib.hid (first_some h1 h0)
  have hlim := h.len
  replace hr := Lib.hid hr
  replace h1 := Lib.hid h1
  clear h
  go_enter Try.func20, Try.ntmps20
  go_wp2_with fail
  refine F.out.mono ?_
  rintro e w1 ⟨m, q, rfl, hm, rfl⟩
  have h2 := h1.out.drewN q
  have hml := hm.1
  obtain ⟨g, cap, rfl, _, hgl, hnc, hcm, _⟩ := ownsRow_head h2.row (by omega)
  have c0 := h2.c0
  obtain ⟨x0, x1, x2⟩ := ref_cells h2.row rfl hml
  have hi1 : (m : Int) < R.length := by omega
  have hz := zB_at w q
  obtain ⟨z0, z1, z2⟩ := cells3 hz
  obtain ⟨f0, f1, f2⟩ := free3 hz
  have hff := Lib.hid (fk_first hm hr.out)
  have S := Lib.hid (stored3 hz)
  obtain ⟨kk, hkk⟩ := exHid (at_ R m).key
  obtain ⟨kn, hkn⟩ := exHid (at_ R m).num
  obtain ⟨kv, hkv⟩ := exHid (at_ R m).v
  rw [hkk.out] at x0
  rw [hkn.out] at x1
  rw [hkv.out] at x2
  have hB := Lib.hid (below_drewN (n := q) ((Below.refl w.heap.size w).alloc (Nat.le_refl _) zB))
  have hsz : w.heap.size < ((w.alloc zB).drewN q).heap.size := by show w.heap.size < (w.alloc zB).heap.size; simp
  replace hm := Lib.hid hm
  generalize R.length = n at *
  generalize (w.alloc zB).drewN q = wq at *
  clear h2 hz
  go_wp2
  refine bodyPost_ret (results_peek rfl rfl (S.out _ _ _).1) rfl ⟨at_ R m, by rw [hkk.out, hkn.out, hkv.out], hff.out, hB.out.trans ((S.out _ _ _).2.below (by omega) (fun k hk e => by omega))⟩

set_option maxHeartbeats 1000000 in
theorem rpop_none {r nx : Nat} {rv : Value} {R : List T} {w : World} (h : RefAt w r rv R nx) (h0 : R.length = 0) :
    Calls Try.prog 12 #[.pointer (some ⟨r, 0, none⟩)] w fun e w' => e = .returned (.tuple #[agT 0 0 0, .bool false]) ∧ Below w.heap.size w w' := by
  have h1 := h.kept (F := fun _ => False) ((Only.refl _ w).alloc zB) (fun _ _ h => h)
  have F := Lib.hid (first_none h1 h0)
  clear h h1 h0
  go_enter Try.func12, Try.ntmps12
  go_wp2_with (go_at_call 32; refine F.out.mono ?_; rintro e w1 ⟨rfl, q, rfl⟩)
  obtain ⟨s1, s2⟩ := stored3 (zB_at w q) (.int .i64 0) (.int .i64 0) (.int .i64 0)
  refine bodyPost_ret (results_pop rfl rfl s1) rfl ⟨rfl, ?_⟩
  exact (below_drewN (n := q) ((Below.refl _ w).alloc (Nat.le_refl _) zB)).trans (s2.below (by show w.heap.size ≤ (w.alloc zB).heap.size; simp) (fun k hk e => by omega))

set_option maxHeartbeats 2000000 in
theorem rpop_some {r nx : Nat} {rv : Value} {R : List T} {w : World} (h : RefAt w r rv R nx) (hr : Rising R) (h0 : 0 < R.length) :
    Calls Try.prog 12 #[.pointer (some ⟨r, 0, none⟩)] w fun e w' => ∃ m, e = .returned (.tuple #[agT (at_ R m).key (at_ R m).num (at_ R m).v, .bool true]) ∧ m < R.length ∧ IsFirst (at_ R m) R ∧ ∃ rv', RefAt w' r rv' (R.eraseIdx m) nx ∧ Only (fun k => k = r) w w' ∧ ∀ g, rv'.ownBlock = some g → w.heap.size ≤ g := by
  have h1 := h.kept (F := fun _ => False) ((Only.refl _ w).alloc zB) (fun _ _ h => h)
  have F := Lib.hid (first_some h1 h0)
  have hlim := h.len
  have hrl := h.lt
  replace hr := Lib.hid hr
  replace h1 := Lib.hid h1
  clear h
  go_enter Try.func12, Try.ntmps12
  go_wp2_with fail
  refine F.out.mono ?_
  rintro e w1 ⟨m, q, rfl, hm, rfl⟩
  have h2 := h1.out.drewN q
  have hml := hm.1
  have hsv := ownsRow_head h2.row (by omega)
  obtain ⟨g, cap, rfl, _, hgl, hnc, hcm, _⟩ := hsv
  have c0 := h2.c0
  obtain ⟨x0, x1, x2⟩ := ref_cells h2.row rfl hml
  have hi1 : (m : Int) < R.length := by omega
  have hz := zB_at w q
  have hff := Lib.hid (fk_first hm hr.out)
  obtain ⟨kk, hkk⟩ := exHid (at_ R m).key
  obtain ⟨kn, hkn⟩ := exHid (at_ R m).num
  obtain ⟨kv, hkv⟩ := exHid (at_ R m).v
  rw [hkk.out] at x0
  rw [hkn.out] at x1
  rw [hkv.out] at x2
  have hB := Lib.hid (below_drewN (n := q) ((Below.refl w.heap.size w).alloc (Nat.le_refl _) zB))
  have hsz : w.heap.size < ((w.alloc zB).drewN q).heap.size := by show w.heap.size < (w.alloc zB).heap.size; simp
  have hml' := Lib.hid hml
  replace hm := Lib.hid hm
  replace h2 := Lib.hid h2
  generalize hwq : (w.alloc zB).drewN q = wq at *
  clear hwq h1 F hml
  replace hz := Lib.hid hz
  have h3 := h2.out.kept (F := fun _ => False) ((Only.refl _ wq).alloc (.cells #[.int .i64 kk, .int .i64 kn, .int .i64 kv] 36)) (fun _ _ h => h)
  have OUT := Lib.hid (out_any h3 hml'.out)
  clear h3
  generalize hnn : R.length = n at *
  go_wp2_with fail
  refine OUT.out.mono ?_
  rintro e w4 ⟨rfl, rv4, hR4, ho4, hown4⟩
  have hxb : (wq.alloc (.cells #[.int .i64 kk, .int .i64 kn, .int .i64 kv] 36)).heap[wq.heap.size]? = some (.cells #[.int .i64 kk, .int .i64 kn, .int .i64 kv] 36 (0, 0)) := heap_alloc_new wq _
  have hx4 := (ho4.block wq.heap.size (by simp) (fun e => by omega)).trans hxb
  have hz4 := (ho4.block w.heap.size (by simp; omega) (fun e => by omega)).trans ((Below.heap_alloc _ _ _ hsz).trans hz.out)
  obtain ⟨y0, y1, y2⟩ := cells3 hx4
  obtain ⟨z0, z1, z2⟩ := cells3 hz4
  obtain ⟨f0, f1, f2⟩ := free3 hz4
  have S := Lib.hid (stored3 hz4)
  have hoA : Only (fun k => k = r) wq (wq.alloc (.cells #[.int .i64 kk, .int .i64 kn, .int .i64 kv] 36)) := (Only.refl _ wq).alloc _
  have hoF : Only (fun k => k = r) w w4 := ((Only.of_below (F := fun k => k = r) hB.out).then hoA).then ho4
  have hs4 : wq.heap.size ≤ w4.heap.size := Nat.le_trans (by simp) ho4.size
  have hR5 := fun W (ho : Only (fun k => k = w.heap.size) w4 W) => hR4.kept ho (fun k hk e => by
    rcases hk with e2 | e2
    · omega
    · have := hown4 k e2; simp at this; omega)
  replace hR5 := Lib.hid hR5
  have hown5 := Lib.hid (fun g hg => (show w.heap.size ≤ g by have := hown4 g hg; simp at this; omega))
  replace hoF := Lib.hid hoF
  clear hxb hx4 hz4 hoA ho4 hown4 hR4
  go_wp2
  refine bodyPost_ret (results_pop rfl rfl (S.out _ _ _).1) rfl ⟨m, by rw [hkk.out, hkn.out, hkv.out], by rw [hnn]; exact hml'.out, hff.out, rv4, hR5.out _ (S.out _ _ _).2, hoF.out.trans (S.out _ _ _).2 (fun k _ e => e) (fun k hk e => by omega), hown5.out⟩
end Go.Proofs.Ytabcifaknckomaa.RF
