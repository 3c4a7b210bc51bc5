/- The document's own heap: Push, Peek, Pop, Remove, Change. -/
import Derived.Test.YtabcifaknckomaaROut
namespace Go.Proofs.Ytabcifaknckomaa.RF
open Go.RowKit HI

theorem rpush_mid {wA w1 : World} {r n cap : Nat} {oa : Option Addr} {u : Value} (st : wA.heap[r]? = some (.cells #[.slice oa n cap, u] 29 (0, 0))) (hg : wA.grownBy w1 (Value.slice oa n cap).ownBlock)
    (hne : ∀ g, (Value.slice oa n cap).ownBlock = some g → g ≠ r) :
    w1.heap[r]? = some (.cells #[.slice oa n cap, u] 29 (0, 0)) ∧ w1.cell? ⟨r, 0, none⟩ = some (.slice oa n cap) ∧ w1.cell? ⟨r, 1, none⟩ = some u ∧ w1.frozen? ⟨r, 0, none⟩ = false ∧ w1.frozen? ⟨r, 1, none⟩ = false := by
  have O1 : Only (fun k => (Value.slice oa n cap).ownBlock = some k) wA w1 := Only.of_grown hg (fun k e => e)
  have st1 := (O1.block r (Array.getElem?_eq_some_iff.1 st).1 (fun e => hne r e rfl)).trans st
  exact ⟨st1, by simp [World.cell?, st1], by simp [World.cell?, st1], by simp [World.frozen?, st1], by simp [World.frozen?, st1]⟩

set_option maxRecDepth 100000 in
set_option maxHeartbeats 2000000 in
theorem rpush_any {r nx : Nat} {rv : Value} {R : List T} {w : World} (h : RefAt w r rv R nx) (hlen : R.length < 100000) (hlim : nx < 100000) (key v : Int) :
    Calls Try.prog 10 #[.pointer (some ⟨r, 0, none⟩), .int .i64 key, .int .i64 v] w fun e w' => e = .returned (.int .i64 nx) ∧ ∃ rv', RefAt w' r rv' (R ++ [⟨key, nx, v⟩]) (nx + 1) ∧ OwnNext w rv rv' ∧ Only (Foot r rv) w w' := by
  obtain ⟨oa, cap, rfl, hnc, hcm⟩ := ownsRow_shape h.row
  obtain ⟨n, hn⟩ : ∃ n, n = R.length := ⟨_, rfl⟩
  rw [← hn] at h ⊢ hnc hlen
  have c0 := h.c0
  have c1 := h.c1
  have hr := h.lt
  have hrow := h.row
  rw [← hn] at hrow
  obtain ⟨i0, hi, hz0, hz1, hz2⟩ := info_parts infoR
  have hg := fun g hg => (h.g_ne (g := g) hg)
  have stA : (w.alloc (.cells #[.int .i64 key, .int .i64 nx, .int .i64 v] 36)).heap[r]? = some (.cells #[.slice oa n cap, .int .i64 nx] 29 (0, 0)) := by
    rw [Below.heap_alloc _ _ _ hr]; exact h.st
  have hrowA := Lib.hid (hrow.alloc (.cells #[.int .i64 key, .int .i64 nx, .int .i64 v] 36))
  have hA : Only (fun _ => False) w (w.alloc (.cells #[.int .i64 key, .int .i64 nx, .int .i64 v] 36)) := (Only.refl _ w).alloc _
  replace hA := Lib.hid hA
  replace hn := Lib.hid hn
  replace hg := Lib.hid hg
  replace stA := Lib.hid stA
  have hol := Lib.hid (fun g hg => (hrow.lt g hg).2)
  clear h hrow
  go_enter Try.func10, Try.ntmps10
  go_wp2_with (at_builtin; refine wpList_append_own_at _ rfl _ _ 27 rfl 0 36 i0 (.agg #[.int .i64 0, .int .i64 0, .int .i64 0]) 3 24 Try.underlying27 hi hz0 hz1 hz2 rfl (by decide) (.slice oa n cap) n (rowOf enc R) rfl hrowA.out ⟨w.heap.size, 0, none⟩ 1 1 [.int .i64 key, .int .i64 nx, .int .i64 v] rfl rfl (push_news (cell_top rfl rfl) (cell_top rfl rfl) (cell_top rfl rfl)) one_three (by unfold maxLen; omega) (by omega) (Nat.zero_le _) ?_; intro v' w1 hown hgrow _ hloc; obtain ⟨g', cap', rfl, _, _, _, _, _⟩ := ownsRow_head hown (by omega); obtain ⟨st1, k0, k1, k2, k3⟩ := rpush_mid stA.out hgrow hg.out; replace st1 := Lib.hid st1)
  go_ret
  have hsA : w.heap.size ≤ (w.alloc (.cells #[.int .i64 key, .int .i64 nx, .int .i64 v] 36)).heap.size := hA.out.size
  have hg' : g' ≠ r := by
    rcases hloc with e | e
    · exact hg.out g' e.symm
    · simp [Value.ownBlock] at e; omega
  have O1 : Only (Foot r (.slice oa n cap)) w w1 := hA.out.trans (Only.of_grown (F := fun k => (Value.slice oa n cap).ownBlock = some k) hgrow (fun k e => e)) (fun k _ e => e.elim) (fun k _ e => .inr e)
  have key2 : ∀ (W : World) (u1 u2 : Value), Only (fun k => k = r) W ((W.setCell ⟨r, 0, none⟩ u1).setCell ⟨r, 1, none⟩ u2) := fun W u1 u2 => ((Only.refl (fun k => k = r) W).setCell (p := ⟨r, 0, none⟩) (.inl rfl) u1).setCell (p := ⟨r, 1, none⟩) (.inl rfl) u2
  refine ⟨rfl, .slice (some ⟨g', 0, none⟩) (n + 1) cap', ⟨?_, ?_, by have := hn.out; simp; omega, by omega⟩, ?_, ?_⟩
  · have a1 := heap_setCell_same w1 r 0 _ _ (.slice (some ⟨g', 0, none⟩) (n + 1) cap') st1.out
    have a2 := heap_setCell_same _ r 1 _ _ (.int .i64 ((nx : Int) + 1)) a1
    simpa using a2
  · rw [rowOf_snoc, List.length_append, ← hn.out]
    exact ownsRow_only hown (key2 w1 _ _) (fun g hg2 e => by injection hg2 with hg2; exact hg' (hg2.trans e))
  · intro k hk
    rcases hloc with e | e
    · rw [e] at hk; exact .inl hk
    · rw [e] at hk; injection hk with hk; right; omega
  · exact O1.trans (key2 w1 _ _) (fun k _ e => e) (fun k _ e => .inl e)

set_option maxHeartbeats 400000 in
theorem rremove_none {r nx : Nat} {rv : Value} {R : List T} {w : World} (h : RefAt w r rv R nx) {x : Int} (hx : ∀ j, j < R.length → (at_ R j).num ≠ x) :
    Calls Try.prog 14 #[.pointer (some ⟨r, 0, none⟩), .int .i64 x] w fun e w' => e = .returned (.tuple #[.int .i64 0, .bool false]) ∧ w = w' := by
  have L : Calls Try.prog 35 #[.pointer (some ⟨r, 0, none⟩), .int .i64 x] w fun e w' => e = .returned (.int .i64 (-1)) ∧ w = w' :=
    (rfind_any h x).mono fun e w' ⟨hw, hor⟩ => by
      rcases hor with ⟨he, _⟩ | ⟨m, hm, hmx, _⟩
      · exact ⟨he, hw⟩
      · exact absurd hmx (hx m hm)
  replace L := Lib.hid L
  clear h hx
  go_enter Try.func14, Try.ntmps14
  go_wp2_with (go_at_call 35; refine L.out.mono ?_; rintro e w' ⟨rfl, rfl⟩)
  go_ret2
  exact ⟨rfl, rfl⟩
theorem rfind_there {r nx : Nat} {rv : Value} {R : List T} {w : World} (h : RefAt w r rv R nx) (hu : Unlike R) (hnd : (R.map T.num).Nodup) {m : Nat} (hm : m < R.length) {x : Int} (hx : (at_ R m).num = x) :
    Calls Try.prog 35 #[.pointer (some ⟨r, 0, none⟩), .int .i64 x] w fun e w' => e = .returned (.int .i64 (m : Nat)) ∧ w = w' :=
  (rfind_any h x).mono fun e w' ⟨hw, hor⟩ => by
    rcases hor with ⟨_, hn⟩ | ⟨q, hq, hqx, he⟩
    · exact absurd hx (hn m hm)
    · have : q = m := nums_at hnd hq hm (by rw [hqx, hx])
      subst this
      exact ⟨he, hw⟩
set_option maxHeartbeats 1000000 in
theorem rremove_some {r nx : Nat} {rv : Value} {R : List T} {w : World} (h : RefAt w r rv R nx) (hu : Unlike R) (hnd : (R.map T.num).Nodup) {m : Nat} (hm : m < R.length) {x : Int} (hx : (at_ R m).num = x) :
    Calls Try.prog 14 #[.pointer (some ⟨r, 0, none⟩), .int .i64 x] w fun e w' => e = .returned (.tuple #[.int .i64 (at_ R m).v, .bool true]) ∧ ∃ rv', RefAt w' r rv' (R.eraseIdx m) nx ∧ Only (fun k => k = r) w w' ∧ ∀ g, rv'.ownBlock = some g → w.heap.size ≤ g := by
  have L := Lib.hid (rfind_there h hu hnd hm hx)
  have O := Lib.hid (out_any h hm)
  have hlim := h.len
  obtain ⟨g, cap, rfl, _, hgl, hnc, hcm, _⟩ := ownsRow_head h.row (by omega)
  have c0 := h.c0
  obtain ⟨_, _, a2⟩ := ref_cells h.row rfl hm
  have hi' : (m : Int) < R.length := by omega
  generalize hvv : (at_ R m).v = kv at a2 ⊢
  replace hvv := Lib.hid hvv
  generalize hnn : R.length = n at *
  replace hnn := Lib.hid hnn
  replace hx := Lib.hid hx
  replace hu := Lib.hid hu
  clear h hnd
  go_enter Try.func14, Try.ntmps14
  go_wp2_with (first
    | (go_at_call 35; refine L.out.mono ?_; rintro e w1 ⟨rfl, rfl⟩)
    | (go_at_call 33; refine O.out.mono ?_; rintro e w2 ⟨rfl, hres⟩; replace hres := Lib.hid hres))
  go_ret2
  exact ⟨rfl, hres.out⟩

set_option maxHeartbeats 400000 in
theorem rchange_none {r nx : Nat} {rv : Value} {R : List T} {w : World} (h : RefAt w r rv R nx) {x : Int} (key : Int) (hx : ∀ j, j < R.length → (at_ R j).num ≠ x) :
    Calls Try.prog 16 #[.pointer (some ⟨r, 0, none⟩), .int .i64 x, .int .i64 key] w fun e w' => e = .returned (.bool false) ∧ w = w' := by
  have L : Calls Try.prog 35 #[.pointer (some ⟨r, 0, none⟩), .int .i64 x] w fun e w' => e = .returned (.int .i64 (-1)) ∧ w = w' :=
    (rfind_any h x).mono fun e w' ⟨hw, hor⟩ => by
      rcases hor with ⟨he, _⟩ | ⟨m, hm, hmx, _⟩
      · exact ⟨he, hw⟩
      · exact absurd hmx (hx m hm)
  replace L := Lib.hid L
  clear h hx
  go_enter Try.func16, Try.ntmps16
  go_wp2_with (go_at_call 35; refine L.out.mono ?_; rintro e w' ⟨rfl, rfl⟩)
  go_ret
  exact ⟨rfl, rfl⟩
theorem rrekey_at {r nx i g n cap : Nat} {R : List T} {w : World} (h : RefAt w r (.slice (some ⟨g, 0, none⟩) n cap) R nx) (hn : n = R.length) (hi : i < R.length) (key : Int) :
    RefAt (w.setCell ⟨g, i * 3, none⟩ (.int .i64 key)) r (.slice (some ⟨g, 0, none⟩) n cap) (rekey R i key) nx ∧ Only (fun k => k = g) w (w.setCell ⟨g, i * 3, none⟩ (.int .i64 key)) := by
  have hgr := h.g_ne (g := g) rfl
  have O : Only (fun k => k = g) w (w.setCell ⟨g, i * 3, none⟩ (.int .i64 key)) := (Only.refl (fun k => k = g) w).setCell (p := ⟨g, i * 3, none⟩) (.inl rfl) _
  have hl : (rekey R i key).length = R.length := by unfold rekey; simp
  have hrow := h.row
  rw [← hn] at hrow
  refine ⟨⟨(O.block r h.lt (fun e => hgr e.symm)).trans h.st, ?_, by rw [hl]; exact h.len, h.lim⟩, O⟩
  have r1 := (hrow.stored (i * 3) (.int .i64 key)).1
  have e := rowOf_set3 enc_len R i hi ⟨key, (at_ R i).num, (at_ R i).v⟩ (a := .int .i64 key) (b := .int .i64 (at_ R i).num) (c := .int .i64 (at_ R i).v) rfl
  have g1 := rowOf_get enc_len R i 1 hi (by omega)
  have g2 := rowOf_get enc_len R i 2 hi (by omega)
  rw [← at_eq R i hi] at g1 g2
  have e2 : (((rowOf enc R).set (i * 3) (.int .i64 key)).set (i * 3 + 1) (.int .i64 (at_ R i).num)).set (i * 3 + 2) (.int .i64 (at_ R i).v) = (rowOf enc R).set (i * 3) (.int .i64 key) := by
    apply List.ext_getElem?
    intro q
    simp only [List.getElem?_set, List.length_set]
    have hlen := rowOf_length enc_len R
    by_cases q2 : i * 3 + 2 = q
    · subst q2; rw [if_pos rfl, if_pos (by omega), if_neg (by omega), g2]; rfl
    · rw [if_neg q2]
      by_cases q1 : i * 3 + 1 = q
      · subst q1; rw [if_pos rfl, if_pos (by omega), if_neg (by omega), g1]; rfl
      · rw [if_neg q1]
  rw [e2] at e
  rw [e] at r1
  rw [hl, ← hn]
  exact r1
set_option maxHeartbeats 1000000 in
theorem rchange_some {r nx : Nat} {rv : Value} {R : List T} {w : World} (h : RefAt w r rv R nx) (hu : Unlike R) (hnd : (R.map T.num).Nodup) {m : Nat} (hm : m < R.length) {x : Int} (hx : (at_ R m).num = x) (key : Int) :
    Calls Try.prog 16 #[.pointer (some ⟨r, 0, none⟩), .int .i64 x, .int .i64 key] w fun e w' => e = .returned (.bool true) ∧ RefAt w' r rv (rekey R m key) nx ∧ Only (Foot r rv) w w' := by
  have L := Lib.hid (rfind_there h hu hnd hm hx)
  have hlim := h.len
  obtain ⟨g, cap, rfl, _, hgl, hnc, hcm, _⟩ := ownsRow_head h.row (by omega)
  have K := Lib.hid (rrekey_at h rfl hm key)
  have c0 := h.c0
  obtain ⟨a0, _, _⟩ := ref_cells h.row rfl hm
  have f0 := h.row.frozenAt (m * 3)
  have hi' : (m : Int) < R.length := by omega
  generalize (at_ R m).key = kv at a0
  generalize hnn : R.length = n at *
  replace hnn := Lib.hid hnn
  replace hx := Lib.hid hx
  replace hu := Lib.hid hu
  clear h hnd
  go_enter Try.func16, Try.ntmps16
  go_wp2_with (go_at_call 35; refine L.out.mono ?_; rintro e w1 ⟨rfl, rfl⟩)
  go_ret
  exact ⟨rfl, K.out.1, K.out.2.mono (fun k _ e => .inr (by rw [e]; rfl))⟩
end Go.Proofs.Ytabcifaknckomaa.RF
