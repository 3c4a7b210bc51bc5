/- The contracts of slices.Clone, slices.SortFunc at a heap's things, and of a heap's inOrder. -/
import Derived.Test.YtabcifaknckomaaHSort
namespace Go.Proofs.Ytabcifaknckomaa.HI
open Go.RowKit Go.Sort

theorem sizeT (w : World) : (Go.sizeOf 65).run Try.prog w = .ok 3 w := Try.sizeOf65 w
theorem aggT (w : World) : (isAgg 65).run Try.prog w = .ok true w := Try.isAgg65 w
theorem enc_cell (x : T) : ∀ v ∈ enc x, v.oneCell' = true := by
  intro v hv
  simp [enc] at hv
  rcases hv with rfl | rfl | rfl <;> rfl
theorem row_cell_one (d : List T) : ∀ u ∈ rowOf enc d, u.oneCell' = true := by
  induction d with
  | nil => intro u hu; simp [rowOf] at hu
  | cons x r ih =>
    intro u hu
    rcases List.mem_append.1 hu with h | h
    · exact enc_cell x u h
    · exact ih u h

/-- A copy of a row of things, in memory of the call's own. -/
theorem clone_any {w : World} {sv : Value} {n : Nat} {d : List T} (h : w.ownsRow 0 65 3 sv n (rowOf enc d)) (hn : n = d.length) (hlim : n ≤ 1099511627776) :
    Calls Try.prog 37 #[sv] w fun e w' => ∃ v', e = .returned v' ∧ w'.ownsRow w.heap.size 65 3 v' n (rowOf enc d) ∧ Below w.heap.size w w' := by
  have h0 := h
  rcases h0.2 with ⟨rfl, h00⟩ | ⟨g, cap, cur, rfl, _, _⟩
  · subst h00
    have hd : d = [] := List.eq_nil_of_length_eq_zero hn.symm
    subst hd
    have := AnyE.slices_Clone_nil Try.layClone 0 0 w
    refine Calls.mono this fun e w' ⟨he, hw⟩ => ⟨.slice none 0 0, he, ?_, ?_⟩
    · rw [hw]; exact World.ownsRow_nil _ _ _ _
    · rw [hw]; exact Below.refl _ _
  · obtain ⟨i0, hi, hz0, hz1, hz2⟩ := info_parts infoT
    have hc : ∀ j u, (rowOf enc d)[j]? = some u → w.cell? ⟨g, 0 + j, none⟩ = some u := by
      intro j u hu
      have hj : j < n * 3 := by
        have := (List.getElem?_eq_some_iff.1 hu).1
        rw [rowOf_length enc_len] at this; omega
      rw [Nat.zero_add, h.cellAt j hj]
      exact hu
    have := AnyE.slices_Clone Try.layClone i0 (.agg #[.int .i64 0, .int .i64 0, .int .i64 0]) 3 24 hi hz0 hz1 hz2 rfl (by decide) sizeT g 0 n cap (rowOf enc d) w (by rw [rowOf_length enc_len, hn]) (by unfold maxLen; omega) (by omega) hc (row_cell_one d)
    exact Calls.mono this fun e w' ⟨v', he, hr, _, hb⟩ => ⟨v', he, hr, hb⟩

/-- What the sort leaves. -/
theorem sorted_row {w : World} {base g n cap m : Nat} {d : List T} {d' : Array T} {os : Array Obj} (h : w.ownsRow base 65 3 (.slice (some ⟨g, 0, none⟩) n cap) n (rowOf enc d)) (hn : n = d.length) (hs : d'.size = n) :
    (sortWorldK enc 3 w g 0 m d' os).ownsRow base 65 3 (.slice (some ⟨g, 0, none⟩) n cap) n (rowOf enc d'.toList) ∧ Only (fun k => k = g) w (sortWorldK enc 3 w g 0 m d' os) := by
  obtain ⟨h1, h2⟩ := h
  rcases h2 with ⟨h', _⟩ | ⟨g', cap', cur, h', hb, hg, hnc, hcm, hcs, htake⟩
  · simp at h'
  · simp only [Value.slice.injEq, Option.some.injEq, Addr.mk.injEq, and_true, true_and] at h'
    obtain ⟨rfl, rfl⟩ := h'
    have hgl : g < w.heap.size := (Array.getElem?_eq_some_iff.1 hg).1
    have hheap : (sortWorldK enc 3 w g 0 m d' os).heap = (w.heap.modify g (onCells (putCells id 0 (flatK enc 3 d')))) ++ os := rfl
    constructor
    · refine ⟨by rw [rowOf_length enc_len]; simp [hs], .inr ⟨g, cap, putCells id 0 (flatK enc 3 d') cur, rfl, hb, ?_, hnc, hcm, ?_, ?_⟩⟩
      · rw [hheap, Array.getElem?_append_left (by simpa using hgl), Array.getElem?_modify, if_pos rfl, hg]
        rfl
      · simpa [putCells] using hcs
      · have hf := flat_row d'.toList
        rw [Array.toArray_toList] at hf
        rw [← hf]
        apply List.ext_getElem?
        intro t
        have hfs : (flatK enc 3 d').size = n * 3 := by rw [size_flatK, hs]
        by_cases ht : t < n * 3
        · rw [List.getElem?_take, if_pos ht, Array.getElem?_toList, Array.getElem?_toList]
          unfold putCells
          rw [Array.getElem?_mapIdx]
          have hc : n * 3 ≤ cur.size := by rw [hcs]; exact Nat.mul_le_mul_right 3 hnc
          rw [Array.getElem?_eq_getElem (show t < cur.size by omega), Array.getElem?_eq_getElem (show t < (flatK enc 3 d').size by omega)]
          simp only [Option.map_some, id_eq, Nat.zero_add, Nat.sub_zero, Nat.zero_le, true_and, hfs, ht, if_pos]
          rw [getElem!_pos _ t (by omega)]
        · rw [List.getElem?_take, if_neg ht, List.getElem?_eq_none (by rw [Array.length_toList, hfs]; omega)]
    · refine ⟨rfl, rfl, rfl, by rw [hheap]; simp, fun k hk hn => ?_⟩
      rw [hheap, Array.getElem?_append_left (by simpa using hk), Array.getElem?_modify, if_neg (fun e => hn e.symm)]

/-- Things in order. -/
def InOrder (d : List T) : Prop := d.Pairwise (le_ T.key T.num)

theorem sort_any {w : World} {base n : Nat} {sv : Value} {d : List T} (h : w.ownsRow base 65 3 sv n (rowOf enc d)) (hn : n = d.length) (hlim : n ≤ 1099511627776) :
    Calls Try.prog 50 #[sv, .func (.func 51) #[] #[]] w fun e w' => e = .returned (.tuple #[]) ∧ ∃ d' : List T, d'.Perm d ∧ InOrder d' ∧ w'.ownsRow base 65 3 sv n (rowOf enc d') ∧ Only (fun k => sv.ownBlock = some k) w w' := by
  by_cases h0 : n = 0
  · obtain ⟨a, cap, rfl, _⟩ := ownsRow_shape h
    have hd : d = [] := List.eq_nil_of_length_eq_zero (by omega)
    subst hd
    subst h0
    have := AnyF.slices_SortFunc_none Try.laySort a cap (.func (.func 51) #[] #[]) w
    exact Calls.mono this fun e w' ⟨he, hw⟩ => ⟨he, [], List.Perm.refl _, List.Pairwise.nil, by rw [hw]; exact h, by rw [hw]; exact Only.refl _ _⟩
  · obtain ⟨g, cap, rfl, _, hgl, hnc, hcm, _⟩ := ownsRow_head h (by omega)
    have eg : ∀ args w, (callFunc 51 args).run Try.prog w = .ok (.enter 51 args) w := enters_of Try.func51 (by kernel_rfl) rfl
    have hcmp : CmpLays Try.prog 51 #[] enc 3 ordT g 0 d.toArray.size w := fun m os dk _ x y => order_grow x.key x.num x.v y.key y.num y.v _
    have hH : HoldsK enc 3 w g 0 d.toArray := by
      intro j hj
      have hj' : j < n * 3 := by simpa [hn] using hj
      refine ⟨?_, by rw [Nat.zero_add]; exact h.frozenAt j⟩
      rw [Nat.zero_add, h.cellAt j hj', ← flat_row d, Array.getElem?_toList, Array.getElem?_eq_getElem hj, getElem!_pos _ j hj]
      rfl
    have := AnyQ.slices_SortFunc Try.laySort 3 aggT sizeT enc enc_len enc_cell ordT ordT_swo 51 #[] g 0 cap d.toArray w eg hcmp hH hgl (by simp; omega)
    rw [show d.toArray.size = n by simp [hn]] at this
    refine Calls.mono this fun e w' ⟨he, d', m, os, hp, hs, hw⟩ => ⟨he, d'.toList, ?_, ?_, ?_⟩
    · obtain ⟨hsz, _, hperm⟩ := hp
      have e1 : d'.extract 0 n = d' := by rw [show n = d'.size by rw [hsz]; simp [hn]]; simp
      have e2 : d.toArray.extract 0 n = d.toArray := by rw [show n = d.toArray.size by simp [hn]]; simp
      rw [e1, e2] at hperm
      simpa using hperm
    · have hsz : d'.size = n := by rw [hp.1]; simp [hn]
      unfold InOrder
      rw [List.pairwise_iff_getElem]
      intro i j hi hj hij
      have := hs i j (Nat.zero_le _) hij (by simpa [hsz] using hj)
      rw [ordT_lt, aheadB_false, getElem!_pos d' j (by simpa using hj), getElem!_pos d' i (by simpa using hi)] at this
      simp only [Array.getElem_toList]
      exact this
    · have hsz : d'.size = n := by rw [hp.1]; simp [hn]
      obtain ⟨r1, r2⟩ := sorted_row (m := m) (os := os) h hn hsz
      rw [hw]
      exact ⟨r1, r2.mono (fun k _ e => by rw [e]; rfl)⟩

set_option maxHeartbeats 1000000 in
theorem inOrder_any {b bm p : Nat} {sv : Value} {d : List T} {w : World} (h : HeapAt w b bm sv d p) :
    Calls Try.prog 40 #[.pointer (some ⟨b, 0, none⟩)] w fun e w' => ∃ (v' : Value) (d' : List T), e = .returned v' ∧ d'.Perm d ∧ InOrder d' ∧ w'.ownsRow w.heap.size 65 3 v' d.length (rowOf enc d') ∧ Below w.heap.size w w' := by
  have Md := Lib.hid (made_any h)
  have hrow := h.row
  have c0 := h.c0
  have hlim : d.length ≤ 1099511627776 := Nat.le_trans h.len h.lim
  obtain ⟨a, cap, rfl, hnc, hcm⟩ := ownsRow_shape hrow
  have CL := Lib.hid (clone_any hrow rfl hlim)
  generalize hn : d.length = n at *
  replace hn := Lib.hid hn
  clear h hrow
  go_enter Try.func40, Try.ntmps40
  go_wp2_with (first
    | (go_at_call 29; refine Md.out.mono ?_; rintro e w' ⟨rfl, rfl⟩)
    | (go_at_call 37; refine CL.out.mono ?_; rintro e w1 ⟨v1, rfl, hrow1, hb1⟩; have SO := Lib.hid (sort_any hrow1 hn.out.symm hlim))
    | (go_at_call 50; refine SO.out.mono ?_; rintro e w2 ⟨rfl, d2, hp2, hs2, hrow2, ho2⟩))
  go_ret
  refine ⟨v1, d2, rfl, hp2, hs2, hrow2, hb1.trans (ho2.below hb1.size (fun k hk e => ?_))⟩
  have := (hrow1.lt k e).1
  omega
end Go.Proofs.Ytabcifaknckomaa.HI
