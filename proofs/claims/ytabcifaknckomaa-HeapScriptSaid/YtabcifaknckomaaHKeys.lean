/- The contracts of a heap's Keys and All. -/
import Derived.Test.YtabcifaknckomaaHOrder
namespace Go.Proofs.Ytabcifaknckomaa.HI
open Go.RowKit Go.Sort

theorem take_more {α β : Type} [Inhabited α] (f : α → β) (d : List α) (k : Nat) (h : k < d.length) : (d.take (k + 1)).map f = (d.take k).map f ++ [f (at_ d k)] := by
  rw [List.take_succ_eq_append_getElem h, List.map_append, at_eq d k h]
  rfl
theorem one_news {W : World} {g : Nat} {a : Value} (h0 : W.cell? ⟨g, 0, none⟩ = some a) : ∀ j u, [a][j]? = some u → W.cell? ((⟨g, 0, none⟩ : Addr).add j) = some u := by
  intro j u hj
  match j, hj with
  | 0, hj => simp at hj; subst hj; simpa [Addr.add] using h0
  | j + 1, hj => simp at hj
theorem one_int {a : Int} : ∀ u ∈ [Value.int .i64 a], u.oneCell' = true := by
  intro u hu; simp at hu; subst hu; rfl

set_option maxHeartbeats 2000000 in
theorem keys_any {b bm p : Nat} {sv : Value} {d : List T} {w : World} (h : HeapAt w b bm sv d p) :
    Calls Try.prog 22 #[.pointer (some ⟨b, 0, none⟩)] w fun e w' => ∃ (d' : List T), e = .returned (.slice (some ⟨w.heap.size, 0, none⟩) d.length d.length) ∧ d'.Perm d ∧ InOrder d' ∧ w'.ownsRow w.heap.size 2 1 (.slice (some ⟨w.heap.size, 0, none⟩) d.length d.length) d.length (d'.map fun x => .int .i64 x.key) ∧ Below w.heap.size w w' := by
  have L := len_any h
  have hlim : d.length ≤ 1099511627776 := Nat.le_trans h.len h.lim
  obtain ⟨i0, hi, hz0, hz1, hz2⟩ := info_parts info64
  have O := fun w' (hb : Below w.heap.size w w') => inOrder_any (h.kept (F := fun _ => False) (Only.of_below hb) foot_false)
  generalize hn : d.length = n at *
  have hby : i0.bytes * n ≤ 281474976710656 := by rw [hz2]; omega
  replace O := Lib.hid O
  replace hn := Lib.hid hn
  replace L := Lib.hid L
  clear h
  go_enter Try.func22, Try.ntmps22
  go_wp2_with (first
    | (go_at_call 21; refine L.out.mono ?_; rintro e w' ⟨rfl, rfl⟩)
    | (at_make; refine wpList_make_own _ rfl _ _ 50 rfl w.heap.size 2 i0 (.int .i64 0) 1 Try.underlying50 hi hz0 hz1 .i64 .i64 n n rfl rfl rfl hby (by unfold maxLen; omega) (Nat.le_refl _) ?_; intro w1 hown1 hgr1; have hb1 : Below w.heap.size w w1 := (Below.refl _ _).grown hgr1 (Nat.le_refl _) (fun k hk => by cases hk))
    | (go_at_call 40; refine (O.out _ hb1).mono ?_; rintro e w2 ⟨v2, d2, rfl, hp2, hs2, hrow2, hb2⟩; obtain ⟨oa, cap2, rfl, _, _⟩ := ownsRow_shape hrow2))
  have hg1 : w.heap.size < w1.heap.size := (hown1.lt w.heap.size rfl).2
  have hown2 := ownsRow_only hown1 (Only.of_below (F := fun _ => False) hb2) (fun _ _ h => h)
  have hB2 := below_next hb1 hb2
  have hrow2' := ownsRow_base (base' := w.heap.size) hrow2 (fun g hg => Nat.le_trans hb1.size (hrow2.lt g hg).1)
  have hne : ∀ g, (Value.slice oa n cap2).ownBlock = some g → w.heap.size < g := fun g hg => Nat.lt_of_lt_of_le hg1 (hrow2.lt g hg).1
  have hl2 : d2.length = n := by rw [hp2.length_eq, hn.out]
  clear hown1 hgr1 hb1 hb2 hrow2
  replace hp2 := Lib.hid hp2
  replace hs2 := Lib.hid hs2
  replace hl2 := Lib.hid hl2
  replace hne := Lib.hid hne
  go_loopw [3, 12] (fun ks i wr => ∃ k : Nat, k ≤ n ∧ i = .int .i64 k ∧ ks = .slice (some ⟨w.heap.size, 0, none⟩) k n ∧ wr.ownsRow w.heap.size 2 1 (.slice (some ⟨w.heap.size, 0, none⟩) k n) k ((d2.take k).map fun x => .int .i64 x.key) ∧ wr.ownsRow w.heap.size 65 3 (.slice oa n cap2) n (rowOf enc d2) ∧ Below w.heap.size w wr) (fun _ i _ => n - (intOf i).toNat)
  case atStart => exact ⟨0, Nat.zero_le _, rfl, rfl, hown2, hrow2', hB2⟩
  case round =>
    obtain ⟨k, hk, rfl, rfl, hown, hrow, hB⟩ := hrel
    clear hown2 hrow2' hB2
    by_cases hlt : k < n
    · obtain ⟨g2, cap2', hsv, _, hg2l, hnc2, hcm2, _⟩ := ownsRow_head hrow (by omega)
      obtain ⟨rfl, rfl⟩ : oa = some ⟨g2, 0, none⟩ ∧ cap2 = cap2' := by simpa using hsv
      clear hsv
      have hrow0 := ownsRow_base (base' := 0) hrow (fun _ _ => Nat.zero_le _)
      obtain ⟨x0, x1, x2⟩ := row_cells hrow0 hl2.out.symm (i := k) (by rw [hl2.out]; exact hlt)
      have hmore := Lib.hid (take_more (fun x : T => Value.int .i64 x.key) d2 k (by rw [hl2.out]; exact hlt))
      have hgl := hne.out g2 rfl
      have hwl : w.heap.size < wr.heap.size := (hown.lt w.heap.size rfl).2
      obtain ⟨kk, hkk⟩ := exHid (at_ d2 k).key
      obtain ⟨kn, hkn⟩ := exHid (at_ d2 k).num
      obtain ⟨kv, hkv⟩ := exHid (at_ d2 k).v
      rw [hkk.out] at x0
      rw [hkn.out] at x1
      rw [hkv.out] at x2
      have hi1 : (k : Int) < n := by omega
      have hown3 := Lib.hid ((hown.alloc (.cells #[.int .i64 kk, .int .i64 kn, .int .i64 kv] 65)).alloc (.cells #[.int .i64 kk] 2))
      have hB3 := Lib.hid ((hB.alloc hB.size (.cells #[.int .i64 kk, .int .i64 kn, .int .i64 kv] 65)).alloc (Nat.le_trans hB.size (by simp)) (.cells #[.int .i64 kk] 2))
      have hrow3 := Lib.hid ((hrow.alloc (.cells #[.int .i64 kk, .int .i64 kn, .int .i64 kv] 65)).alloc (.cells #[.int .i64 kk] 2))
      clear hrow0
      replace hrow := Lib.hid hrow
      replace hown := Lib.hid hown
      go_wp2_with (at_builtin; refine wpList_append_fits _ rfl _ _ 50 rfl w.heap.size 2 i0 1 Try.underlying50 hi hz1 w.heap.size k n _ rfl hown3.out ⟨wr.heap.size + 1, 0, none⟩ 1 1 [.int .i64 kk] rfl rfl (one_news (cell_top (by simp) rfl)) one_int (by omega) ?_; intro w4 hown4 hgr4)
      go_roundw
      case rel =>
        refine ⟨k + 1, by omega, by go_num, rfl, ?_, hrow3.out.kept hgr4 (.inr ?_), hB3.out.grown hgr4 (Nat.le_trans hB.size (by simp; omega)) (fun q hq => by injection hq with hq; omega)⟩
        · rw [hmore.out]
          simp only [hkk.out]
          exact hown4
        · intro e; simp [Value.ownBlock] at e; omega
      case measure => simp [intOf]; omega
    · have hi1 : ¬ (k : Int) < n := by omega
      have hkn : k = n := by omega
      subst hkn
      go_wp2
      go_ret
      refine ⟨rfl, d2, hp2.out, hs2.out, ?_, hB⟩
      rw [List.take_of_length_le (by rw [hl2.out]; exact Nat.le_refl _)] at hown
      exact hown

set_option maxHeartbeats 2000000 in
theorem all_any {b bm p : Nat} {sv : Value} {d : List T} {w : World} (h : HeapAt w b bm sv d p) :
    Calls Try.prog 23 #[.pointer (some ⟨b, 0, none⟩)] w fun e w' => ∃ (d' : List T), e = .returned (.slice (some ⟨w.heap.size, 0, none⟩) d.length d.length) ∧ d'.Perm d ∧ InOrder d' ∧ w'.ownsRow w.heap.size 3 1 (.slice (some ⟨w.heap.size, 0, none⟩) d.length d.length) d.length (d'.map fun x => .int .i64 x.v) ∧ Below w.heap.size w w' := by
  have L := len_any h
  have hlim : d.length ≤ 1099511627776 := Nat.le_trans h.len h.lim
  obtain ⟨i0, hi, hz0, hz1, hz2⟩ := info_parts infoI
  have O := fun w' (hb : Below w.heap.size w w') => inOrder_any (h.kept (F := fun _ => False) (Only.of_below hb) foot_false)
  generalize hn : d.length = n at *
  have hby : i0.bytes * n ≤ 281474976710656 := by rw [hz2]; omega
  replace O := Lib.hid O
  replace hn := Lib.hid hn
  replace L := Lib.hid L
  clear h
  go_enter Try.func23, Try.ntmps23
  go_wp2_with (first
    | (go_at_call 21; refine L.out.mono ?_; rintro e w' ⟨rfl, rfl⟩)
    | (at_make; refine wpList_make_own _ rfl _ _ 52 rfl w.heap.size 3 i0 (.int .i64 0) 1 Try.underlying52 hi hz0 hz1 .i64 .i64 n n rfl rfl rfl hby (by unfold maxLen; omega) (Nat.le_refl _) ?_; intro w1 hown1 hgr1; have hb1 : Below w.heap.size w w1 := (Below.refl _ _).grown hgr1 (Nat.le_refl _) (fun k hk => by cases hk))
    | (go_at_call 40; refine (O.out _ hb1).mono ?_; rintro e w2 ⟨v2, d2, rfl, hp2, hs2, hrow2, hb2⟩; obtain ⟨oa, cap2, rfl, _, _⟩ := ownsRow_shape hrow2))
  have hg1 : w.heap.size < w1.heap.size := (hown1.lt w.heap.size rfl).2
  have hown2 := ownsRow_only hown1 (Only.of_below (F := fun _ => False) hb2) (fun _ _ h => h)
  have hB2 := below_next hb1 hb2
  have hrow2' := ownsRow_base (base' := w.heap.size) hrow2 (fun g hg => Nat.le_trans hb1.size (hrow2.lt g hg).1)
  have hne : ∀ g, (Value.slice oa n cap2).ownBlock = some g → w.heap.size < g := fun g hg => Nat.lt_of_lt_of_le hg1 (hrow2.lt g hg).1
  have hl2 : d2.length = n := by rw [hp2.length_eq, hn.out]
  clear hown1 hgr1 hb1 hb2 hrow2
  replace hp2 := Lib.hid hp2
  replace hs2 := Lib.hid hs2
  replace hl2 := Lib.hid hl2
  replace hne := Lib.hid hne
  go_loopw [3, 12] (fun ks i wr => ∃ k : Nat, k ≤ n ∧ i = .int .i64 k ∧ ks = .slice (some ⟨w.heap.size, 0, none⟩) k n ∧ wr.ownsRow w.heap.size 3 1 (.slice (some ⟨w.heap.size, 0, none⟩) k n) k ((d2.take k).map fun x => .int .i64 x.v) ∧ wr.ownsRow w.heap.size 65 3 (.slice oa n cap2) n (rowOf enc d2) ∧ Below w.heap.size w wr) (fun _ i _ => n - (intOf i).toNat)
  case atStart => exact ⟨0, Nat.zero_le _, rfl, rfl, hown2, hrow2', hB2⟩
  case round =>
    obtain ⟨k, hk, rfl, rfl, hown, hrow, hB⟩ := hrel
    clear hown2 hrow2' hB2
    by_cases hlt : k < n
    · obtain ⟨g2, cap2', hsv, _, hg2l, hnc2, hcm2, _⟩ := ownsRow_head hrow (by omega)
      obtain ⟨rfl, rfl⟩ : oa = some ⟨g2, 0, none⟩ ∧ cap2 = cap2' := by simpa using hsv
      clear hsv
      have hrow0 := ownsRow_base (base' := 0) hrow (fun _ _ => Nat.zero_le _)
      obtain ⟨x0, x1, x2⟩ := row_cells hrow0 hl2.out.symm (i := k) (by rw [hl2.out]; exact hlt)
      have hmore := Lib.hid (take_more (fun x : T => Value.int .i64 x.v) d2 k (by rw [hl2.out]; exact hlt))
      have hgl := hne.out g2 rfl
      have hwl : w.heap.size < wr.heap.size := (hown.lt w.heap.size rfl).2
      obtain ⟨kk, hkk⟩ := exHid (at_ d2 k).key
      obtain ⟨kn, hkn⟩ := exHid (at_ d2 k).num
      obtain ⟨kv, hkv⟩ := exHid (at_ d2 k).v
      rw [hkk.out] at x0
      rw [hkn.out] at x1
      rw [hkv.out] at x2
      have hi1 : (k : Int) < n := by omega
      have hown3 := Lib.hid ((hown.alloc (.cells #[.int .i64 kk, .int .i64 kn, .int .i64 kv] 65)).alloc (.cells #[.int .i64 kv] 3))
      have hB3 := Lib.hid ((hB.alloc hB.size (.cells #[.int .i64 kk, .int .i64 kn, .int .i64 kv] 65)).alloc (Nat.le_trans hB.size (by simp)) (.cells #[.int .i64 kv] 3))
      have hrow3 := Lib.hid ((hrow.alloc (.cells #[.int .i64 kk, .int .i64 kn, .int .i64 kv] 65)).alloc (.cells #[.int .i64 kv] 3))
      clear hrow0
      replace hrow := Lib.hid hrow
      replace hown := Lib.hid hown
      go_wp2_with (at_builtin; refine wpList_append_fits _ rfl _ _ 52 rfl w.heap.size 3 i0 1 Try.underlying52 hi hz1 w.heap.size k n _ rfl hown3.out ⟨wr.heap.size + 1, 0, none⟩ 1 1 [.int .i64 kv] rfl rfl (one_news (cell_top (by simp) rfl)) one_int (by omega) ?_; intro w4 hown4 hgr4)
      go_roundw
      case rel =>
        refine ⟨k + 1, by omega, by go_num, rfl, ?_, hrow3.out.kept hgr4 (.inr ?_), hB3.out.grown hgr4 (Nat.le_trans hB.size (by simp; omega)) (fun q hq => by injection hq with hq; omega)⟩
        · rw [hmore.out]
          simp only [hkv.out]
          exact hown4
        · intro e; simp [Value.ownBlock] at e; omega
      case measure => simp [intOf]; omega
    · have hi1 : ¬ (k : Int) < n := by omega
      have hkn : k = n := by omega
      subst hkn
      go_wp2
      go_ret
      refine ⟨rfl, d2, hp2.out, hs2.out, ?_, hB⟩
      rw [List.take_of_length_le (by rw [hl2.out]; exact Nat.le_refl _)] at hown
      exact hown
end Go.Proofs.Ytabcifaknckomaa.HI
