/- The document's own heap (package prompterref03) in memory: a list of things as they were pushed. -/
import Derived.Test.YtabcifaknckomaaHKeys2
namespace Go.Proofs.Ytabcifaknckomaa.RF
open Go.RowKit HI

theorem infoR : (Try.prog.info? 36).map (fun i => (i.zero, i.size, i.bytes)) = some (some (.agg #[.int .i64 0, .int .i64 0, .int .i64 0]), 3, 24) := by kernel_rfl

/-- The document's heap in block r: its things R, in a row that rv tells; nx: the next one's number. -/
structure RefAt (w : World) (r : Nat) (rv : Value) (R : List T) (nx : Nat) : Prop where
  st : w.heap[r]? = some (.cells #[rv, .int .i64 nx] 29 (0, 0))
  row : w.ownsRow 0 36 3 rv R.length (rowOf enc R)
  len : R.length ≤ 100000
  lim : nx ≤ 100000

def Foot (r : Nat) (rv : Value) (k : Nat) : Prop := k = r ∨ rv.ownBlock = some k

section
variable {w : World} {r nx : Nat} {rv : Value} {R : List T}
theorem RefAt.c0 (h : RefAt w r rv R nx) : w.cell? ⟨r, 0, none⟩ = some rv := by simp [World.cell?, h.st]
theorem RefAt.c1 (h : RefAt w r rv R nx) : w.cell? ⟨r, 1, none⟩ = some (.int .i64 nx) := by simp [World.cell?, h.st]
theorem RefAt.f (h : RefAt w r rv R nx) (j : Nat) : w.frozen? ⟨r, j, none⟩ = false := by simp [World.frozen?, h.st]
theorem RefAt.lt (h : RefAt w r rv R nx) : r < w.heap.size := (Array.getElem?_eq_some_iff.1 h.st).1
theorem RefAt.g_ne (h : RefAt w r rv R nx) {g : Nat} (hg : rv.ownBlock = some g) : g ≠ r := by
  obtain ⟨cur, hh⟩ := own_block h.row hg
  intro e
  subst e
  have := h.st
  rw [hh] at this
  simp at this
theorem RefAt.kept {w' : World} {F : Nat → Prop} (h : RefAt w r rv R nx) (ho : Only F w w') (hF : ∀ k, Foot r rv k → ¬ F k) : RefAt w' r rv R nx :=
  ⟨(ho.block r h.lt (hF r (.inl rfl))).trans h.st, ownsRow_only h.row ho (fun g hg => hF g (.inr hg)), h.len, h.lim⟩
theorem RefAt.drewN (h : RefAt w r rv R nx) (n : Nat) : RefAt (w.drewN n) r rv R nx := ⟨h.st, h.row, h.len, h.lim⟩
end

/-- The cells of a thing of the document's row. -/
theorem ref_cells {w : World} {base g n cap : Nat} {d : List T} (h : w.ownsRow base 36 3 (.slice (some ⟨g, 0, none⟩) n cap) n (rowOf enc d)) (hn : n = d.length) {i : Nat} (hi : i < d.length) :
    w.cell? ⟨g, i * 3, none⟩ = some (.int .i64 (at_ d i).key) ∧ w.cell? ⟨g, i * 3 + 1, none⟩ = some (.int .i64 (at_ d i).num) ∧ w.cell? ⟨g, i * 3 + 2, none⟩ = some (.int .i64 (at_ d i).v) := by
  have e := at_eq d i hi
  refine ⟨?_, ?_, ?_⟩
  · rw [h.cellAt _ (by omega)]
    have := rowOf_get enc_len d i 0 hi (by omega)
    rw [Nat.add_zero] at this
    rw [this, e]; rfl
  · rw [h.cellAt _ (by omega), rowOf_get enc_len d i 1 hi (by omega), e]; rfl
  · rw [h.cellAt _ (by omega), rowOf_get enc_len d i 2 hi (by omega), e]; rfl

/-- m is the place of the first one of the least key of the first k. -/
def FK (R : List T) (k m : Nat) : Prop := m < k ∧ ∀ j, j < k → (at_ R m).key ≤ (at_ R j).key ∧ (j < m → (at_ R m).key < (at_ R j).key)
theorem fk_one (R : List T) : FK R 1 0 := by
  refine ⟨by omega, fun j hj => ?_⟩
  have : j = 0 := by omega
  subst this
  exact ⟨Int.le_refl _, fun h => by omega⟩
theorem fk_yes {R : List T} {k m : Nat} (h : FK R k m) (hl : (at_ R k).key < (at_ R m).key) : FK R (k + 1) k :=
  ⟨by omega, fun j hj => by
    by_cases e : j = k
    · subst e; exact ⟨Int.le_refl _, fun h => by omega⟩
    · have := (h.2 j (by omega)).1
      exact ⟨by omega, fun _ => by omega⟩⟩
theorem fk_no {R : List T} {k m : Nat} (h : FK R k m) (hl : ¬ (at_ R k).key < (at_ R m).key) : FK R (k + 1) m :=
  ⟨by have := h.1; omega, fun j hj => by
    have hm := h.1
    by_cases e : j = k
    · subst e; exact ⟨by omega, fun h => by omega⟩
    · exact h.2 j (by omega)⟩
/-- As they were pushed: numbers rise. -/
def Rising (R : List T) : Prop := R.Pairwise fun x y => x.num < y.num
theorem fk_first {R : List T} {m : Nat} (h : FK R R.length m) (hr : Rising R) : IsFirst (at_ R m) R := by
  refine ⟨at_mem R m h.1, fun y hy => ?_⟩
  obtain ⟨j, hj, rfl⟩ := mem_at hy
  obtain ⟨h1, h2⟩ := h.2 j hj
  unfold le_ lt_ lexLt
  intro e
  rcases e with e | ⟨e1, e2⟩
  · omega
  · by_cases hjm : j < m
    · have := h2 hjm; omega
    · rcases Nat.lt_or_ge m j with h3 | h3
      · have := (List.pairwise_iff_getElem.1 hr) m j h.1 hj h3
        rw [← at_eq R m h.1, ← at_eq R j hj] at this
        omega
      · have : j = m := by omega
        subst this; omega

set_option maxHeartbeats 2000000 in
theorem first_any {r nx : Nat} {rv : Value} {R : List T} {w : World} (h : RefAt w r rv R nx) :
    Calls Try.prog 32 #[.pointer (some ⟨r, 0, none⟩)] w fun e w' => (∃ q, w' = w.drewN q) ∧ ((R.length = 0 ∧ e = .returned (.int .i64 (-1))) ∨ ∃ m, FK R R.length m ∧ e = .returned (.int .i64 (m : Nat))) := by
  have hlim := h.len
  obtain ⟨n, hn⟩ : ∃ n, n = R.length := ⟨_, rfl⟩
  obtain ⟨oa, cap, rfl, hnc, hcm⟩ := ownsRow_shape h.row
  have c0 := h.c0
  have hrow := h.row
  rw [← hn] at hrow c0 hnc hlim ⊢
  replace hn := Lib.hid hn
  replace hrow := Lib.hid hrow
  clear h
  go_enter Try.func32, Try.ntmps32
  go_wp2
  go_loopw [3, 4] (fun av i wr => ∃ (k q : Nat), k ≤ n ∧ i = .int .i64 k ∧ wr = w.drewN q ∧ ((k = 0 ∧ av = .int .i64 (-1)) ∨ ∃ m, FK R k m ∧ av = .int .i64 (m : Nat))) (fun _ i _ => n - (intOf i).toNat)
  case atStart => exact ⟨0, 0, Nat.zero_le _, rfl, rfl, .inl ⟨rfl, rfl⟩⟩
  case round =>
    obtain ⟨k, q, hk, rfl, hwr, hor⟩ := hrel
    have hrowq : wr.ownsRow 0 36 3 (.slice oa n cap) n (rowOf enc R) := by rw [hwr]; exact hrow.out
    have cq : wr.cell? ⟨r, 0, none⟩ = some (.slice oa n cap) := by rw [hwr]; exact c0
    replace hwr := Lib.hid hwr
    clear c0
    by_cases hlt : k < n
    · obtain ⟨g2, cap2', hsv, _, _, _, _, _⟩ := ownsRow_head hrowq (by omega)
      obtain ⟨rfl, rfl⟩ : oa = some ⟨g2, 0, none⟩ ∧ cap = cap2' := by simpa using hsv
      clear hsv
      obtain ⟨x0, _, _⟩ := ref_cells hrowq hn.out (i := k) (by rw [← hn.out]; exact hlt)
      have hi1 : (k : Int) < n := by omega
      rcases hor with ⟨rfl, rfl⟩ | ⟨m, hm, rfl⟩
      · replace hrowq := Lib.hid hrowq
        have hlt0 : decide ((-1 : Int) < 0) = true := by decide
        go_wp2
        go_quiet (fail)
        rename_i nq
        go_wp2
        go_roundw
        case rel => exact ⟨1, q + nq, by omega, by go_num, by rw [hwr.out]; simp [World.drewN, Nat.add_assoc], .inr ⟨0, fk_one R, by go_num⟩⟩
        case measure => simp [intOf]; omega
      · have hmn : m < n := by have := hm.1; omega
        obtain ⟨y0, _, _⟩ := ref_cells hrowq hn.out (i := m) (by rw [← hn.out]; exact hmn)
        replace hrowq := Lib.hid hrowq
        have hi2 : (m : Int) < n := by omega
        have hm0 : decide ((m : Int) < 0) = false := by simp
        obtain ⟨xk, hxk⟩ := exHid (at_ R k).key
        obtain ⟨yk, hyk⟩ := exHid (at_ R m).key
        rw [hxk.out] at x0
        rw [hyk.out] at y0
        by_cases hl : xk < yk
        · have F := Lib.hid (fk_yes hm (by rw [hxk.out, hyk.out]; exact hl))
          replace hm := Lib.hid hm
          go_wp2
          go_quiet (fail)
          rename_i nq
          go_wp2
          go_roundw
          case rel => exact ⟨k + 1, q + nq, by omega, by go_num, by rw [hwr.out]; simp [World.drewN, Nat.add_assoc], .inr ⟨k, F.out, rfl⟩⟩
          case measure => simp [intOf]; omega
        · have F := Lib.hid (fk_no hm (by rw [hxk.out, hyk.out]; exact hl))
          replace hm := Lib.hid hm
          go_wp2
          go_quiet (fail)
          rename_i nq
          go_wp2
          go_roundw
          case rel => exact ⟨k + 1, q + nq, by omega, by go_num, by rw [hwr.out]; simp [World.drewN, Nat.add_assoc], .inr ⟨m, F.out, rfl⟩⟩
          case measure => simp [intOf]; omega
    · have hi1 : ¬ (k : Int) < n := by omega
      have hkn : k = n := by omega
      replace hrowq := Lib.hid hrowq
      replace hor := Lib.hid hor
      replace hkn := Lib.hid hkn
      go_wp2
      go_ret
      refine ⟨⟨q, hwr.out⟩, ?_⟩
      rcases hor.out with ⟨h1, rfl⟩ | ⟨m, hm, rfl⟩
      · exact .inl ⟨by rw [← hkn.out]; exact h1, rfl⟩
      · exact .inr ⟨m, by rw [← hkn.out]; exact hm, rfl⟩
end Go.Proofs.Ytabcifaknckomaa.RF
