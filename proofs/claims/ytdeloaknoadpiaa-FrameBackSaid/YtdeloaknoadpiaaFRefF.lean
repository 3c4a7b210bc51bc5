/- The document's reader (layer 6), walked. -/
import Derived.Test.YtdeloaknoadpiaaFFeed2
namespace Go.Proofs.Ytdeloaknoadpiaa
open Go.RowKit Crc

/-- The document's reader in block r. -/
structure SdAt (w : World) (r : Nat) (v : Value) (rest : List Nat) (taken fault : Nat) : Prop where
  st : w.heap[r]? = some (.cells #[v, .int .i64 taken, .int .i64 fault] 46 (0, 0))
  row : Bs w v rest
section
variable {w W : World} {r taken fault : Nat} {u v : Value} {rest m : List Nat}
theorem SdAt.lt (h : SdAt w r v rest taken fault) : r < w.heap.size := (Array.getElem?_eq_some_iff.1 h.st).1
theorem SdAt.cell (h : SdAt w r v rest taken fault) : w.cell? ⟨r, 0, none⟩ = some v ∧ w.cell? ⟨r, 1, none⟩ = some (.int .i64 taken) ∧ w.cell? ⟨r, 2, none⟩ = some (.int .i64 fault) := by
  simp [World.cell?, h.st]
theorem SdAt.frozen (h : SdAt w r v rest taken fault) (j : Nat) : w.frozen? ⟨r, j, none⟩ = false := by simp [World.frozen?, h.st]

/-- A document's reader that has broken. -/
theorem refFeed_broken (h : SdAt w r v rest taken fault) (hf : fault ≠ 0) (u : Value) :
    Calls Try.prog 24 #[.pointer (some ⟨r, 0, none⟩), u] w fun e w' => e = .returned (.tuple #[.slice none 0 0, .int .i64 fault]) ∧ Below w.heap.size w w' := by
  obtain ⟨c0, c1, c2⟩ := h.cell
  have hf1 : ((fault : Int) != 0) = true := by simp; omega
  go_enter Try.func24, Try.ntmps24
  go_wp2
  go_quiet (fail)
  go_wp2
  go_ret2
  exact ⟨rfl, below_drewN (Below.refl _ _) _⟩

def RefFed (w : World) (r : Nat) (S : Sp) (taken : Nat) (all : List Nat) (e : Ending) (w' : World) : Prop :=
  ∃ vl v', e = .returned (.tuple #[vl, .int .i64 (if S.code = 4 then 0 else S.code : Nat)]) ∧ Bods w' w.heap.size vl S.bodies ∧
    SdAt w' r v' (all.drop S.at_) (taken + S.at_) (if S.code = 4 then 0 else S.code) ∧ (∀ k, RowOf v' k → w.heap.size ≤ k) ∧ Only (fun k => k = r) w w'

def RefFin (w : World) (r : Nat) (S : Sp) (taken : Nat) (all : List Nat) (R : Value) (al : Option Addr) (capl : Nat) (w' : World) : Prop :=
  Bods w' w.heap.size (.slice al S.bodies.length capl) S.bodies ∧ SdAt w' r R (all.drop S.at_) (taken + S.at_) (if S.code = 4 then 0 else S.code) ∧ (∀ k, RowOf R k → w.heap.size ≤ k) ∧ Only (fun k => k = r) w w'

set_option maxRecDepth 20000 in
set_option maxHeartbeats 1000000 in
theorem refFeed_any (h : SdAt w r v rest taken 0) (hr : rest.length ≤ 400000) (ht : taken ≤ 100000000) (hu : Bs w u m) (hm : m.length ≤ 400000) :
    Calls Try.prog 24 #[.pointer (some ⟨r, 0, none⟩), u] w (RefFed w r (splitL (rest ++ m)) taken (rest ++ m)) := by
  obtain ⟨c0, c1, c2⟩ := h.cell
  have hrl := h.lt
  have hq0 : ((0 : Nat) : Int) = 0 := rfl
  rw [hq0] at c2
  have hrow := Lib.hid h.row
  replace hu := Lib.hid hu
  have hby2 : ∀ b ∈ rest ++ m, b < 256 := byte_append h.row.byte hu.out.byte
  have hlen : (rest ++ m).length ≤ 1000000 := by rw [List.length_append]; omega
  have hti : (taken : Int) ≤ 1000000000 := by omega
  have hli : ((rest ++ m).length : Int) ≤ 1000000 := by omega
  have hat := split_le (rest ++ m).length (rest ++ m) (Nat.le_refl _)
  have hat0 : (0 : Int) ≤ ((splitL (rest ++ m)).at_ : Int) := by omega
  have hat1 : ((splitL (rest ++ m)).at_ : Int) ≤ ((rest ++ m).length : Int) := by omega
  generalize hall : rest ++ m = all at *
  generalize hsp : splitL all = S at *
  have hSp : ∀ (W : World) (v1 : Value), Bs W v1 all → Calls Try.prog 21 #[v1] W fun e w' => ∃ v', e = .returned (.tuple #[v', .int .i64 S.at_, .int .i64 S.code]) ∧ Bods w' W.heap.size v' S.bodies ∧ Below W.heap.size W w' := fun W v1 h1 => by
    have := refSplit_any h1 hlen
    rw [hsp] at this
    exact this
  replace hSp := Lib.hid hSp
  go_enter Try.func24, Try.ntmps24
  have hnil : ∀ k, ¬ RowOf (.slice none 0 0) k := fun k hk => by simp [RowOf, Value.ownBlock] at hk
  go_wp2_with (at_builtin; first
    | (refine wpList_append_bs (base := w.heap.size) (v := .slice none 0 0) (l := []) (m := rest) rfl _ _ rfl rfl (Buf8.nil _ _) rfl hrow.out (by simp; omega) (Nat.le_refl _) ?_; intro v1 w1 hB1 hO1 hN1 hI1; rw [List.nil_append] at hB1; obtain ⟨a1, cap1, rfl, _, _⟩ := ownsRow_shape hB1; replace hI1 := Lib.hid hI1; replace hB1 := Lib.hid hB1)
    | (refine wpList_append_bs (base := w.heap.size) (v := .slice a1 rest.length cap1) (l := rest) (m := m) rfl _ _ rfl rfl hB1.out rfl (hu.out.only hO1 (fun k _ _ hk => hnil k hk)) (by omega) hO1.size ?_; intro v2 w2 hB2 hO2 hN2 hI2; rw [hall] at hB2; obtain ⟨a2, cap2, rfl, hcap, hcap'⟩ := ownsRow_shape hB2; replace hI2 := Lib.hid hI2; replace hB2 := Lib.hid hB2; replace hB1 := Lib.hid hB1))
  have hb2 : Below w.heap.size w w2 := by
    refine Only.below (F := fun k => w.heap.size ≤ k) ((hO1.mono fun k _ hk => (hnil k hk).elim).then (hO2.mono fun k _ hk => (hB1.out.out.base_ k hk).1)) (Nat.le_refl _) (fun k h1 h2 => by omega)
  refine (hSp.out _ _ (hB2.out.bs hby2)).mono ?_
  rintro e w3 ⟨vl, rfl, hBo, hg3⟩
  have hb3 : Below w.heap.size w w3 := below_next hb2 hg3
  have hst3 := (hb3.block r hrl).trans h.st
  have hS3 : SdAt w3 r v rest taken 0 := ⟨hst3, h.row.below hb3⟩
  have d0 := hS3.cell.1
  have d1 := hS3.cell.2.1
  have d2 := hS3.cell.2.2
  rw [hq0] at d2
  have f0 := hS3.frozen 0
  have f1 := hS3.frozen 1
  have f2 := hS3.frozen 2
  have hz2 := hb2.size
  have hz3 := hg3.size
  have hR : Bs w3 (restV a2 all.length cap2 S.at_) (all.drop S.at_) ∧ ∀ k, RowOf (restV a2 all.length cap2 S.at_) k → w.heap.size ≤ k := by
    have hBs3 := (hB2.out.bs hby2).below hg3
    rcases Nat.eq_zero_or_pos all.length with h0 | h0
    · have h1 : all = [] := List.eq_nil_of_length_eq_zero h0
      have h2 : rest.length = 0 ∧ m.length = 0 := by
        have : (rest ++ m).length = 0 := by rw [hall]; exact h0
        rw [List.length_append] at this; omega
      have h3 := hI2.out.2 ⟨hI1.out.2 ⟨trivial, h2.1⟩, h2.2⟩
      have h4 : S.at_ = 0 := by omega
      injection h3 with e1 e2 e3
      subst e1 e3
      rw [h4, h1]
      exact ⟨Bs.nil _, fun k hk => (hnil k hk).elim⟩
    · obtain ⟨q1, q2⟩ := restV_bs hBs3 hat h0
      exact ⟨q1, fun k hk => (hB2.out.base_ k (q2 k hk)).1⟩
  have hlt : ∀ k, RowOf (restV a2 all.length cap2 S.at_) k → 0 < (all.drop S.at_).length → k ≠ r := fun k hk _ e => by have := hR.2 k hk; omega
  have hbo : ∀ W, Only (fun k => k = r) w3 W → Bods W w.heap.size vl S.bodies ∧ Bs W (restV a2 all.length cap2 S.at_) (all.drop S.at_) ∧ Only (fun k => k = r) w W := fun W hO => by
    refine ⟨?_, hR.1.only hO hlt, (Only.of_below hb3).then hO⟩
    obtain ⟨vs, b1, b2, b3⟩ := hBo.toQ.only hO (fun k hk _ e => by have e' : k = r := e; omega)
    obtain ⟨_, b3⟩ := b3
    refine ⟨vs, b1, ownsRow_base b2 (fun g hg => Nat.le_trans hz2 (World.ownsRow.lt b2 g hg).1), fun i hi => ?_⟩
    obtain ⟨u, hu, hB, _⟩ := b3 i hi
    exact ⟨u, hu, hB.lift (fun q hq => Nat.le_trans hz2 (hB.base_ q hq).1)⟩
  have hOs2 : ∀ x y : Value, Only (fun k => k = r) w3 ((w3.setCell ⟨r, 0, none⟩ x).setCell ⟨r, 1, none⟩ y) := fun x y => ((Only.refl (fun k => k = r) w3).setCell (p := ⟨r, 0, none⟩) (.inl rfl) _).setCell (p := ⟨r, 1, none⟩) (.inl rfl) _
  have hst4 : ∀ x y : Value, ((w3.setCell ⟨r, 0, none⟩ x).setCell ⟨r, 1, none⟩ y).heap[r]? = some (.cells #[x, y, .int .i64 0] 46 (0, 0)) := fun x y => by
    have h1 := heap_setCell_same w3 r 0 _ _ x hst3
    have h2 := heap_setCell_same _ r 1 _ _ y h1
    simpa using h2
  have hst5 : ∀ x y z : Value, (((w3.setCell ⟨r, 0, none⟩ x).setCell ⟨r, 1, none⟩ y).setCell ⟨r, 2, none⟩ z).heap[r]? = some (.cells #[x, y, z] 46 (0, 0)) := fun x y z => by
    simpa using heap_setCell_same _ r 2 _ _ z (hst4 x y)
  obtain ⟨al, capl, rfl, _, _⟩ := ownsRow_shape hBo.choose_spec.2.1
  clear hBo
  have hfin4 : S.code = 4 → ∀ n, RefFin w r S taken all (restV a2 all.length cap2 S.at_) al capl (((w3.setCell ⟨r, 0, none⟩ (restV a2 all.length cap2 S.at_)).setCell ⟨r, 1, none⟩ (.int .i64 ((taken : Int) + (S.at_ : Int)))).drewN n) := fun hc n => by
    have hd := below_drewN (Below.refl ((w3.setCell ⟨r, 0, none⟩ (restV a2 all.length cap2 S.at_)).setCell ⟨r, 1, none⟩ (.int .i64 ((taken : Int) + (S.at_ : Int)))).heap.size ((w3.setCell ⟨r, 0, none⟩ (restV a2 all.length cap2 S.at_)).setCell ⟨r, 1, none⟩ (.int .i64 ((taken : Int) + (S.at_ : Int))))) n
    obtain ⟨g1, g2, g3⟩ := hbo _ ((hOs2 (restV a2 all.length cap2 S.at_) (.int .i64 ((taken : Int) + (S.at_ : Int)))).then (Only.of_below hd))
    refine ⟨g1, ⟨?_, g2⟩, hR.2, g3⟩
    have h4 := hst4 (restV a2 all.length cap2 S.at_) (.int .i64 ((taken : Int) + (S.at_ : Int)))
    have h5 := (hd.block r (Array.getElem?_eq_some_iff.1 h4).1).trans h4
    rw [if_pos hc]
    simpa using h5
  have hfin5 : S.code ≠ 4 → ∀ n, RefFin w r S taken all (restV a2 all.length cap2 S.at_) al capl ((((w3.setCell ⟨r, 0, none⟩ (restV a2 all.length cap2 S.at_)).setCell ⟨r, 1, none⟩ (.int .i64 ((taken : Int) + (S.at_ : Int)))).setCell ⟨r, 2, none⟩ (.int .i64 S.code)).drewN n) := fun hc n => by
    have hd := below_drewN (Below.refl (((w3.setCell ⟨r, 0, none⟩ (restV a2 all.length cap2 S.at_)).setCell ⟨r, 1, none⟩ (.int .i64 ((taken : Int) + (S.at_ : Int)))).setCell ⟨r, 2, none⟩ (.int .i64 S.code)).heap.size (((w3.setCell ⟨r, 0, none⟩ (restV a2 all.length cap2 S.at_)).setCell ⟨r, 1, none⟩ (.int .i64 ((taken : Int) + (S.at_ : Int)))).setCell ⟨r, 2, none⟩ (.int .i64 S.code))) n
    obtain ⟨g1, g2, g3⟩ := hbo _ (((hOs2 (restV a2 all.length cap2 S.at_) (.int .i64 ((taken : Int) + (S.at_ : Int)))).setCell (p := ⟨r, 2, none⟩) (.inl rfl) (.int .i64 S.code)).then (Only.of_below hd))
    refine ⟨g1, ⟨?_, g2⟩, hR.2, g3⟩
    have h4 := hst5 (restV a2 all.length cap2 S.at_) (.int .i64 ((taken : Int) + (S.at_ : Int))) (.int .i64 S.code)
    have h5 := (hd.block r (Array.getElem?_eq_some_iff.1 h4).1).trans h4
    rw [if_neg hc]
    simpa using h5
  clear hbo hOs2 hst4 hst5 hR hSp hrow hu hI1 hI2 hlt
  unfold restV at hfin4 hfin5
  by_cases hc4 : S.code = 4
  · have t1 : ((S.code : Int) != 4) = false := by simp; omega
    replace hfin4 := hfin4 hc4
    clear hfin5
    by_cases hcn : cap2 = S.at_
    · rw [if_pos hcn, show cap2 - S.at_ = 0 by omega] at hfin4
      replace hfin4 := Lib.hid hfin4
      go_wp2
      go_quiet (fail)
      go_wp2
      go_ret2
      obtain ⟨k1, k2, k3, k4⟩ := hfin4.out nq
      exact ⟨_, _, by rw [if_pos hc4]; rfl, k1, k2, k3, k4⟩
    · rw [if_neg hcn] at hfin4
      replace hfin4 := Lib.hid hfin4
      go_wp2
      go_quiet (fail)
      go_wp2
      go_ret2
      obtain ⟨k1, k2, k3, k4⟩ := hfin4.out nq
      exact ⟨_, _, by rw [if_pos hc4]; rfl, k1, k2, k3, k4⟩
  · have t1 : ((S.code : Int) != 4) = true := by simp; omega
    replace hfin5 := hfin5 hc4
    clear hfin4
    by_cases hcn : cap2 = S.at_
    · rw [if_pos hcn, show cap2 - S.at_ = 0 by omega] at hfin5
      replace hfin5 := Lib.hid hfin5
      go_wp2
      go_quiet (fail)
      go_wp2
      go_ret2
      obtain ⟨k1, k2, k3, k4⟩ := hfin5.out nq
      exact ⟨_, _, by rw [if_neg hc4]; rfl, k1, k2, k3, k4⟩
    · rw [if_neg hcn] at hfin5
      replace hfin5 := Lib.hid hfin5
      go_wp2
      go_quiet (fail)
      go_wp2
      go_ret2
      obtain ⟨k1, k2, k3, k4⟩ := hfin5.out nq
      exact ⟨_, _, by rw [if_neg hc4]; rfl, k1, k2, k3, k4⟩
end
end Go.Proofs.Ytdeloaknoadpiaa
