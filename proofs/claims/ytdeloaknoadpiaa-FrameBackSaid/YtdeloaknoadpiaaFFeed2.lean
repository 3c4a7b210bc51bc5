/- The reader's Feed (layer 6), walked. -/
import Derived.Test.YtdeloaknoadpiaaFFeed
import Derived.Test.YtdeloaknoadpiaaFReads
namespace Go.Proofs.Ytdeloaknoadpiaa
open Go.RowKit Crc

/-- Bodies whose blocks lie from p on, below q. -/
def BodsQ (w : World) (p q : Nat) (v : Value) (ls : List (List Nat)) : Prop :=
  ∃ vs : List Value, vs.length = ls.length ∧ w.ownsRow p 22 1 v ls.length vs ∧ (∀ k, RowOf v k → k < q) ∧ ∀ i, i < ls.length → ∃ u, vs[i]? = some u ∧ Buf8 w p u (ls.getD i []) ∧ ∀ k, RowOf u k → k < q
section
variable {w W : World} {r left taken fault p q : Nat} {v : Value} {rest : List Nat} {ls : List (List Nat)}
theorem Bods.toQ (h : Bods w p v ls) : BodsQ w p w.heap.size v ls := by
  obtain ⟨vs, h1, h2, h3⟩ := h
  refine ⟨vs, h1, h2, fun k hk => (h2.lt k hk).2, fun i hi => ?_⟩
  obtain ⟨u, hu, hB⟩ := h3 i hi
  exact ⟨u, hu, hB, fun k hk => (hB.base_ k hk).2⟩
theorem BodsQ.bods (h : BodsQ w p q v ls) : Bods w p v ls := by
  obtain ⟨vs, h1, h2, _, h3⟩ := h
  exact ⟨vs, h1, h2, fun i hi => (h3 i hi).imp fun _ h => ⟨h.1, h.2.1⟩⟩
theorem BodsQ.kept (h : BodsQ w p q v ls) (hk : ∀ g cs t fr, p ≤ g → g < q → w.heap[g]? = some (Obj.cells cs t fr) → W.heap[g]? = some (Obj.cells cs t fr)) : BodsQ W p q v ls := by
  obtain ⟨vs, h1, h2, h3, h4⟩ := h
  have hrow : ∀ {e : TypeId} {n : Nat} {x : Value} {xs : List Value}, w.ownsRow p e 1 x n xs → (∀ k, RowOf x k → k < q) → W.ownsRow p e 1 x n xs := fun {e n x xs} hx hq => by
    refine ⟨hx.1, ?_⟩
    rcases hx.2 with hn | ⟨g, cap, cur, hv, hb, hg, rest⟩
    · exact .inl hn
    · exact .inr ⟨g, cap, cur, hv, hb, hk g _ _ _ hb (hq g (by rw [hv]; rfl)) hg, rest⟩
  refine ⟨vs, h1, hrow h2 h3, h3, fun i hi => ?_⟩
  obtain ⟨u, hu, hB, hq⟩ := h4 i hi
  exact ⟨u, hu, hrow hB hq, hq⟩
theorem BodsQ.only {F : Nat → Prop} (h : BodsQ w p q v ls) (ho : Only F w W) (hF : ∀ k, p ≤ k → k < q → ¬ F k) : BodsQ W p q v ls :=
  h.kept fun g cs t fr h1 h2 hg => (ho.block g (Array.getElem?_eq_some_iff.1 hg).1 (hF g h1 h2)).trans hg

theorem take_any (h : RdAt w r v rest left taken fault) (hl : rest.length ≤ 1000000) (ht : taken ≤ 1000000000) {n : Nat} (hn : n ≤ rest.length) :
    Calls Try.prog 28 #[.pointer (some ⟨r, 0, none⟩), .int .i64 n] w fun e w' => (∃ x, e = .returned x) ∧ (∃ v', RdAt w' r v' (rest.drop n) (rest.length - n) (taken + n) fault ∧ ∀ k, RowOf v' k → RowOf v k ∨ w.heap.size ≤ k) ∧ Only (fun k => k = r) w w' := by
  rcases Nat.eq_zero_or_pos n with h0 | h0
  · subst h0
    exact (take_none h hl ht).mono fun e w' ⟨he, hR, hO⟩ => ⟨he, ⟨v, hR, fun k hk => .inl hk⟩, hO⟩
  · exact (take_some h hl ht h0 hn).mono fun e w' ⟨he, ⟨v', hR, hv⟩, hO⟩ => ⟨he, ⟨v', hR, fun k hk => .inr (hv k hk)⟩, hO⟩

/-- What a reader comes to that was fed. -/
def Fed (w : World) (r : Nat) (v : Value) (S : Sp) (taken : Nat) (all : List Nat) (e : Ending) (w' : World) : Prop :=
  ∃ vl v' p q, e = .returned (.tuple #[vl, .int .i64 (if S.code = 4 then 0 else S.code : Nat)]) ∧ w.heap.size ≤ p ∧ q ≤ w'.heap.size ∧ BodsQ w' p q vl S.bodies ∧
    RdAt w' r v' (if S.code = 0 ∨ S.code = 4 then all.drop S.at_ else []) (all.length - S.at_) (taken + S.at_) (if S.code = 4 then 0 else S.code) ∧
    (∀ k, RowOf v' k → RowOf v k ∨ w.heap.size ≤ k) ∧ (∀ k, RowOf v' k → k < p ∨ q ≤ k) ∧ Only (fun k => k = r ∨ RowOf v k) w w'

/-- The same, told at the slice that Feed gives. -/
def Fin4 (w w' : World) (r : Nat) (v : Value) (S : Sp) (al : Option Addr) (capl : Nat) (all : List Nat) (taken : Nat) : Prop :=
  ∃ v' p q, w.heap.size ≤ p ∧ q ≤ w'.heap.size ∧ BodsQ w' p q (.slice al S.bodies.length capl) S.bodies ∧
    RdAt w' r v' (if S.code = 0 ∨ S.code = 4 then all.drop S.at_ else []) (all.length - S.at_) (taken + S.at_) (if S.code = 4 then 0 else S.code) ∧
    (∀ k, RowOf v' k → RowOf v k ∨ w.heap.size ≤ k) ∧ (∀ k, RowOf v' k → k < p ∨ q ≤ k) ∧ Only (fun k => k = r ∨ RowOf v k) w w'

set_option maxRecDepth 20000 in
set_option maxHeartbeats 1000000 in
theorem Feed_any (h : RdAt w r v rest rest.length taken 0) (hr : rest.length ≤ 400000) (ht : taken ≤ 100000000) {u : Value} {m : List Nat} (hu : Bs w u m) (hm : m.length ≤ 400000) :
    Calls Try.prog 11 #[.pointer (some ⟨r, 0, none⟩), u] w (Fed w r v (splitL (rest ++ m)) taken (rest ++ m)) := by
  obtain ⟨c0, c1, c2, c3, c4⟩ := h.cell
  have f2 := h.frozen 2
  have hrl := h.lt
  obtain ⟨base, hB⟩ := h.row
  have hB0 := hB.lift (b2 := 0) (fun _ _ => Nat.zero_le _)
  have hne := rd_ne h.st hB
  have hby2 : ∀ b ∈ rest ++ m, b < 256 := byte_append h.byte hu.byte
  have hlen : (rest ++ m).length ≤ 1000000 := by rw [List.length_append]; omega
  have hat := split_le (rest ++ m).length (rest ++ m) (Nat.le_refl _)
  have hq0 : ((0 : Nat) : Int) = 0 := rfl
  rw [hq0] at c4
  -- behind the append and its store
  have hst1 : ∀ w1 v1, Buf8 w1 0 v1 (rest ++ m) → Only (RowOf v) w w1 → OwnNext w v v1 →
      RdAt (w1.setCell ⟨r, 2, none⟩ v1) r v1 (rest ++ m) rest.length taken 0 ∧ Only (fun k => k = r ∨ RowOf v k) w (w1.setCell ⟨r, 2, none⟩ v1) := fun w1 v1 hB1 hO hN => by
    have hst := (hO.block r hrl (fun e => hne r e rfl)).trans h.st
    have hO2 : Only (fun k => k = r) w1 (w1.setCell ⟨r, 2, none⟩ v1) := (Only.refl (fun k => k = r) w1).setCell (p := ⟨r, 2, none⟩) (.inl rfl) _
    refine ⟨h.told ?_ (hB1.only hO2 (fun k hk e => rd_ne hst hB1 k hk e)) hby2, (hO.mono (fun k _ hk => .inr hk)).then (hO2.mono (fun k _ hk => .inl hk))⟩
    simpa using heap_setCell_same w1 r 2 _ _ v1 hst
  have hSp := fun (W : World) (v1 : Value) (hR : RdAt W r v1 (rest ++ m) rest.length taken 0) => Split_any (hR.row.choose_spec.bs hby2) hlen (hR.row.choose_spec.bs hby2).row_lt
  have hTk := fun (W : World) (v1 : Value) (hR : RdAt W r v1 (rest ++ m) rest.length taken 0) => take_any hR hlen (by omega) hat
  replace hst1 := Lib.hid hst1
  replace hSp := Lib.hid hSp
  replace hTk := Lib.hid hTk
  replace hB0 := Lib.hid hB0
  replace hu := Lib.hid hu
  generalize hall : rest ++ m = all at *
  generalize hsp : splitL all = S at *
  go_enter Try.func11, Try.ntmps11
  go_wp2_with (at_builtin; (refine wpList_append_bs (base := 0) (v := v) (l := rest) (m := m) rfl _ _ rfl rfl hB0.out rfl hu.out (by omega) (Nat.zero_le _) ?_; intro v1 w1 hB1 hO1 hN1 _; rw [hall] at hB1; obtain ⟨hR1, hO2⟩ := hst1.out w1 v1 hB1 hO1 hN1; obtain ⟨a1, cap1, rfl, _, _⟩ := ownsRow_shape hB1; have d2 : w1.cell? ⟨r, 2, none⟩ = some v := (World.cell?_of_block (hO1.block r hrl (fun e => hne r e rfl))).trans c2; have g2 : w1.frozen? ⟨r, 2, none⟩ = false := by (have := (hO1.block r hrl (fun e => hne r e rfl)).trans h.st; simp [World.frozen?, this])))
  have hW2 : (w1.setCell ⟨r, 2, none⟩ (.slice a1 all.length cap1)).heap.size = w1.heap.size := by simp
  refine (hSp.out _ _ hR1).mono ?_
  rintro e w2 ⟨vl, rfl, hBo, hg2⟩
  have hR2 := hR1.below hg2
  have hQ2 := hBo.toQ
  obtain ⟨al, capl, rfl, _, _⟩ := ownsRow_shape hQ2.choose_spec.2.1
  go_wp2_with fail
  refine (hTk.out _ _ hR2).mono ?_
  rintro e w3 ⟨⟨x3, rfl⟩, ⟨v3, hR3, hv3⟩, hO3⟩
  have hz1 : w.heap.size ≤ w1.heap.size := hO1.size
  have hz2 : w1.heap.size ≤ w2.heap.size := by have := hg2.size; omega
  have hz3 : w2.heap.size ≤ w3.heap.size := hO3.size
  have hQ3 := hQ2.only hO3 (fun k hk1 _ e => by have e' : k = r := e; omega)
  rw [hW2] at hQ3
  have hv1 : ∀ k, RowOf (.slice a1 all.length cap1) k → k < w1.heap.size := fun k hk => (hB1.base_ k hk).2
  have hA : ∀ k, RowOf v3 k → RowOf v k ∨ w.heap.size ≤ k := fun k hk => by
    rcases hv3 k hk with h | h
    · exact hN1 k h
    · exact .inr (by omega)
  have hC : ∀ k, RowOf v3 k → k < w1.heap.size ∨ w2.heap.size ≤ k := fun k hk => by
    rcases hv3 k hk with h | h
    · exact .inl (hv1 k h)
    · exact .inr h
  have hO : Only (fun k => k = r ∨ RowOf v k) w w3 := (hO2.then (Only.of_below hg2)).then (hO3.mono (fun k _ hk => .inl hk))
  have hfz := hR3.frozen 4
  have hfy := hR3.frozen 2
  obtain ⟨e0, e1, e2, e3, e4⟩ := hR3.cell
  by_cases hc4 : S.code = 4
  · have t1 : ((S.code : Int) == 4) = true := by rw [hc4]; rfl
    clear hst1 hSp hTk hB0
    have hfin : Fin4 w w3 r v S al capl all taken := ⟨v3, w1.heap.size, w2.heap.size, hz1, hz3, hQ3, by rw [if_pos (Or.inr hc4), if_pos hc4]; exact hR3, hA, hC, hO⟩
    replace hfin := Lib.hid hfin
    go_wp2
    go_ret2
    obtain ⟨v', p, q, k1, k2, k3, k4, k5, k6, k7⟩ := hfin.out
    exact ⟨_, v', p, q, by rw [if_pos hc4]; rfl, k1, k2, k3, k4, k5, k6, k7⟩
  · have t1 : ((S.code : Int) == 4) = false := by simp; omega
    by_cases hc0 : S.code = 0
    · have t2 : ((S.code : Int) != 0) = false := by simp; omega
      clear hst1 hSp hTk hB0
      have hfin : Fin4 w w3 r v S al capl all taken := ⟨v3, w1.heap.size, w2.heap.size, hz1, hz3, hQ3, by rw [if_pos (Or.inl hc0), if_neg hc4, hc0]; exact hR3, hA, hC, hO⟩
      replace hfin := Lib.hid hfin
      go_wp2
      go_ret2
      obtain ⟨v', p, q, k1, k2, k3, k4, k5, k6, k7⟩ := hfin.out
      exact ⟨_, v', p, q, by rw [if_neg hc4, hc0]; rfl, k1, k2, k3, k4, k5, k6, k7⟩
    · have t2 : ((S.code : Int) != 0) = true := by simp; omega
      clear hst1 hSp hTk hB0
      have hOs : Only (fun k => k = r) w3 ((w3.setCell ⟨r, 4, none⟩ (.int .i64 S.code)).setCell ⟨r, 2, none⟩ (.slice none 0 0)) := ((Only.refl (fun k => k = r) w3).setCell (p := ⟨r, 4, none⟩) (.inl rfl) _).setCell (p := ⟨r, 2, none⟩) (.inl rfl) _
      have hRn : RdAt ((w3.setCell ⟨r, 4, none⟩ (.int .i64 S.code)).setCell ⟨r, 2, none⟩ (.slice none 0 0)) r (.slice none 0 0) [] (all.length - S.at_) (taken + S.at_) S.code := by
        refine hR3.told ?_ (Buf8.nil _ 0) (fun b hb => by simp at hb)
        have h1 := heap_setCell_same w3 r 4 _ _ (.int .i64 S.code) hR3.st
        have h2 := heap_setCell_same _ r 2 _ _ (.slice none 0 0) h1
        simpa using h2
      have hfin : Fin4 w ((w3.setCell ⟨r, 4, none⟩ (.int .i64 S.code)).setCell ⟨r, 2, none⟩ (.slice none 0 0)) r v S al capl all taken :=
        ⟨.slice none 0 0, w1.heap.size, w2.heap.size, hz1, Nat.le_trans hz3 hOs.size, hQ3.only hOs (fun k hk1 _ e => by have e' : k = r := e; omega), by rw [if_neg (by omega), if_neg hc4]; exact hRn, fun k hk => by simp [RowOf, Value.ownBlock] at hk, fun k hk => by simp [RowOf, Value.ownBlock] at hk, hO.then (hOs.mono (fun k _ hk => .inl hk))⟩
      replace hfin := Lib.hid hfin
      go_wp2
      go_ret2
      obtain ⟨v', p, q, k1, k2, k3, k4, k5, k6, k7⟩ := hfin.out
      exact ⟨_, v', p, q, by rw [if_neg hc4]; rfl, k1, k2, k3, k4, k5, k6, k7⟩
end
end Go.Proofs.Ytdeloaknoadpiaa
