/- The walk of WholeMost: it answers true for every three numbers and every list, where the table of powers of ten reads as it was laid. -/
import Derived.Test.YtkhbgmdjfkkkcaaDoorWhole3
import Derived.Test.YtkhbgmdjfkkkcaaDoorClamp
import Derived.Test.YtkhbgmdjfkkkcaaDoorOpen
import Derived.Laws.AppendOwn
namespace Go.Proofs.YtkhbgmdjfkkkcaaDoor
open Go.RowKit

theorem info8 : (Tryd.prog.info? 36).map (fun i => (i.zero, i.size, i.bytes)) = some (some (.int .i8 0), 1, 1) := by kernel_rfl
theorem info64 : (Tryd.prog.info? 2).map (fun i => (i.zero, i.size, i.bytes)) = some (some (.int .i64 0), 1, 8) := by kernel_rfl

/-- The numbers, cut to a byte. -/
def cut8 (zs : List Int) : List Int := zs.map IntKind.i8.wrap

theorem cut8_more (zs : List Int) (k : Nat) (h : k < zs.length) : (cut8 (zs.take (k + 1))).map (Value.int .i8) = (cut8 (zs.take k)).map (Value.int .i8) ++ [.int .i8 (IntKind.i8.wrap (zs.getD k 0))] := by
  rw [List.take_succ_eq_append_getElem h, getD_at _ _ h]
  unfold cut8
  rw [List.map_append, List.map_append]
  rfl

/-- What a list was cut to: numbers of a byte, in memory of the call's own. -/
def SmallPost (zs : List Int) (w : World) (e : Ending) (w' : World) : Prop :=
  ∃ v, e = .returned v ∧ w'.ownsRow w.heap.size 36 1 v zs.length ((cut8 zs).map (Value.int .i8)) ∧ Below w.heap.size w w' ∧ (zs.length = 0 → v = .slice none 0 0)

set_option maxHeartbeats 1000000 in
theorem small_none (a : Option Addr) (cap : Nat) (w : World) :
    Calls Tryd.prog 36 #[.slice a 0 cap] w fun e w' => e = .returned (.slice none 0 0) ∧ w = w' := by
  go_enter Tryd.func36, Tryd.ntmps36
  go_wp2
  go_rounds 1
  go_ret
  exact ⟨rfl, rfl⟩

set_option maxHeartbeats 1600000 in
theorem small_some (b off len cap : Nat) (zs : List Int) (w : World) (hlen : len = zs.length) (h200 : len ≤ 200) (hb : b < w.heap.size)
    (hc : ∀ j, j < len → w.cell? ⟨b, off + j, none⟩ = some (.int .i64 (zs.getD j 0))) :
    Calls Tryd.prog 36 #[.slice (some ⟨b, off, none⟩) len cap] w (SmallPost zs w) := by
  replace hlen := Lib.hid hlen
  replace hc := Lib.hid hc
  obtain ⟨i0, hi, hz0, hz1, hz2⟩ := info_parts info8
  go_enter Tryd.func36, Tryd.ntmps36
  go_wp2
  go_loopw [3, 4] (fun v i wr => ∃ k : Nat, k ≤ len ∧ i = .int .i64 k ∧ wr.ownsRow w.heap.size 36 1 v k ((cut8 (zs.take k)).map (Value.int .i8)) ∧ Below w.heap.size w wr ∧ (k = 0 → v = .slice none 0 0)) (fun _ i _ => len - (intOf i).toNat)
  case atStart => exact ⟨0, Nat.zero_le _, rfl, World.ownsRow_nil _ _ _ _, Below.refl _ _, fun _ => rfl⟩
  case round =>
    obtain ⟨k, hk, rfl, hown, hnx, hnil⟩ := hrel
    have hsz := hnx.size
    by_cases hlt : k < len
    · obtain ⟨z, hz⟩ := exHid (zs.getD k 0)
      have hcx : wr.cell? ⟨b, off + k, none⟩ = some (.int .i64 z) := by
        rw [← hz.out, ← hc.out k hlt]
        exact hnx.cell (p := ⟨b, off + k, none⟩) hb
      obtain ⟨z8, h8⟩ : ∃ z8, IntKind.i8.wrap z = z8 := ⟨_, rfl⟩
      have hmore := Lib.hid (cut8_more zs k (by rw [← hlen.out]; exact hlt))
      replace hnil := Lib.hid hnil
      go_wp2_with (at_builtin; refine wpList_append_own _ rfl _ _ 50 rfl w.heap.size 36 i0 (.int .i8 0) 1 1 Tryd.underlying50 hi hz0 hz1 hz2 rfl (by decide) _ _ _ rfl (hown.alloc _) ⟨wr.heap.size, 0, none⟩ 1 1 [.int .i8 z8] rfl rfl ?c1 ?c2 ?c3 ?c4 ?c5 ?_)
      case c1 =>
        intro j u hj
        match j, hj with
        | 0, hj => simp at hj; subst hj; simp [Addr.add]
      case c2 => intro u hu; simp at hu; subst hu; rfl
      case c3 => unfold maxLen; omega
      case c4 => omega
      case c5 => simp; omega
      intro v' w1 hown' hgrow _
      have hbel : Below w.heap.size w w1 := (hnx.alloc hsz _).grown hgrow (by simp; omega) (by
        intro g hg
        rcases hown.2 with ⟨h0, _⟩ | ⟨g', cap', cur, hv, hg', _⟩
        · rw [h0] at hg; cases hg
        · rw [hv] at hg; simp [Value.ownBlock] at hg; omega)
      have hown2 : w1.ownsRow w.heap.size 36 1 v' (k + 1) ((cut8 (zs.take (k + 1))).map (Value.int .i8)) := by
        rw [hmore.out, hz.out, h8]; exact hown'
      replace h8 := Lib.hid h8
      clear hown' hgrow hown
      go_wp2
      go_roundw
      case rel => exact ⟨k + 1, by omega, by go_num, hown2, hbel, fun h => absurd h (by omega)⟩
      case measure => simp [intOf]; omega
    · have hkl : k = len := by omega
      go_wp2
      go_ret
      refine ⟨_, rfl, ?_, hnx, ?_⟩
      · have e := hown
        rw [hkl, hlen.out, List.take_of_length_le (Nat.le_refl _)] at e
        exact e
      · intro h0
        exact hnil (by rw [hkl, hlen.out, h0])

/-- A row of the call's own that is not empty: where it lies, cell by cell. -/
theorem own_some {w : World} {base : Nat} {e : TypeId} {k : IntKind} {v : Value} {n : Nat} {zs : List Int} (h : w.ownsRow base e 1 v n (zs.map (Value.int k))) (hn : 1 ≤ n) :
    ∃ g cap, v = .slice (some ⟨g, 0, none⟩) n cap ∧ base ≤ g ∧ g < w.heap.size ∧ n ≤ cap ∧ cap ≤ 9223372036854775807 ∧ ∀ j, j < n → w.cell? ⟨g, 0 + j, none⟩ = some (.int k (zs.getD j 0)) := by
  obtain ⟨hl, hcase⟩ := h
  rcases hcase with ⟨_, h0⟩ | ⟨g, cap, cur, hv, hg, hh, hnc, hcm, hsz, htk⟩
  · omega
  · have hlt : g < w.heap.size := (Array.getElem?_eq_some_iff.1 hh).1
    refine ⟨g, cap, hv, hg, hlt, hnc, hcm, fun j hj => ?_⟩
    have hzl : zs.length = n := by simpa using hl
    have h1 : w.cell? ⟨g, 0 + j, none⟩ = cur[j]? := by
      rw [Nat.zero_add]
      simp [World.cell?, hh]
    have h2 : (cur.toList.take (n * 1))[j]? = cur.toList[j]? := by
      rw [List.getElem?_take, if_pos (by omega)]
    rw [h1, ← Array.getElem?_toList, ← h2, htk, List.getElem?_map, List.getElem?_eq_getElem (by omega)]
    simp [List.getD, List.getElem?_eq_getElem (show j < zs.length by omega)]

theorem wrap8_range (x : Int) : -128 ≤ IntKind.i8.wrap x ∧ IntKind.i8.wrap x ≤ 127 := by
  simp only [IntKind.wrap, IntKind.bits, IntKind.signed]; simp; split <;> omega
theorem clamp_range {x lo hi : Int} (h1 : -128 ≤ x ∧ x ≤ 127) (h2 : -128 ≤ lo ∧ lo ≤ 127) (h3 : -128 ≤ hi ∧ hi ≤ 127) : -128 ≤ clampOf x lo hi ∧ clampOf x lo hi ≤ 127 := by
  unfold clampOf; (repeat' split) <;> omega
theorem cut8_at (zs : List Int) (j : Nat) (h : j < zs.length) : -128 ≤ (cut8 zs).getD j 0 ∧ (cut8 zs).getD j 0 ≤ 127 := by
  rw [getD_at _ _ (by unfold cut8; simpa using h)]
  unfold cut8
  simp only [List.getElem_map]
  exact wrap8_range _
theorem cut8_len (zs : List Int) : (cut8 zs).length = zs.length := by unfold cut8; simp
theorem take64_more (zs : List Int) (k : Nat) (h : k < zs.length) : (zs.take (k + 1)).map (Value.int .i64) = (zs.take k).map (Value.int .i64) ++ [.int .i64 (zs.getD k 0)] := by
  rw [List.take_succ_eq_append_getElem h, getD_at _ _ h, List.map_append]
  rfl

set_option maxHeartbeats 2000000 in
theorem most_zero (a0 a1 a2 : Int) (ad : Option Addr) (cap : Nat) (w : World) (h0 : I64 a0) (h1 : I64 a1) (h2 : I64 a2) (hT : TabOK w) :
    Calls Tryd.prog 7 #[.int .i64 a0, .int .i64 a1, .int .i64 a2, .slice ad 0 cap] w fun e w' => e = .returned (.bool true) ∧ Below w.heap.size w w' := by
  obtain ⟨x8, hx8⟩ : ∃ x8, IntKind.i8.wrap a0 = x8 := ⟨_, rfl⟩
  obtain ⟨l8, hl8⟩ : ∃ l8, IntKind.i8.wrap a1 = l8 := ⟨_, rfl⟩
  obtain ⟨g8, hg8⟩ : ∃ g8, IntKind.i8.wrap a2 = g8 := ⟨_, rfl⟩
  have bx := wrap8_range a0
  have bl := wrap8_range a1
  have bg := wrap8_range a2
  rw [hx8] at bx
  rw [hl8] at bl
  rw [hg8] at bg
  obtain ⟨c, hc⟩ := exHid (clampOf a0 a1 a2)
  obtain ⟨c8, hc8⟩ := exHid (clampOf x8 l8 g8)
  have bc := clamp_range bx bl bg
  rw [hc8.out] at bc
  obtain ⟨bx1, bx2⟩ := bx
  obtain ⟨bl1, bl2⟩ := bl
  obtain ⟨bg1, bg2⟩ := bg
  obtain ⟨bc1, bc2⟩ := bc
  go_enter Tryd.func7, Tryd.ntmps7
  go_wp2_with (first
    | (go_at_call 16; refine (awake_any _ hT).mono ?_; rintro e w' ⟨rfl, hb⟩)
    | ((with_reducible refine (most64_none _ _ _).mono ?_); rintro e w' ⟨rfl, rfl⟩)
    | ((with_reducible refine (refMost_none _ _ _).mono ?_); rintro e w' ⟨rfl, rfl⟩)
    | ((with_reducible refine (small_none _ _ _).mono ?_); rintro e w' ⟨rfl, rfl⟩))
  refine wp_loop_rounds 1 ?_
  rw [rounds_succ]
  go_wp2_with (first
    | ((with_reducible refine (most8_none _ _ _).mono ?_); rintro e w' ⟨rfl, rfl⟩)
    | ((with_reducible refine (refMost_none _ _ _).mono ?_); rintro e w' ⟨rfl, rfl⟩)
    | ((with_reducible refine (clamp64_is hc _).mono ?_); rintro e w' ⟨rfl, rfl⟩)
    | ((with_reducible refine (refClamp_is hc _).mono ?_); rintro e w' ⟨rfl, rfl⟩)
    | ((with_reducible refine (clamp8_is hc8 _).mono ?_); rintro e w' ⟨rfl, rfl⟩)
    | ((with_reducible refine (refClamp_is hc8 _).mono ?_); rintro e w' ⟨rfl, rfl⟩))
  go_ret
  exact ⟨rfl, by assumption⟩

set_option maxHeartbeats 1000000 in
theorem most_long (a0 a1 a2 : Int) (ad : Option Addr) (len cap : Nat) (w : World) (hl : 200 < len) (hT : TabOK w) :
    Calls Tryd.prog 7 #[.int .i64 a0, .int .i64 a1, .int .i64 a2, .slice ad len cap] w fun e w' => e = .returned (.bool true) ∧ Below w.heap.size w w' := by
  go_enter Tryd.func7, Tryd.ntmps7
  go_wp2_with (go_at_call 16; refine (awake_any _ hT).mono ?_; rintro e w' ⟨rfl, hb⟩)
  go_ret
  exact ⟨rfl, by assumption⟩

/-- The greatest, in a later world. -/
theorem most64_in {b off len cap : Nat} {zs : List Int} {x : Int} (H : Hid (maxL zs = x)) (hlen : Hid (len = zs.length)) (h1 : 1 ≤ len) (hcl : len ≤ cap) (hm : cap ≤ 9223372036854775807) {w : World} (hc : ∀ j, j < len → w.cell? ⟨b, off + j, none⟩ = some (.int .i64 (zs.getD j 0))) {w' : World} (hb : Below w.heap.size w w') :
    Calls Tryd.prog 34 #[.slice (some ⟨b, off, none⟩) len cap] w' fun e w'' => e = .returned (.tuple #[.int .i64 x, .bool true]) ∧ w' = w'' :=
  (most64_some b off len cap zs w' hlen.out h1 hcl hm (fun j hj => (hb.cell (p := ⟨b, off + j, none⟩) (World.block_lt_of_cell? w _ (hc j hj))).trans (hc j hj))).mono fun e w'' ⟨he, hw⟩ => ⟨by rw [he, H.out], hw⟩
theorem refMost_in {b off len cap : Nat} {zs : List Int} {x : Int} (H : Hid (maxL zs = x)) (hlen : Hid (len = zs.length)) (h1 : 1 ≤ len) (hcl : len ≤ cap) (hm : cap ≤ 9223372036854775807) {w : World} (hc : ∀ j, j < len → w.cell? ⟨b, off + j, none⟩ = some (.int .i64 (zs.getD j 0))) {w' : World} (hb : Below w.heap.size w w') :
    Calls Tryd.prog 35 #[.slice (some ⟨b, off, none⟩) len cap] w' fun e w'' => e = .returned (.tuple #[.int .i64 x, .bool true]) ∧ w' = w'' :=
  (refMost_some b off len cap zs w' hlen.out h1 hcl hm (fun j hj => (hb.cell (p := ⟨b, off + j, none⟩) (World.block_lt_of_cell? w _ (hc j hj))).trans (hc j hj))).mono fun e w'' ⟨he, hw⟩ => ⟨by rw [he, H.out], hw⟩
theorem most8_in {b off len cap : Nat} {zs : List Int} {x : Int} (H : Hid (maxL zs = x)) (hlen : Hid (len = zs.length)) (h1 : 1 ≤ len) (hcl : len ≤ cap) (hm : cap ≤ 9223372036854775807) {w : World} (hc : ∀ j, j < len → w.cell? ⟨b, off + j, none⟩ = some (.int .i8 (zs.getD j 0))) {w' : World} (hb : Below w.heap.size w w') :
    Calls Tryd.prog 37 #[.slice (some ⟨b, off, none⟩) len cap] w' fun e w'' => e = .returned (.tuple #[.int .i8 x, .bool true]) ∧ w' = w'' :=
  (most8_some b off len cap zs w' hlen.out h1 hcl hm (fun j hj => (hb.cell (p := ⟨b, off + j, none⟩) (World.block_lt_of_cell? w _ (hc j hj))).trans (hc j hj))).mono fun e w'' ⟨he, hw⟩ => ⟨by rw [he, H.out], hw⟩
theorem small_in {b off len cap : Nat} {zs : List Int} (hlen : Hid (len = zs.length)) (h1 : 1 ≤ len) (h200 : len ≤ 200) {w : World} (hc : ∀ j, j < len → w.cell? ⟨b, off + j, none⟩ = some (.int .i64 (zs.getD j 0))) {w' : World} (hb : Below w.heap.size w w') :
    Calls Tryd.prog 36 #[.slice (some ⟨b, off, none⟩) len cap] w' fun e w'' => ∃ g capk, e = .returned (.slice (some ⟨g, 0, none⟩) len capk) ∧ Below w'.heap.size w' w'' ∧ len ≤ capk ∧ capk ≤ 9223372036854775807 ∧ Hid (∀ j, j < len → w''.cell? ⟨g, 0 + j, none⟩ = some (.int .i8 ((cut8 zs).getD j 0))) :=
  (small_some b off len cap zs w' hlen.out h200 (Nat.lt_of_lt_of_le (World.block_lt_of_cell? w _ (hc 0 (by omega))) hb.size) (fun j hj => (hb.cell (p := ⟨b, off + j, none⟩) (World.block_lt_of_cell? w _ (hc j hj))).trans (hc j hj))).mono fun e w'' ⟨v, he, hown, hb2, _⟩ => by
    rw [← hlen.out] at hown
    obtain ⟨g, capk, hv, _, _, hnc, hcm, hcells⟩ := own_some hown h1
    exact ⟨g, capk, by rw [he, hv], hb2, hnc, hcm, hcells⟩

theorem max_range : ∀ (l : List Int), (∀ j, j < l.length → -128 ≤ l.getD j 0 ∧ l.getD j 0 ≤ 127) → -128 ≤ maxL l ∧ maxL l ≤ 127 := by
  intro l h
  by_cases h0 : l.length = 0
  · rw [List.length_eq_zero_iff.1 h0]; simp [maxL]
  · have key : ∀ k, k + 1 ≤ l.length → -128 ≤ maxL (l.take (k + 1)) ∧ maxL (l.take (k + 1)) ≤ 127 := by
      intro k
      induction k with
      | zero =>
        intro hk
        have := h 0 (by omega)
        rw [getD_at _ _ (by omega)] at this
        rw [maxL_one l (by omega)]
        exact this
      | succ k ih =>
        intro hk
        have h1 := ih (by omega)
        have h2 := h (k + 1) (by omega)
        rw [maxL_step l (k + 1) (by omega) (by omega)]
        split <;> omega
    have := key (l.length - 1) (by omega)
    rw [List.take_of_length_le (by omega)] at this
    exact this

set_option maxHeartbeats 4000000 in
theorem most_main (a0 a1 a2 : Int) (b off len cap : Nat) (zs : List Int) (w : World) (h0 : I64 a0) (h1 : I64 a1) (h2 : I64 a2) (hT : TabOK w)
    (hlen : Hid (len = zs.length)) (hl1 : 1 ≤ len) (h200 : len ≤ 200) (hcl : len ≤ cap) (hm : cap ≤ 9223372036854775807)
    (hc : ∀ j, j < len → w.cell? ⟨b, off + j, none⟩ = some (.int .i64 (zs.getD j 0))) :
    Calls Tryd.prog 7 #[.int .i64 a0, .int .i64 a1, .int .i64 a2, .slice (some ⟨b, off, none⟩) len cap] w fun e w' => e = .returned (.bool true) ∧ Below w.heap.size w w' := by
  replace hc := Lib.hid hc
  obtain ⟨i0, hi, hz0, hz1, hz2⟩ := info_parts info64
  obtain ⟨x8, hx8⟩ : ∃ x8, IntKind.i8.wrap a0 = x8 := ⟨_, rfl⟩
  obtain ⟨l8, hl8⟩ : ∃ l8, IntKind.i8.wrap a1 = l8 := ⟨_, rfl⟩
  obtain ⟨g8, hg8⟩ : ∃ g8, IntKind.i8.wrap a2 = g8 := ⟨_, rfl⟩
  have bx := wrap8_range a0
  have bl := wrap8_range a1
  have bg := wrap8_range a2
  rw [hx8] at bx
  rw [hl8] at bl
  rw [hg8] at bg
  obtain ⟨c, hcc⟩ := exHid (clampOf a0 a1 a2)
  obtain ⟨c8, hc8⟩ := exHid (clampOf x8 l8 g8)
  have bc := clamp_range bx bl bg
  rw [hc8.out] at bc
  obtain ⟨bx1, bx2⟩ := bx
  obtain ⟨bl1, bl2⟩ := bl
  obtain ⟨bg1, bg2⟩ := bg
  obtain ⟨bc1, bc2⟩ := bc
  obtain ⟨mx, hmx⟩ := exHid (maxL zs)
  obtain ⟨m8, hm8⟩ := exHid (maxL (cut8 zs))
  have bm := max_range (cut8 zs) (fun j hj => cut8_at zs j (by rw [← cut8_len]; exact hj))
  rw [hm8.out] at bm
  obtain ⟨bm1, bm2⟩ := bm
  have hlen8 : Hid (len = (cut8 zs).length) := by show len = (cut8 zs).length; rw [cut8_len]; exact hlen.out
  have hne : ((len : Int) == 0) = false := by rw [beq_eq_false_iff_ne]; omega
  have hk := Below.refl w.heap.size w
  go_enter Tryd.func7, Tryd.ntmps7
  go_wp2_with (first
    | (go_at_call 16; refine (awake_any _ hT).mono ?_; rintro e w' ⟨rfl, hb⟩; have hk : Below w.heap.size w _ := below_next (by go_grown) hb)
    | ((with_reducible refine (most64_in hmx hlen hl1 hcl hm hc.out (by assumption)).mono ?_); rintro e w' ⟨rfl, rfl⟩)
    | ((with_reducible refine (refMost_in hmx hlen hl1 hcl hm hc.out (by assumption)).mono ?_); rintro e w' ⟨rfl, rfl⟩)
    | ((with_reducible refine (small_in hlen hl1 h200 hc.out (by assumption)).mono ?_); rintro e w3 ⟨g, capk, rfl, hb3, hnc, hcm, hck⟩; have hk3 : Below w.heap.size w _ := below_next (by go_grown) hb3))
  have hz3 := hk3.size
  have hgb : g < w3.heap.size := World.block_lt_of_cell? w3 _ (hck.out 0 (by omega))
  go_loopw [14, 15] (fun v i wr => ∃ k : Nat, k ≤ len ∧ i = .int .i64 k ∧ wr.ownsRow w3.heap.size 2 1 v k (((cut8 zs).take k).map (Value.int .i64)) ∧ Below w3.heap.size w3 wr ∧ (k = 0 → v = .slice none 0 0)) (fun _ i _ => len - (intOf i).toNat)
  case atStart => exact ⟨0, Nat.zero_le _, rfl, World.ownsRow_nil _ _ _ _, Below.refl _ _, fun _ => rfl⟩
  case round =>
    obtain ⟨k, hkl, rfl, hown, hnx, hnil⟩ := hrel
    replace hnil := Lib.hid hnil
    have hsz := hnx.size
    by_cases hlt : k < len
    · obtain ⟨z, hz⟩ := exHid ((cut8 zs).getD k 0)
      have hzr := cut8_at zs k (by rw [← hlen.out]; exact hlt)
      rw [hz.out] at hzr
      obtain ⟨hzr1, hzr2⟩ := hzr
      have hcx : wr.cell? ⟨g, 0 + k, none⟩ = some (.int .i8 z) := by
        rw [← hz.out, ← hck.out k hlt]
        exact hnx.cell (p := ⟨g, 0 + k, none⟩) hgb
      rw [Nat.zero_add] at hcx
      have hmore := Lib.hid (take64_more (cut8 zs) k (by rw [← hlen8.out]; exact hlt))
      go_wp2_with (at_builtin; refine wpList_append_own _ rfl _ _ 47 rfl w3.heap.size 2 i0 (.int .i64 0) 1 8 Tryd.underlying47 hi hz0 hz1 hz2 rfl (by decide) _ _ _ rfl (hown.alloc _) ⟨wr.heap.size, 0, none⟩ 1 1 [.int .i64 z] rfl rfl ?c1 ?c2 ?c3 ?c4 ?c5 ?_)
      case c1 =>
        intro j u hj
        match j, hj with
        | 0, hj => simp at hj; subst hj; simp [Addr.add]
      case c2 => intro u hu; simp at hu; subst hu; rfl
      case c3 => unfold maxLen; omega
      case c4 => omega
      case c5 => simp; omega
      intro v' w4 hown' hgrow _
      have hbel : Below w3.heap.size w3 w4 := (hnx.alloc hsz _).grown hgrow (by simp; omega) (by
        intro g' hg'
        rcases hown.2 with ⟨h0, _⟩ | ⟨g2, cap', cur, hv, hg2, _⟩
        · rw [h0] at hg'; cases hg'
        · rw [hv] at hg'; simp [Value.ownBlock] at hg'; omega)
      have hown2 : w4.ownsRow w3.heap.size 2 1 v' (k + 1) (((cut8 zs).take (k + 1)).map (Value.int .i64)) := by
        rw [hmore.out, hz.out, List.map_take]; exact hown'
      clear hown' hgrow hown
      go_wp2
      go_roundw
      case rel => exact ⟨k + 1, by omega, by go_num, hown2, hbel, fun h => absurd h (by omega)⟩
      case measure => simp [intOf]; omega
    · have hkl2 : Hid (k = len) := by show k = len; omega
      have hownF := hown
      rw [hkl2.out, List.take_of_length_le (by rw [← hlen8.out]; omega)] at hownF
      obtain ⟨g2, cap2, hv2, _, _, hnc2, hcm2, hcut⟩ := own_some hownF hl1
      subst hv2
      have hkw : Below w.heap.size w wr := below_next hk3 hnx
      replace hcut := Lib.hid hcut
      clear hown hownF
      go_wp2_with (first
        | ((with_reducible refine (most8_in hm8 hlen8 hl1 hnc hcm hck.out hnx).mono ?_); rintro e w' ⟨rfl, rfl⟩)
        | ((with_reducible refine (refMost_in hm8 hlen8 hl1 hnc2 hcm2 hcut.out (Below.refl _ _)).mono ?_); rintro e w' ⟨rfl, rfl⟩)
        | ((with_reducible refine (clamp64_is hcc _).mono ?_); rintro e w' ⟨rfl, rfl⟩)
        | ((with_reducible refine (refClamp_is hcc _).mono ?_); rintro e w' ⟨rfl, rfl⟩)
        | ((with_reducible refine (clamp8_is hc8 _).mono ?_); rintro e w' ⟨rfl, rfl⟩)
        | ((with_reducible refine (refClamp_is hc8 _).mono ?_); rintro e w' ⟨rfl, rfl⟩))
      go_ret
      exact ⟨rfl, by assumption⟩

theorem wholeMost_walk (a0 a1 a2 : Int) (a3 : Value) (w : World) (h0 : I64 a0) (h1 : I64 a1) (h2 : I64 a2) (h3 : IntsIn .i64 w a3) (hT : TabOK w) :
    Calls Tryd.prog 7 #[.int .i64 a0, .int .i64 a1, .int .i64 a2, a3] w fun e w' => e = .returned (.bool true) ∧ Below w.heap.size w w' := by
  rcases h3 with ⟨a, cap, rfl⟩ | ⟨b, off, len, cap, zs, rfl, hl1, hlen, hcl, hm, hc⟩
  · exact most_zero a0 a1 a2 a cap w h0 h1 h2 hT
  · by_cases hl : 200 < len
    · exact most_long a0 a1 a2 _ len cap w hl hT
    · exact most_main a0 a1 a2 b off len cap zs w h0 h1 h2 hT (Lib.hid hlen) hl1 (by omega) hcl hm hc
end Go.Proofs.YtkhbgmdjfkkkcaaDoor
