/- The law TokenAll: a source's tokens, or its first fault, are the document's. -/
import Derived.Test.YtmgbebpkkidooaaDoorTDocV
import Derived.Test.YtmgbebpkkidooaaDoorTLaid
namespace Go.Proofs.YtmgbebpkkidooaaDoor
open Go.RowKit Tok

/-- What All answers, of any source of at most 20000 bytes. -/
def AllPost (s : ByteArray) (w : World) (e : Ending) (w' : World) : Prop := ∃ v', e = .returned (.tuple #[v', .int .i64 (allT s.data.toList).at_, .int .i64 (allT s.data.toList).code]) ∧ TksAt w' w.heap.size v' (allT s.data.toList).toks ∧ Below w.heap.size w w'
theorem allT_long {s : ByteArray} (h : 16384 < s.size) : allT s.data.toList = ⟨[], 0, 2⟩ := if_pos (by rw [size_list]; exact h)
theorem All_every (s : ByteArray) (w : World) (hs : s.size ≤ 20000) (hE : ErrR w) (hS : SignsOK w) : Calls Tryd.prog 7 #[.string s] w (AllPost s w) := by
  rcases Nat.lt_or_ge 16384 s.size with h | h
  · refine (All_long s w h (by omega)).mono ?_
    rintro e w' ⟨rfl, rfl⟩
    unfold AllPost
    rw [allT_long h]
    exact ⟨_, rfl, TksAt.nil _ _, Below.refl _ _⟩
  · exact All_any s w h hE hS
set_option maxHeartbeats 400000 in
theorem refAll_long (s : ByteArray) (w : World) (hs : 16384 < s.size) (hs2 : s.size ≤ 20000) :
    Calls Tryd.prog 9 #[.string s] w fun e w' => e = .returned (.tuple #[.slice none 0 0, .int .i64 0, .int .i64 2]) ∧ w' = w := by
  have h1 : (16384 : Int) < (s.size : Int) := by omega
  go_enter Tryd.func9, Tryd.ntmps9
  go_wp2
  go_ret3
  exact ⟨rfl, rfl⟩
theorem refAll_every (s : ByteArray) (w : World) (hs : s.size ≤ 20000) : Calls Tryd.prog 9 #[.string s] w (AllPost s w) := by
  rcases Nat.lt_or_ge 16384 s.size with h | h
  · refine (refAll_long s w h hs).mono ?_
    rintro e w' ⟨rfl, rfl⟩
    unfold AllPost
    rw [allT_long h]
    exact ⟨_, rfl, TksAt.nil _ _, Below.refl _ _⟩
  · exact refAll_any s w h
/-- The cells of a list that is written over. -/
def LRow (w : World) (g n : Nat) : Prop := ∃ cs, w.heap[g]? = some (.cells cs 29 (0, 0)) ∧ n * 4 ≤ cs.size
theorem LRow.cell {w : World} {g n : Nat} (h : LRow w g n) {j : Nat} (hj : j < n * 4) : (∃ v, w.cell? ⟨g, j, none⟩ = some v) ∧ w.frozen? ⟨g, j, none⟩ = false := by
  obtain ⟨cs, hc, hn⟩ := h
  have hjc : j < cs.size := by omega
  exact ⟨⟨cs[j], by simp [World.cell?, hc, hjc]⟩, by simp [World.frozen?, hc]⟩
theorem LRow.set {w : World} {g n : Nat} (h : LRow w g n) (j : Nat) (v : Value) : LRow (w.setCell ⟨g, j, none⟩ v) g n := by
  obtain ⟨cs, hc, hn⟩ := h
  exact ⟨_, heap_setCell_same w _ j _ _ v hc, by simpa using hn⟩
/-- A row of the call's own, told by its blocks. -/
theorem tks_blocks {w : World} {base : Nat} {v : Value} {ks : List Tk} (h : TksAt w base v ks) : ∃ (F : Nat → Prop) (a : Option Addr) (cap : Nat), v = .slice a ks.length cap ∧ (∀ k, F k → base ≤ k ∧ k < w.heap.size) ∧ (0 < ks.length → ∃ g, F g ∧ a = some ⟨g, 0, none⟩ ∧ LRow w g ks.length) := by
  rcases h.2 with ⟨hv, h0⟩ | ⟨g, cap, cur, hv, hb, hg, hnc, hcm, hsz, ht⟩
  · exact ⟨fun _ => False, none, 0, by rw [hv, h0], fun _ h => h.elim, fun h => by omega⟩
  · refine ⟨fun k => k = g, _, cap, hv, fun k hk => by subst hk; exact ⟨hb, (Array.getElem?_eq_some_iff.1 hg).1⟩, fun _ => ⟨g, rfl, rfl, cur, hg, ?_⟩⟩
    rw [hsz]
    exact Nat.mul_le_mul_right _ hnc

set_option maxRecDepth 20000 in
set_option maxHeartbeats 4000000 in
theorem tokenAll_walk (s : ByteArray) (w : World) (hs : s.size ≤ 140737488351232) (hE : ErrR w) (hS : SignsOK w) :
    Calls Tryd.prog 3 #[.string s] w fun e w' => e = .returned (.bool true) ∧ Below w.heap.size w w' := by
  have hWk := Lib.hid (fun W (h : Below w.heap.size w W) => wakes_any W (hE.below h) (hS.below h))
  rcases Nat.lt_or_ge 20000 s.size with hlen | hlen
  · have hi : (20000 : Int) < (s.size : Int) := by omega
    have k := Lib.hid (All_long s w (by omega) hs)
    go_enter Tryd.func3, Tryd.ntmps3
    go_wp2_with fail
    refine k.out.mono ?_
    rintro e w1 ⟨rfl, rfl⟩
    go_wp2_with fail
    refine (hWk.out _ (Below.refl _ _)).mono ?_
    rintro e w1 ⟨rfl, hb1⟩
    go_wp2
    go_ret
    exact ⟨rfl, hb1⟩
  · have hi : ¬ (20000 : Int) < (s.size : Int) := by omega
    have kA := Lib.hid (fun W (h : Below w.heap.size w W) => All_every s W hlen (hE.below h) (hS.below h))
    have kR := Lib.hid (fun W => refAll_every s W hlen)
    unfold AllPost at kA kR
    generalize allT s.data.toList = A at *
    obtain ⟨ks, at_, code⟩ := A
    go_enter Tryd.func3, Tryd.ntmps3
    go_wp2_with fail
    refine (kA.out _ (Below.refl _ _)).mono ?_
    rintro e w1 ⟨v1, rfl, hT1, hb1⟩
    obtain ⟨F, a1, cap1, rfl, hF, hrow⟩ := tks_blocks hT1
    go_wp2_with fail
    refine (kR.out _).mono ?_
    rintro e w2 ⟨v2, rfl, hT2, hb2⟩
    obtain ⟨a2, cap2, rfl, _, _⟩ := id hT2.shape
    have hb3 := below_next hb1 hb2
    go_wp2_with fail
    refine (alike_true (hT1.tkIn.below hb2) hT2.tkIn).mono ?_
    rintro e w4 ⟨rfl, hb4⟩
    have hb5 := Lib.hid (below_next hb3 hb4)
    have hT4 := Lib.hid (hT2.below hb4)
    have hrow4 : 0 < ks.length → ∃ g, F g ∧ a1 = some ⟨g, 0, none⟩ ∧ LRow w4 g ks.length := by
      intro h0
      obtain ⟨g, hg, he, cs, hc, hn⟩ := hrow h0
      exact ⟨g, hg, he, cs, ((below_next hb2 hb4).block g (hF g hg).2).trans hc, hn⟩
    have hz14 := (below_next hb2 hb4).size
    replace hrow4 := Lib.hid hrow4
    replace hF := Lib.hid hF
    clear hrow hT1 hT2 hb1 hb2 hb3 hb4
    go_wp2
    go_loopw [12] (fun t12 wr => ∃ i : Nat, i ≤ ks.length ∧ t12 = .int .i64 i ∧ Hid (Only F w4 wr) ∧ Hid (0 < ks.length → ∃ g, F g ∧ a1 = some ⟨g, 0, none⟩ ∧ LRow wr g ks.length)) (fun t12 _ => ks.length - (intOf t12).toNat)
    case atStart => exact ⟨0, by omega, rfl, Only.refl _ _, hrow4⟩
    case round =>
      obtain ⟨i, hin, rfl, ho, hr⟩ := hrel
      rcases Nat.lt_or_ge i ks.length with hlt | hge
      · have hlti : (i : Int) < (ks.length : Int) := by omega
        obtain ⟨g, hg, rfl, hL⟩ := hr.out (by omega)
        obtain ⟨⟨z0, x0⟩, y0⟩ := hL.cell (j := i * 4) (by omega)
        obtain ⟨⟨z1, x1⟩, y1⟩ := hL.cell (j := i * 4 + 1) (by omega)
        obtain ⟨⟨z2, x2⟩, y2⟩ := hL.cell (j := i * 4 + 2) (by omega)
        obtain ⟨⟨z3, x3⟩, y3⟩ := hL.cell (j := i * 4 + 3) (by omega)
        have hset := Lib.hid ((((hL.set (i * 4) (.int .u8 9)).set (i * 4 + 1) (.string ⟨#[]⟩)).set (i * 4 + 2) (.int .i64 0)).set (i * 4 + 3) (.int .i64 0))
        have hoset := Lib.hid ((((ho.out.setCell (p := ⟨g, i * 4, none⟩) (.inl hg) (.int .u8 9)).setCell (p := ⟨g, i * 4 + 1, none⟩) (.inl hg) (.string ⟨#[]⟩)).setCell (p := ⟨g, i * 4 + 2, none⟩) (.inl hg) (.int .i64 0)).setCell (p := ⟨g, i * 4 + 3, none⟩) (.inl hg) (.int .i64 0))
        replace hL := Lib.hid hL
        go_wp2
        go_roundw
        case rel => exact ⟨i + 1, by omega, by go_num, hoset, fun _ => ⟨g, hg, rfl, hset.out⟩⟩
        case measure => simp [intOf]; omega
      · obtain rfl : i = ks.length := by omega
        have hlti : ¬ ((ks.length : Int) < (ks.length : Int)) := by omega
        have hbr := Lib.hid ((Below.refl w.heap.size w).trans (hb5.out.trans (ho.out.below hb5.out.size (fun k hk e => by have := (hF.out k e).1; omega))))
        have hTr : TksAt wr w1.heap.size (.slice a2 ks.length cap2) ks := ownsRow_only hT4.out ho.out (fun g hg e => by have h1 := (hF.out g e).2; have h2 := (World.ownsRow.lt hT4.out g hg).1; omega)
        replace hTr := Lib.hid hTr.tkIn
        clear hr
        go_wp2_with fail
        refine (kA.out _ hbr.out).mono ?_
        rintro e w6 ⟨v6, rfl, hT6, hb6⟩
        obtain ⟨a6, cap6, rfl, _, _⟩ := id hT6.shape
        have hb7 := Lib.hid (below_next hbr.out hb6)
        have hT7 := Lib.hid (hTr.out.below hb6)
        replace hT6 := Lib.hid hT6.tkIn
        go_wp2_with fail
        refine (alike_true hT6.out hT7.out).mono ?_
        rintro e w8 ⟨rfl, hb8⟩
        have hb9 := Lib.hid (below_next hb7.out hb8)
        go_wp2_with fail
        refine (hWk.out _ hb9.out).mono ?_
        rintro e wx ⟨rfl, hbx⟩
        go_wp2
        go_ret
        exact ⟨rfl, below_next hb9.out hbx⟩
end Go.Proofs.YtmgbebpkkidooaaDoor
