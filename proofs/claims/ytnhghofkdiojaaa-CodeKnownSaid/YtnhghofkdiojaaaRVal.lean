/- The contracts of the document's readers of a value, of all bytes as a value. -/
import Derived.Test.YtnhghofkdiojaaaRNode
namespace Go.Proofs.Ytnhghofkdiojaaa
open Go.RowKit

/-- What a reader of a value tells. -/
def ValPost (r : Vr) (w : World) (e : Ending) (w' : World) : Prop :=
  ∃ v, e = .returned (.tuple #[v, .int .i64 r.to, .int .i64 r.code]) ∧ RowN w' w.heap.size v r.d ∧ Below w.heap.size w w'

/-- What a new node behind the row comes to. -/
theorem rval_step {w wr w1 : World} {t0 v1 : Value} {d : List Nd} {nd : Nd} {o1 o2 : Obj}
    (hO : Below w.heap.size w wr) (hB : RowN wr w.heap.size t0 d)
    (hown : w1.ownsRow w.heap.size 34 5 v1 (d.length + 1) (rowOf encN d ++ encN nd)) (hg : ((wr.alloc o1).alloc o2).grownBy w1 t0.ownBlock) :
    RowN w1 w.heap.size v1 (d ++ [nd]) ∧ Below w.heap.size w w1 := by
  refine ⟨?_, (((hO.alloc hO.size _).alloc (by have := hO.size; simp; omega) _).grown hg (by have := hO.size; simp; omega) (fun k hk => row_base hB k hk))⟩
  unfold RowN
  rw [rowOf_snoc, List.length_append]
  exact hown

set_option maxRecDepth 100000 in
set_option maxHeartbeats 4000000 in
theorem refValue_any {w : World} {L cap : Nat} {a : Option Addr} {f : Nat → Nat} (h : By w a L f) (hlc : L ≤ cap) (hcm : cap ≤ 9223372036854775807) (hL : L ≤ 20000) :
    Calls Try.prog 25 #[.slice a L cap] w (ValPost (valR f L) w) := by
  have hsc := sc_any
  have hf : ∀ j, j < L → f j < 256 := fun j hj => h.lt j hj
  obtain ⟨i0, hi, hz0, hz1, hz2⟩ := infoN_parts
  replace h := Lib.hid h
  replace hf := Lib.hid hf
  go_enter Try.func25, Try.ntmps25
  go_wp2
  go_loopw [5, 6, 7, 8] (fun t0 at_ sz td wr => ∃ (p : Nat) (d : List Nd) (size left : Nat), ValAt f L p d size left ∧ at_ = .int .i64 p ∧ sz = .int .i64 size ∧ td = .int .i64 left ∧ RowN wr w.heap.size t0 d ∧ Below w.heap.size w wr) (fun _ at_ _ _ _ => L + 1 - (intOf at_).toNat)
  case atStart => exact ⟨0, [], 0, 1, ValAt.start f L, rfl, rfl, rfl, RowN.nil _ _, Below.refl _ _⟩
  case round =>
    obtain ⟨p, d, size, left, hV, rfl, rfl, rfl, hB, hO⟩ := hrel
    obtain ⟨oa, cap0, rfl, hnc, hcm0⟩ := ownsRow_shape hB
    have hlen := hV.len
    have hsz := hV.sz
    have hlf := hV.lf
    have hple := hV.le
    rcases Nat.eq_zero_or_pos left with h0 | h0
    · subst h0
      have hD := Lib.hid hV.done
      clear hV
      go_wp2
      go_ret3
      exact ⟨_, by rw [hD.out]; rfl, by rw [hD.out]; exact hB, hO⟩
    · have h0i : 0 < (left : Int) := by omega
      by_cases hp : p < L
      · have hpi : ¬ (L : Int) ≤ p := by omega
        obtain ⟨b, off, rfl, -, -⟩ := h.out (by omega)
        by_cases hm : d.length = 1024 ∨ size = 4096
        · have HE := Lib.hid (hV.many (by omega) hp hm)
          clear hV
          rcases (show (1024 : Int) ≤ d.length ∨ (¬ (1024 : Int) ≤ d.length ∧ (4096 : Int) < (size : Int) + 1) by omega) with m1 | ⟨m1, m2⟩
          all_goals
            go_wp2
            go_ret3
            exact ⟨_, by rw [HE.out]; rfl, by rw [HE.out]; exact RowN.nil _ _, hO⟩
        · have m1 : ¬ (1024 : Int) ≤ d.length := by omega
          have m2 : ¬ (4096 : Int) < (size : Int) + 1 := by omega
          have hK := rnode_any (size := size) (h.out.below' hO) hlc hcm hL hp (by omega)
          obtain ⟨r, hr⟩ : ∃ r, nodeR f L (p + 1) (f p) (4095 - size) = r := ⟨_, rfl⟩
          rw [hr] at hK
          have hrg := nodeR_range (f := f) (L := L) (p := p + 1) (k := f p) (room := 4095 - size) (by omega) (fun j _ hj => hf.out j hj)
          rw [hr] at hrg
          have q4 := hrg.1
          by_cases hrc : r.code = 0
          · have hV' := hV.next hf.out (by omega) hp hm hr hrc
            obtain ⟨q1, q2, q3⟩ := hrg.2 hrc
            have hK' : Calls Try.prog 48 #[.slice (some ⟨b, off, none⟩) L cap, .int .i64 p, .int .i64 size] wr fun e w' => e = .returned (.tuple #[ndV r.nd, .int .i64 r.to, .int .i64 0]) ∧ Below wr.heap.size wr w' := hK.mono fun e w' ⟨nd', he, hnd, hb⟩ => ⟨by rw [he, hnd hrc, hrc]; rfl, hb⟩
            clear hK hrg hr hV hm
            obtain ⟨⟨nk, nkids, nn, ns, nx, ny⟩, nto, ncode⟩ := r
            simp only [ndV] at hK'
            simp only at q1 q2 q3 q4
            replace hV' := Lib.hid hV'
            have hkids : (nkids : Int) ≤ 1024 := by omega
            have hns : (ns.size : Int) ≤ 4095 := by omega
            have hlfi : (left : Int) ≤ 1048577 := by omega
            go_wp2_with (first
              | ((with_reducible refine hK'.mono ?_); rintro e w3 ⟨rfl, hb3⟩; have hB3 := hB.only (F := fun _ => False) (Only.of_below hb3) (fun _ _ h => h); have hBa := (World.ownsRow.alloc (World.ownsRow.alloc hB3 (.cells #[.int .u8 nk, .int .i64 nkids, .int .i64 nn, .string ns, .complex .f64 nx ny] 34)) (.cells #[.int .u8 nk, .int .i64 nkids, .int .i64 nn, .string ns, .complex .f64 nx ny] 34)); have hO4 := below_next hO hb3; have hw3 := hO4.size; have hnew := news5 (heap_alloc_new (w3.alloc (.cells #[.int .u8 nk, .int .i64 nkids, .int .i64 nn, .string ns, .complex .f64 nx ny] 34)) (.cells #[.int .u8 nk, .int .i64 nkids, .int .i64 nn, .string ns, .complex .f64 nx ny] 34)); rw [show (w3.alloc (.cells #[.int .u8 nk, .int .i64 nkids, .int .i64 nn, .string ns, .complex .f64 nx ny] 34)).heap.size = w3.heap.size + 1 by simp] at hnew; replace hBa := Lib.hid hBa; replace hO4 := Lib.hid hO4; replace hnew := Lib.hid hnew)
              | (at_builtin; (refine wpList_append_own_at _ rfl _ _ 29 rfl w.heap.size 34 i0 (.agg #[.int .u8 0, .int .i64 0, .int .i64 0, .string ⟨#[]⟩, .complex .f64 0 0]) 5 56 Try.underlying29 hi hz0 hz1 hz2 rfl (by decide) _ d.length (rowOf encN d) rfl hBa.out ⟨w3.heap.size + 1, 0, none⟩ 1 1 [.int .u8 nk, .int .i64 nkids, .int .i64 nn, .string ns, .complex .f64 nx ny] rfl rfl hnew.out (encN_one ⟨nk, nkids, nn, ns, nx, ny⟩) (by unfold maxLen; omega) (by omega) (by simp; omega) ?_; intro v1 w4 hown4 hg4 _ _; obtain ⟨k3, k1⟩ := val_cells hB3 hg4)))
            go_roundw
            case rel =>
              obtain ⟨g1, g2⟩ := rval_step (nd := ⟨nk, nkids, nn, ns, nx, ny⟩) hO4.out hB3 hown4 hg4
              exact ⟨nto, _, _, _, hV'.out, rfl, by first | rfl | (congr 1; omega), by first | rfl | (congr 1; omega), g1, g2⟩
            case measure => simp [intOf]; omega
          · have hE := Lib.hid (hV.bad (by omega) hp hm hr hrc)
            have hrc' : ((r.code : Int) != 0) = true := by simp; omega
            have hK' : Calls Try.prog 48 #[.slice (some ⟨b, off, none⟩) L cap, .int .i64 p, .int .i64 size] wr fun e w' => ∃ (nk nkids : Nat) (nn : Int) (ns : ByteArray) (nx ny : Nat), e = .returned (.tuple #[.agg #[.int .u8 nk, .int .i64 nkids, .int .i64 nn, .string ns, .complex .f64 nx ny], .int .i64 r.to, .int .i64 r.code]) ∧ Below wr.heap.size wr w' :=
              hK.mono fun e w' ⟨nd', he, _, hb⟩ => ⟨nd'.k, nd'.kids, nd'.n, nd'.s, nd'.x, nd'.y, he, hb⟩
            clear hK hr hV hm hrg
            go_wp2_with ((with_reducible refine hK'.mono ?_); rintro e w3 ⟨nk, nkids, nn, ns, nx, ny, rfl, hb3⟩)
            go_ret3
            refine ⟨_, by rw [hE.out]; rfl, by rw [hE.out]; exact RowN.nil _ _, ?_⟩
            exact (below_next hO hb3).alloc (by have := (below_next hO hb3).size; omega) _
      · have hpe : p = L := by omega
        have hS := Lib.hid (hV.short (by omega) (by omega))
        have hpi : (L : Int) ≤ p := by omega
        clear hV
        go_wp2
        go_ret3
        exact ⟨_, by rw [hS.out]; rfl, by rw [hS.out]; exact RowN.nil _ _, hO⟩

set_option maxHeartbeats 1000000 in
theorem refAll_any {w : World} {L cap : Nat} {a : Option Addr} {f : Nat → Nat} (h : By w a L f) (hlc : L ≤ cap) (hcm : cap ≤ 9223372036854775807) (hL : L ≤ 20000) :
    Calls Try.prog 27 #[.slice a L cap] w (ValPost (allR f L) w) := by
  have hV := refValue_any h hlc hcm hL
  have E : Hid (allR f L = if (valR f L).code = 0 ∧ (valR f L).to < L then ⟨[], (valR f L).to, 3⟩ else valR f L) := rfl
  rw [E.out]
  generalize valR f L = r at hV ⊢
  unfold ValPost at hV
  clear h E
  by_cases hc : r.code = 0
  · have hc' : ((r.code : Int) == 0) = true := by simp; omega
    by_cases hlt : r.to < L
    · have hlt' : (r.to : Int) < (L : Int) := by omega
      rw [if_pos ⟨hc, hlt⟩]
      replace hc := Lib.hid hc
      go_enter Try.func27, Try.ntmps27
      go_wp2_with ((with_reducible refine hV.mono ?_); rintro e w2 ⟨v, rfl, hrow, hb⟩)
      go_ret3
      exact ⟨_, rfl, RowN.nil _ _, hb⟩
    · have hlt' : ¬ (r.to : Int) < (L : Int) := by omega
      rw [if_neg (fun h => hlt h.2)]
      replace hc := Lib.hid hc
      go_enter Try.func27, Try.ntmps27
      go_wp2_with ((with_reducible refine hV.mono ?_); rintro e w2 ⟨v, rfl, hrow, hb⟩)
      go_ret3
      exact ⟨_, rfl, hrow, hb⟩
  · have hc' : ((r.code : Int) == 0) = false := by simp; omega
    rw [if_neg (fun h => hc h.1)]
    replace hc := Lib.hid hc
    go_enter Try.func27, Try.ntmps27
    go_wp2_with ((with_reducible refine hV.mono ?_); rintro e w2 ⟨v, rfl, hrow, hb⟩)
    go_ret3
    exact ⟨_, rfl, hrow, hb⟩
end Go.Proofs.Ytnhghofkdiojaaa
