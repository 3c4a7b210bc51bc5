/- tree's Parts (layer 8), walked. No condition. -/
import Derived.Test.YthgkkdhalcpgbaaRTrs
import Derived.Test.YthgkkdhalcpgbaaRPrt
import Derived.Test.YthgkkdhalcpgbaaRChk
import Derived.Laws.MakeOwn
namespace Go.Proofs.Ythgkkdhalcpgbaa
open Go.RowKit Go.Shelf

def lenOf : Value → Nat
  | .slice _ n _ => n
  | _ => 0
theorem Check_ok {v : Value} {ts : List Tw} (w : World) (hT : TwIn w v ts) (hf : ∀ x ∈ ts, FitT x) {E : Int} (h : (lookF ts).2.2 = E) :
    Calls Try.prog 20 #[v] w fun e w' => ∃ k : Int, e = .returned (.tuple #[.int .i64 k, .int .i64 E]) ∧ Below w.heap.size w w' := by
  subst h
  refine (Check_any w hT hf).mono ?_
  rintro e w1 ⟨rfl, hb⟩
  exact ⟨_, rfl, hb⟩
set_option maxRecDepth 20000 in
theorem Parts_bad {v : Value} {ts : List Tw} (w : World) (hT : TwIn w v ts) (hf : ∀ x ∈ ts, FitT x) {E : Int} (h : (lookF ts).2.2 = E) (h0 : E ≠ 0) :
    Calls Try.prog 10 #[v] w fun e w' => e = .returned (.tuple #[.slice none 0 0, .int .i64 E]) ∧ Below w.heap.size w w' := by
  have hc := fun W (hT : TwIn W v ts) => Check_ok W hT hf h
  replace hc := Lib.hid hc
  replace hf := Lib.hid hf
  have h0b : (E != 0) = true := by simpa using h0
  have hTT := Lib.hid hT
  obtain ⟨a, cap, rfl, _, _, _⟩ := hT
  clear h
  go_enter Try.func10, Try.ntmps10
  go_wp2_with fail
  refine (hc.out _ hTT.out).mono ?_
  rintro e w1 ⟨k, rfl, hb⟩
  go_wp2_with fail
  go_ret2
  exact ⟨rfl, hb⟩
/-- What is cut off a list of twigs: one value, whatever its capacity. -/
theorem run_tail (g off n m cap : Nat) (h : n ≤ m) (hm : m ≤ cap) (z : Int) (hz : z = (n : Int)) : ∃ a2, (m - n = 0 ∨ a2 = some ⟨g, off + n * 4, none⟩) ∧
    ∀ W, (Instr.slice 23 (.slice (some ⟨g, off, none⟩) m cap) (some (.int .i64 z)) none none).run Try.prog W = .ok (.slice a2 (m - n) (cap - n)) W := by
  subst hz
  refine ⟨if cap = n then some ⟨g, off, none⟩ else some ⟨g, off + n * 4, none⟩, ?_, fun W => ?_⟩
  · by_cases hc : cap = n
    · exact .inl (by omega)
    · exact .inr (if_neg hc)
  · rw [run_slice_l (P := Try.prog) (w := W) 23 (some ⟨g, off, none⟩) m cap Try.underlying23 .i64 n (by omega) (by omega)]
    obtain ⟨i0, hi, _, hz1, _⟩ := tw_parts
    have he : Try.prog.elem 23 = 32 := by kernel_rfl
    have hs : (sizeOf (Try.prog.elem 23)).run Try.prog W = .ok 4 W := by rw [he]; simp [sizeOf, typeInfo, hi, hz1, Sem.run_bind, Result.andThen]
    rw [hs]
    simp only [Result.andThen, sliced, Int.toNat_natCast]
    by_cases hc : cap = n
    · rw [if_pos hc, if_pos hc]
    · rw [if_neg hc, if_neg hc]
      simp [Addr.add]
theorem run_head (g off n m cap : Nat) (h : n ≤ m) (hm : m ≤ cap) (hn : 0 < n) : ∀ W, (Instr.slice 23 (.slice (some ⟨g, off, none⟩) m cap) none (some (.int .i64 (n : Int))) none).run Try.prog W = .ok (.slice (some ⟨g, off, none⟩) n cap) W := by
  intro W
  rw [run_slice_h (P := Try.prog) (w := W) 23 (some ⟨g, off, none⟩) m cap Try.underlying23 .i64 n (by omega) (by omega)]
  obtain ⟨i0, hi, _, hz1, _⟩ := tw_parts
  have he : Try.prog.elem 23 = 32 := by kernel_rfl
  have hs : (sizeOf (Try.prog.elem 23)).run Try.prog W = .ok 4 W := by rw [he]; simp [sizeOf, typeInfo, hi, hz1, Sem.run_bind, Result.andThen]
  rw [hs]
  simp only [Result.andThen, sliced, Int.toNat_natCast]
  rw [if_neg (by omega)]
  simp [Addr.add]
theorem TwsAt.base {w : World} {b c : Nat} {v : Value} {ts : List Tw} (h : TwsAt w b v ts) (hc : c ≤ b) : TwsAt w c v ts := ownsRow_base h (fun g hg => by have := (own_type h hg).1; omega)
set_option maxRecDepth 20000 in
set_option maxHeartbeats 2000000 in
theorem Parts_ok {v : Value} {x : Tw} {ps : List (List Tw)} (w : World) (hT : TwIn w v (x :: ps.flatten)) (hf : ∀ y ∈ x :: ps.flatten, FitT y) (h : Ok (x :: ps.flatten)) (hx : x.kids = (ps.length : Int)) (hok : ∀ p ∈ ps, Ok p) (hpl : ps.length ≤ 2048) :
    Calls Try.prog 10 #[v] w fun e w' => ∃ v', e = .returned (.tuple #[v', .int .i64 0]) ∧ Trs w' w.heap.size v' ps ∧ Below w.heap.size w w' := by
  have hl := ((ok_iff _).1 h).2
  have hkids := ok_kids h
  have hc := fun W (hT : TwIn W v (x :: ps.flatten)) => Check_ok W hT hf (E := 0) h
  obtain ⟨i0, hi, hz0, hz1, hz2⟩ := tr_parts
  have htw : ∀ W v i, i < ps.length → TwIn W v (ps.drop i).flatten → Calls Try.prog 22 #[v] W fun e w' => e = .returned (.int .i64 ((ps.getD i []).length : Int)) ∧ w' = W := by
    intro W v i hi hT
    have hd : ps.drop i = ps.getD i [] :: ps.drop (i + 1) := by
      rw [List.drop_eq_getElem_cons hi, List.getD_eq_getElem?_getD, List.getElem?_eq_getElem hi]
      rfl
    have hs : ((ps.drop i).flatten).Sublist ps.flatten := by
      conv => rhs; rw [← List.take_append_drop i ps]
      rw [List.flatten_append]
      exact List.sublist_append_right _ _
    have hq : Ok (ps.getD i []) := hok _ (by rw [List.getD_eq_getElem?_getD, List.getElem?_eq_getElem hi]; exact List.getElem_mem _)
    refine twigs_any W hT (fun y hy => hkids y (List.mem_cons_of_mem _ (hs.subset hy))) (by have := hs.length_le; rw [List.length_cons] at hl; omega) ?_
    rw [hd, List.flatten_cons]
    exact endL_append _ _ _ _ (ok_end hq)
  have hlen0 : ∀ i, i < ps.length → 0 < (ps.getD i []).length := by
    intro i hi
    exact ((ok_iff _).1 (hok _ (by rw [List.getD_eq_getElem?_getD, List.getElem?_eq_getElem hi]; exact List.getElem_mem _))).1.1
  have hfl : ∀ i, (ps.drop i).flatten.length ≤ 2048 := by
    intro i
    have hs : ((ps.drop i).flatten).Sublist ps.flatten := by
      conv => rhs; rw [← List.take_append_drop i ps]
      rw [List.flatten_append]
      exact List.sublist_append_right _ _
    have := hs.length_le
    rw [List.length_cons] at hl
    omega
  replace hc := Lib.hid hc
  replace hf := Lib.hid hf
  replace htw := Lib.hid htw
  replace hlen0 := Lib.hid hlen0
  replace hfl := Lib.hid hfl
  have hTT := Lib.hid hT
  obtain ⟨a, cap, rfl, hlc, hcm, h3⟩ := hT
  obtain ⟨g, off, rfl, hg, hcell⟩ := h3 (by simp)
  have p1 := hcell 0 (by simp) 1 (by omega)
  clear h3 hcell h hkids hok
  rcases x with ⟨op, kids, num, text⟩
  dsimp only at hx
  subst hx
  simp only [List.getElem_cons_zero, twC, List.getElem?_cons_succ, List.getElem?_cons_zero, Nat.zero_mul, Nat.add_zero] at p1
  rw [List.length_cons] at hlc hl
  obtain ⟨N, hN⟩ := exHid ((⟨op, (ps.length : Int), num, text⟩ :: ps.flatten : List Tw).length)
  have hN2 : N = ps.flatten.length + 1 := by rw [← hN.out]; rfl
  have hN3 : N ≤ 2048 := by omega
  have hN4 : 0 < N := by omega
  have hN5 : N ≤ cap := by omega
  replace hN2 := Lib.hid hN2
  rw [hN.out] at hTT hc ⊢
  clear hl hlc
  replace hi := Lib.hid hi
  go_enter Try.func10, Try.ntmps10
  go_wp2_with fail
  refine (hc.out _ hTT.out).mono ?_
  rintro e w1 ⟨k, rfl, hb1⟩
  have p1' := cell_on p1 hb1
  obtain ⟨w2, hmk, hown, hgr⟩ := run_makeSlice_owned (P := Try.prog) w1 w.heap.size 26 23 i0 (.slice none 0 0) 1 Try.underlying26 hi.out hz0 hz1 .i64 .i64 ps.length (by omega) (by rw [hz2]; omega) (by unfold maxLen; omega) hb1.size
  have hb2 : Below w.heap.size w w2 := hb1.trans ((Below.refl _ _).grown hgr hb1.size (fun k hk => by cases hk))
  have hT0 := Lib.hid (Trs.nil_made hown)
  replace hb2 := Lib.hid hb2
  clear p1 hown hgr hb1
  obtain ⟨a2, ha2, hs2⟩ := run_tail g off 1 N cap (by omega) hN5 1 rfl
  have hR := Lib.hid (TwIn.tail (p := [⟨op, (ps.length : Int), num, text⟩]) (q := ps.flatten) (m := N - 1) (c2 := cap - 1) (o2 := off + 4) (a2 := a2) (cap := cap) (by
    have := hTT.out
    rw [← hN.out] at this
    exact this) (by rw [hN2.out]; omega) rfl (by simp) ha2)
  clear ha2
  go_wp2_with fail
  clear hs2 hmk p1' hc hTT hi hz0 hz1 hz2 hN2 hN3 hN4 hN5
  go_loopw [6, 7] (fun t6 t7 wr => ∃ i : Nat, i ≤ ps.length ∧ Hid (Trs wr w.heap.size t6 (ps.take i)) ∧ Hid (TwIn w t7 (ps.drop i).flatten) ∧ Hid (Below w.heap.size w wr)) (fun _ t7 _ => lenOf t7)
  case atStart => exact ⟨0, by omega, by rw [List.take_zero]; exact hT0, by rw [List.drop_zero]; exact hR, hb2⟩
  case round =>
    clear hT0 hR hb2
    obtain ⟨i, hile, hT6, hT7, hB⟩ := hrel
    rcases Nat.lt_or_ge i ps.length with hlt | hge
    · have c := Lib.hid (htw.out wr _ i hlt (hT7.out.below hB.out))
      have hd : ps.drop i = ps.getD i [] :: ps.drop (i + 1) := by
        rw [List.drop_eq_getElem_cons hlt, List.getD_eq_getElem?_getD, List.getElem?_eq_getElem hlt]
        rfl
      have htk : ps.take (i + 1) = ps.take i ++ [ps.getD i []] := by
        rw [List.take_add_one, List.getD_eq_getElem?_getD, List.getElem?_eq_getElem hlt]
        rfl
      have hn0 := hlen0.out i hlt
      have hf0 := hfl.out i
      rw [hd, List.flatten_cons] at hT7 hf0
      generalize ps.getD i [] = p at *
      obtain ⟨a7, c7, e7, hl7, hm7, h7⟩ := hT7.out
      obtain ⟨g7, o7, rfl, hg7, hcl⟩ := h7 (by rw [List.length_append]; omega)
      subst e7
      clear hcl h7
      have hpl2 : p.length ≤ (p ++ (ps.drop (i + 1)).flatten).length := by rw [List.length_append]; omega
      have hr2 : (p ++ (ps.drop (i + 1)).flatten).length - p.length = ((ps.drop (i + 1)).flatten).length := by rw [List.length_append]; omega
      have hH := Lib.hid ((TwIn.head hT7.out (n := p.length) rfl).below hB.out)
      obtain ⟨a2, ha2, hs2⟩ := run_tail g7 o7 p.length _ c7 hpl2 hl7 _ rfl
      have hTl := fun W (h : TwIn W _ _) => TwIn.tail (p := p) (q := (ps.drop (i + 1)).flatten) (g := g7) (off := o7) (cap := c7) h hr2 rfl rfl ha2
      have hs1 := run_head g7 o7 p.length _ c7 hpl2 hl7 hn0
      replace hTl := Lib.hid hTl
      replace hd := Lib.hid hd
      replace htk := Lib.hid htk
      generalize hL : (p ++ (ps.drop (i + 1)).flatten).length = L at *
      replace hL := Lib.hid hL
      have hL0 : (0 : Int) < (L : Int) := by omega
      have hpl3 : p.length ≤ 2048 := by omega
      generalize hn : p.length = n at *
      replace hn := Lib.hid hn
      clear ha2 hr2 htw hlen0 hfl
      have hlen6 : (ps.take i).length ≤ 1000000000 := by rw [List.length_take]; omega
      go_wp2_with fail
      refine c.out.mono ?_
      rintro e w3 ⟨rfl, rfl⟩
      go_wp2_with fail
      refine (CloneTw_any hH.out (by rw [hn.out]; omega)).mono ?_
      rintro e w4 ⟨v4, rfl, hO4, hb4⟩
      obtain ⟨a4, c4, e4, _⟩ := hO4.shape
      rw [hn.out] at e4
      subst e4
      have hsz4 := hb4.size
      have hszB := hB.out.size
      have hal := (Below.refl w4.heap.size w4).alloc (Nat.le_refl _) (.cells #[.slice a4 n c4] 23)
      have hT6' := Lib.hid ((hT6.out.below hb4).below hal)
      have hO4' := Lib.hid ((hO4.base hszB).below hal)
      have hT7' := Lib.hid (hTl.out _ hT7.out)
      have hB4 := Lib.hid ((hB.out.trans (hb4.mono hszB)).trans (hal.mono (show w.heap.size ≤ w4.heap.size by omega)))
      have hcl := (one_cell w4 #[.slice a4 n c4] 23 0).trans (show _ = some (Value.slice a4 n c4) from rfl)
      replace hb4 := Lib.hid hb4
      clear hT6 hT7 hH hO4 hal hTl c hB
      go_wp2_with (at_builtin; (refine wpList_append_tr (base := w.heap.size) (ps := ps.take i) (q := p) rfl _ _ rfl rfl hT6'.out rfl hcl hO4'.out hlen6 hB4.out.size ?_; intro a5 c5 w5 hT5 hB5 hO5))
      have hB6 := hB4.out.trans hB5
      have hli : (ps.take i).length = i := by rw [List.length_take]; omega
      rw [hli] at hT5
      go_roundw
      case rel => exact ⟨i + 1, by omega, by rw [htk.out]; exact Lib.hid hT5, hT7', Lib.hid hB6⟩
      case measure => simp [lenOf]; omega
    · have e0 : ps.drop i = [] := List.drop_eq_nil_of_le hge
      have e1 : ps.take i = ps := List.take_of_length_le hge
      rw [e1] at hT6
      obtain ⟨a7, c7, e7, hl7, hm7, h7⟩ := hT7.out
      rw [e0] at e7
      subst e7
      clear h7 hl7 hT7 htw hlen0 hfl e0 e1
      go_wp2_with fail
      go_ret2
      exact ⟨_, rfl, hT6.out, hB.out⟩
end Go.Proofs.Ythgkkdhalcpgbaa
