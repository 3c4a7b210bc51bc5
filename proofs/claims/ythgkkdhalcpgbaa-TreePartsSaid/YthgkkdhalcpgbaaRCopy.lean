/- The law's Copied and slices.Clone of any twigs (layer 8), walked. No condition. -/
import Derived.Test.YthgkkdhalcpgbaaRTws
import Derived.Deep.AppendSrc
import Derived.Lib.SliceRun
namespace Go.Proofs.Ythgkkdhalcpgbaa
open Go.RowKit Go.Shelf

theorem tws_new (w : World) (cs : Array Value) (hcs : cs = #[]) : TwsAt (w.alloc (.cells cs 32)) w.heap.size (.slice (some ⟨w.heap.size, 0, none⟩) 0 0) [] := by
  subst hcs
  exact ⟨rfl, .inr ⟨w.heap.size, 0, #[], rfl, Nat.le_refl _, heap_alloc_new w _, Nat.le_refl _, by unfold maxLen; omega, rfl, rfl⟩⟩
theorem append_none (w : World) (ty : TypeId) (b cap : Nat) : (Builtin.append_ #[23, 23] ty #[.slice (some ⟨b, 0, none⟩) 0 0, .slice none 0 cap]).run Try.prog w = .ok (.slice (some ⟨b, 0, none⟩) 0 0) w := by
  obtain ⟨i0, hi, hz0, hz1, hz2⟩ := tw_parts
  have h := run_append_room_src (P := Try.prog) w 23 23 ty 32 i0 Try.underlying23 hi b 0 0 0 (.slice none 0 cap) 0 [] (Src.ofNil w Try.underlying23 cap) (Nat.le_refl _) (by simp) (by simp)
  rw [h]
  rfl
set_option maxHeartbeats 1000000 in
theorem Copied_any {w : World} {v : Value} {ts : List Tw} (h : TwIn w v ts) (hl : ts.length ≤ 1000000000) :
    Calls Try.prog 9 #[v] w fun e w' => ∃ v', e = .returned v' ∧ TwsAt w' w.heap.size v' ts ∧ Below w.heap.size w w' := by
  have hT := Lib.hid h
  obtain ⟨a, cap, rfl, hlc, hcm, h3⟩ := h
  have ha : Below w.heap.size w (w.alloc (.cells #[] 32)) := (Below.refl _ w).alloc (Nat.le_refl _) _
  have hm := Lib.hid (hT.out.below ha)
  replace ha := Lib.hid ha
  rcases a with _ | ad
  · have h0 : ts = [] := List.eq_nil_of_length_eq_zero (by
      rcases Nat.eq_zero_or_pos ts.length with c | c
      · exact c
      · obtain ⟨_, _, e, _⟩ := h3 c
        cases e)
    subst h0
    have hr := append_none
    clear h3 hT hm
    go_enter Try.func9, Try.ntmps9
    go_wp2_with fail
    go_ret
    exact ⟨_, rfl, tws_new w _ rfl, ha.out⟩
  · clear h3
    go_enter Try.func9, Try.ntmps9
    go_wp2_with (at_builtin; (refine wpList_append_tws (base := w.heap.size) (v := _) (ts := []) (us := ts) rfl _ _ rfl rfl (tws_new w _ rfl) rfl hm.out (by simp) hl (by simp) ?_; intro a1 c1 w1 hB1 hO))
    go_ret
    exact ⟨_, rfl, by simpa using hB1, ha.out.trans hO⟩
set_option maxHeartbeats 1000000 in
theorem CloneTw_any {w : World} {v : Value} {ts : List Tw} (h : TwIn w v ts) (hl : ts.length ≤ 1000000000) :
    Calls Try.prog 23 #[v] w fun e w' => ∃ v', e = .returned v' ∧ TwsAt w' w.heap.size v' ts ∧ Below w.heap.size w w' := by
  have hT := Lib.hid h
  have q := fun (w : World) (a : Option Addr) (n c n' c' : Nat) => Lib.run_eql_slice_nil (P := Try.prog) w 23 _ a n c n' c' Try.underlying23
  obtain ⟨a, cap, rfl, hlc, hcm, h3⟩ := h
  have ha : Below w.heap.size w (w.alloc (.cells #[] 32)) := (Below.refl _ w).alloc (Nat.le_refl _) _
  have hm := Lib.hid (hT.out.below ha)
  replace ha := Lib.hid ha
  rcases a with _ | ad
  · have h0 : ts = [] := List.eq_nil_of_length_eq_zero (by
      rcases Nat.eq_zero_or_pos ts.length with c | c
      · exact c
      · obtain ⟨_, _, e, _⟩ := h3 c
        cases e)
    subst h0
    clear h3 hT hm
    go_enter Try.func23, Try.ntmps23
    go_wp2_with fail
    go_ret
    exact ⟨_, rfl, ⟨rfl, .inl ⟨rfl, rfl⟩⟩, Below.refl _ _⟩
  · clear h3
    go_enter Try.func23, Try.ntmps23
    go_wp2_with (at_builtin; (refine wpList_append_tws (base := w.heap.size) (v := _) (ts := []) (us := ts) rfl _ _ rfl rfl (tws_new w _ rfl) rfl hm.out (by simp) hl (by simp) ?_; intro a1 c1 w1 hB1 hO))
    go_ret
    exact ⟨_, rfl, by simpa using hB1, ha.out.trans hO⟩
end Go.Proofs.Ythgkkdhalcpgbaa
