/- A heap that nobody made: its calls' contracts. -/
import Derived.Test.YtabcifaknckomaaHPush
namespace Go.Proofs.Ytabcifaknckomaa.HI
open Go.RowKit

/-- A heap that is nil, or that nobody made. -/
def Dead (w : World) (v : Value) : Prop := v = .pointer none ∨ ∃ b, v = .pointer (some ⟨b, 0, none⟩) ∧ w.cell? ⟨b, 1, none⟩ = some (.map none)
theorem Dead.below {w w' : World} {v : Value} (h : Dead w v) (hb : Below w.heap.size w w') : Dead w' v := by
  rcases h with e | ⟨b, e, hc⟩
  · exact .inl e
  · exact .inr ⟨b, e, Below.keeps hb hc⟩

theorem made_dead {w : World} {v : Value} (h : Dead w v) : Calls Try.prog 29 #[v] w fun e w' => e = .returned (.bool false) ∧ w = w' := by
  rcases h with rfl | ⟨b, rfl, hc⟩
  · exact made_nil w
  · exact made_zero hc

set_option maxHeartbeats 400000 in
theorem push_dead {w : World} {x : Value} (h : Dead w x) (key v : Int) :
    Calls Try.prog 9 #[x, .int .i64 key, .int .i64 v] w fun e w' => e = .returned (.int .i64 (-1)) ∧ w = w' := by
  have M := Lib.hid (made_dead h)
  clear h
  go_enter Try.func9, Try.ntmps9
  go_wp2_with (go_at_call 29; refine M.out.mono ?_; rintro e w' ⟨rfl, rfl⟩)
  go_ret
  exact ⟨rfl, rfl⟩
set_option maxHeartbeats 400000 in
theorem len_dead {w : World} {x : Value} (h : Dead w x) :
    Calls Try.prog 21 #[x] w fun e w' => e = .returned (.int .i64 0) ∧ w = w' := by
  have M := Lib.hid (made_dead h)
  clear h
  go_enter Try.func21, Try.ntmps21
  go_wp2_with (go_at_call 29; refine M.out.mono ?_; rintro e w' ⟨rfl, rfl⟩)
  go_ret
  exact ⟨rfl, rfl⟩
set_option maxHeartbeats 400000 in
theorem copy_dead {w : World} {x : Value} (h : Dead w x) :
    Calls Try.prog 17 #[x] w fun e w' => e = .returned (.pointer none) ∧ w = w' := by
  have M := Lib.hid (made_dead h)
  clear h
  go_enter Try.func17, Try.ntmps17
  go_wp2_with (go_at_call 29; refine M.out.mono ?_; rintro e w' ⟨rfl, rfl⟩)
  go_ret
  exact ⟨rfl, rfl⟩
set_option maxHeartbeats 400000 in
theorem order_dead {w : World} {x : Value} (h : Dead w x) :
    Calls Try.prog 40 #[x] w fun e w' => e = .returned (.slice none 0 0) ∧ w = w' := by
  have M := Lib.hid (made_dead h)
  clear h
  go_enter Try.func40, Try.ntmps40
  go_wp2_with (go_at_call 29; refine M.out.mono ?_; rintro e w' ⟨rfl, rfl⟩)
  go_ret
  exact ⟨rfl, rfl⟩
set_option maxHeartbeats 400000 in
theorem find_dead {w : World} {x : Value} (h : Dead w x) (n : Int) :
    Calls Try.prog 34 #[x, .int .i64 n] w fun e w' => e = .returned (.tuple #[.int .i64 0, .bool false]) ∧ w = w' := by
  have M := Lib.hid (made_dead h)
  clear h
  go_enter Try.func34, Try.ntmps34
  go_wp2_with (go_at_call 29; refine M.out.mono ?_; rintro e w' ⟨rfl, rfl⟩)
  go_ret2
  exact ⟨rfl, rfl⟩
set_option maxHeartbeats 400000 in
theorem peek_dead {w : World} {x : Value} (h : Dead w x) :
    Calls Try.prog 19 #[x] w fun e w' => e = .returned (.tuple #[.int .i64 0, .int .i64 0, .int .i64 0, .bool false]) ∧ w = w' := by
  have M := Lib.hid (len_dead h)
  clear h
  go_enter Try.func19, Try.ntmps19
  go_wp2_with (go_at_call 21; refine M.out.mono ?_; rintro e w' ⟨rfl, rfl⟩)
  refine bodyPost_ret (results_four rfl _ _ _) rfl ?_
  exact ⟨rfl, rfl⟩
set_option maxHeartbeats 400000 in
theorem pop_dead {w : World} {x : Value} (h : Dead w x) :
    Calls Try.prog 11 #[x] w fun e w' => e = .returned (.tuple #[.int .i64 0, .int .i64 0, .int .i64 0, .bool false]) ∧ w = w' := by
  have M := Lib.hid (peek_dead h)
  clear h
  go_enter Try.func11, Try.ntmps11
  go_wp2_with (go_at_call 19; refine M.out.mono ?_; rintro e w' ⟨rfl, rfl⟩)
  refine bodyPost_ret (results_four rfl _ _ _) rfl ?_
  exact ⟨rfl, rfl⟩
set_option maxHeartbeats 400000 in
theorem remove_dead {w : World} {x : Value} (h : Dead w x) (n : Int) :
    Calls Try.prog 13 #[x, .int .i64 n] w fun e w' => e = .returned (.tuple #[.int .i64 0, .bool false]) ∧ w = w' := by
  have M := Lib.hid (find_dead h n)
  clear h
  go_enter Try.func13, Try.ntmps13
  go_wp2_with (go_at_call 34; refine M.out.mono ?_; rintro e w' ⟨rfl, rfl⟩)
  go_ret2
  exact ⟨rfl, rfl⟩
set_option maxHeartbeats 400000 in
theorem change_dead {w : World} {x : Value} (h : Dead w x) (n key : Int) :
    Calls Try.prog 15 #[x, .int .i64 n, .int .i64 key] w fun e w' => e = .returned (.bool false) ∧ w = w' := by
  have M := Lib.hid (find_dead h n)
  clear h
  go_enter Try.func15, Try.ntmps15
  go_wp2_with (go_at_call 34; refine M.out.mono ?_; rintro e w' ⟨rfl, rfl⟩)
  go_ret
  exact ⟨rfl, rfl⟩
theorem info64 : (Try.prog.info? 2).map (fun i => (i.zero, i.size, i.bytes)) = some (some (.int .i64 0), 1, 8) := by kernel_rfl
theorem infoI : (Try.prog.info? 3).map (fun i => (i.zero, i.size, i.bytes)) = some (some (.int .i64 0), 1, 8) := by kernel_rfl
set_option maxHeartbeats 400000 in
theorem keys_dead {w : World} {x : Value} (h : Dead w x) :
    Calls Try.prog 22 #[x] w fun e w' => (∃ a c, e = .returned (.slice a 0 c)) ∧ Below w.heap.size w w' := by
  have M := Lib.hid (len_dead h)
  have O := fun w' (hb : Below w.heap.size w w') => order_dead (h.below hb)
  replace O := Lib.hid O
  obtain ⟨i0, hi, hz0, hz1, hz2⟩ := info_parts info64
  clear h
  go_enter Try.func22, Try.ntmps22
  go_wp2_with (first
    | (go_at_call 21; refine M.out.mono ?_; rintro e w' ⟨rfl, rfl⟩)
    | (at_make; refine wpList_make_own _ rfl _ _ 50 rfl 0 2 i0 (.int .i64 0) 1 Try.underlying50 hi hz0 hz1 .i64 .i64 0 0 rfl rfl rfl (by omega) (by decide) (Nat.zero_le _) ?_; intro w1 hown hgr; have hb : Below w.heap.size w w1 := (Below.refl _ _).grown hgr (Nat.le_refl _) (fun k hk => by cases hk))
    | (go_at_call 40; refine (O.out _ hb).mono ?_; rintro e w' ⟨rfl, rfl⟩))
  go_rounds 1
  go_ret
  exact ⟨⟨_, _, rfl⟩, hb⟩
set_option maxHeartbeats 400000 in
theorem all_dead {w : World} {x : Value} (h : Dead w x) :
    Calls Try.prog 23 #[x] w fun e w' => (∃ a c, e = .returned (.slice a 0 c)) ∧ Below w.heap.size w w' := by
  have M := Lib.hid (len_dead h)
  have O := fun w' (hb : Below w.heap.size w w') => order_dead (h.below hb)
  replace O := Lib.hid O
  obtain ⟨i0, hi, hz0, hz1, hz2⟩ := info_parts infoI
  clear h
  go_enter Try.func23, Try.ntmps23
  go_wp2_with (first
    | (go_at_call 21; refine M.out.mono ?_; rintro e w' ⟨rfl, rfl⟩)
    | (at_make; refine wpList_make_own _ rfl _ _ 52 rfl 0 3 i0 (.int .i64 0) 1 Try.underlying52 hi hz0 hz1 .i64 .i64 0 0 rfl rfl rfl (by omega) (by decide) (Nat.zero_le _) ?_; intro w1 hown hgr; have hb : Below w.heap.size w w1 := (Below.refl _ _).grown hgr (Nat.le_refl _) (fun k hk => by cases hk))
    | (go_at_call 40; refine (O.out _ hb).mono ?_; rintro e w' ⟨rfl, rfl⟩))
  go_rounds 1
  go_ret
  exact ⟨⟨_, _, rfl⟩, hb⟩
end Go.Proofs.Ytabcifaknckomaa.HI
