/- The contracts of a heap's find, Peek, Pop, Remove, Change. -/
import Derived.Test.YtlhabgfgoainlaaDoorJHTake
namespace Go.Proofs.YtlhabgfgoainlaaDoor.HI
open Go.RowKit

theorem results_four {fn : Func} {t u v x : Tmp} (h : fn.results = #[.tmp t, .tmp u, .tmp v, .tmp x]) (tmps : Array Value) (P : Program) (w : World) :
    (results fn tmps).run P w = .ok (.tuple #[tmps.getD t undef, tmps.getD u undef, tmps.getD v undef, tmps.getD x undef]) w := by
  simp [results, h]

theorem below_drewN {B n : Nat} {a w : World} (h : Below B a w) : Below B a (w.drewN n) := ⟨h.os, h.tape, h.output, h.size, h.block⟩
theorem HeapAt.drewN {b bm p : Nat} {sv : Value} {d : List T} {w : World} (h : HeapAt w b bm sv d p) (n : Nat) : HeapAt (w.drewN n) b bm sv d p := ⟨h.st, h.row, h.map, h.num, h.len, h.lim⟩
theorem only_drewN {F : Nat → Prop} {w w' : World} {n : Nat} (h : Only F (w.drewN n) w') : Only F w w' := ⟨h.os, h.tape, h.output, h.size, h.block⟩
/-- Where a number stands. -/
def FindIs (d : List T) (x : Int) (i : Nat) (is : Bool) : Prop := if is then i < d.length ∧ (at_ d i).num = x else i = 0 ∧ ∀ j, j < d.length → (at_ d j).num ≠ x

set_option maxHeartbeats 400000 in
theorem peek_none {b bm p : Nat} {sv : Value} {d : List T} {w : World} (h : HeapAt w b bm sv d p) (h0 : d.length = 0) :
    Calls Tryd.prog 65 #[.pointer (some ⟨b, 0, none⟩)] w fun e w' => e = .returned (.tuple #[.int .i64 0, .int .i64 0, .int .i64 0, .bool false]) ∧ w = w' := by
  have L := len_any h
  rw [h0] at L
  replace L := Lib.hid L
  clear h h0
  go_enter Tryd.func65, Tryd.ntmps65
  go_wp2_with (go_at_call 82; refine L.out.mono ?_; rintro e w' ⟨rfl, rfl⟩)
  refine bodyPost_ret (results_four rfl _ _ _) rfl ?_
  exact ⟨rfl, rfl⟩

set_option maxHeartbeats 1000000 in
theorem peek_some {b bm p : Nat} {sv : Value} {d : List T} {w : World} (h : HeapAt w b bm sv d p) (h0 : 0 < d.length) :
    Calls Tryd.prog 65 #[.pointer (some ⟨b, 0, none⟩)] w fun e w' => e = .returned (.tuple #[.int .i64 (at_ d 0).key, .int .i64 (at_ d 0).v, .int .i64 (at_ d 0).num, .bool true]) ∧ Below w.heap.size w w' := by
  have L := len_any h
  obtain ⟨g, cap, rfl, _, hgl, hn, hcm, _⟩ := ownsRow_head h.row (by omega)
  have c0 := h.c0
  obtain ⟨a0, a1, a2⟩ := row_cells h.row rfl h0
  simp only [Nat.zero_mul, Nat.zero_add] at a0 a1 a2
  have hne : ((d.length : Int) == 0) = false := by rw [beq_eq_false_iff_ne]; omega
  generalize (at_ d 0).key = kk at a0 ⊢
  generalize (at_ d 0).num = ku at a1 ⊢
  generalize (at_ d 0).v = kv at a2 ⊢
  generalize d.length = n at *
  have hi1 : (0 : Int) < n := by omega
  replace L := Lib.hid L
  clear h
  go_enter Tryd.func65, Tryd.ntmps65
  go_wp2_with (go_at_call 82; refine L.out.mono ?_; rintro e w' ⟨rfl, rfl⟩)
  go_quiet (fail)
  go_wp2
  refine bodyPost_ret (results_four rfl _ _ _) rfl ?_
  exact ⟨rfl, below_drewN ((Below.refl _ _).alloc (Nat.le_refl _) _)⟩

set_option maxHeartbeats 400000 in
theorem pop_none {b bm p : Nat} {sv : Value} {d : List T} {w : World} (h : HeapAt w b bm sv d p) (h0 : d.length = 0) :
    Calls Tryd.prog 47 #[.pointer (some ⟨b, 0, none⟩)] w fun e w' => e = .returned (.tuple #[.int .i64 0, .int .i64 0, .int .i64 0, .bool false]) ∧ w = w' := by
  have L := Lib.hid (peek_none h h0)
  clear h h0
  go_enter Tryd.func47, Tryd.ntmps47
  go_wp2_with (go_at_call 65; refine L.out.mono ?_; rintro e w' ⟨rfl, rfl⟩)
  refine bodyPost_ret (results_four rfl _ _ _) rfl ?_
  exact ⟨rfl, rfl⟩

theorem foot_false {b bm : Nat} {sv : Value} : ∀ k, Foot b bm sv k → ¬ (fun _ : Nat => False) k := fun _ _ h => h

set_option maxHeartbeats 400000 in
theorem pop_some {b bm p : Nat} {sv : Value} {d : List T} {w : World} (h : HeapAt w b bm sv d p) (hH : Heapy T.key T.num d) (h0 : 0 < d.length) :
    Calls Tryd.prog 47 #[.pointer (some ⟨b, 0, none⟩)] w fun e w' => e = .returned (.tuple #[.int .i64 (at_ d 0).key, .int .i64 (at_ d 0).v, .int .i64 (at_ d 0).num, .bool true]) ∧ ∃ d' sv', HeapAt w' b bm sv' d' p ∧ (at_ d 0 :: d').Perm d ∧ Heapy T.key T.num d' ∧ sv'.ownBlock = sv.ownBlock ∧ Only (Foot b bm sv) w w' := by
  have L := Lib.hid (peek_some h h0)
  have K : ∀ w1, Below w.heap.size w w1 → HeapAt w1 b bm sv d p := fun w1 hb => h.kept (F := fun _ => False) (Only.of_below hb) foot_false
  replace K := Lib.hid K
  replace hH := Lib.hid hH
  clear h
  go_enter Tryd.func47, Tryd.ntmps47
  go_wp2_with (first
    | (go_at_call 65; refine L.out.mono ?_; rintro e w1 ⟨rfl, hb⟩)
    | (go_at_call 66; refine (take_any (K.out w1 hb) (s := 0) h0 hH.out).mono ?_; rintro e w2 ⟨rfl, d2, sv2, hH2, hp2, hD2, hs2, ho2⟩))
  refine bodyPost_ret (results_four rfl _ _ _) rfl ?_
  exact ⟨rfl, d2, sv2, hH2, hp2, hD2, hs2, (Only.of_below (F := Foot b bm sv) hb).then ho2⟩

end Go.Proofs.YtlhabgfgoainlaaDoor.HI
