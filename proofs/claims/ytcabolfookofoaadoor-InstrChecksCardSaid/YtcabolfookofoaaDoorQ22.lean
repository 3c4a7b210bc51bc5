/- A part of the proof: ITak, IDFt. No condition. -/
import Derived.BigQuiet
import Derived.Deep.QuietTactic
import Derived.Deep.RegionHeld
import Derived.Deep.RegionHeld3
import Derived.Test.YtcabolfookofoaaDoorQ03
import Derived.Test.YtcabolfookofoaaDoorQ13
import Derived.Test.YtcabolfookofoaaDoorQ19
import Derived.Test.YtcabolfookofoaaDoorQ21
set_option linter.unusedVariables false
set_option linter.unusedSimpArgs false
namespace Go.Proofs.YtcabolfookofoaaDoor
open Go.RowKit
theorem run_row_field1 (op : Nat) (w : World) : (Instr.field 43 (rowV op) 1).run Tryd.prog w = .ok (.int .i64 (akI op)) w := by kernel_rfl
theorem run_row_field6 (op : Nat) (w : World) : (Instr.field 43 (rowV op) 6).run Tryd.prog w = .ok (.int .i64 (leaveR op)) w := by kernel_rfl
set_option maxRecDepth 20000 in
set_option maxHeartbeats 1000000 in
theorem Takes_any (x : Ins) (w : World) : Calls Tryd.prog 25 #[insV x] w fun e w' => e = .returned (.int .i64 (takesI x)) ∧ Below w.heap.size w w' := by
 obtain ⟨op, a, num, tx⟩ := x;have O := fun W => Of_any op W
 unfold rowV at O;obtain ⟨tk, hT⟩ := exHid (takesI ⟨op, a, num, tx⟩);rw [hT.out];have hT' := hT.out;unfold takesI at hT';dsimp only at hT';unfold insV;dsimp only;clear hT;generalize wordI op = wd at *;generalize (op == 23) = b1 at *;generalize (op == 24) = b2 at *;generalize nameI op = b3 at *;generalize leaveR op = lv at *;generalize takesR op = tr at *;by_cases hk : akI op = 3
 · rw [if_pos hk] at hT'
   have e1 : ((akI op : Int) == 3) = true := by rw [hk]; rfl
   generalize (akI op : Int) = k at *;replace hT' := Lib.hid hT';clear hk;go_enter Tryd.func25, Tryd.ntmps25
   go_wp2_with (go_at_call 14; refine (O _).mono ?_; rintro e w1 ⟨rfl, hb⟩; have hk : Below w.heap.size w w1 := below_next (by go_grown) hb; have hz := hk.size; have k1 := fun o2 => Go.Proofs.YtcabolfookofoaaDoor.cell_kept hb o2 1; replace hb := Lib.hid hb; simp at k1)
   go_ret
   exact ⟨ret_int hT'.out, by go_grown⟩
 · rw [if_neg hk] at hT'
   have e1 : ((akI op : Int) == 3) = false := beq_eq_false_iff_ne.2 (by omega);generalize (akI op : Int) = k at *;replace hT' := Lib.hid hT';clear hk;go_enter Tryd.func25, Tryd.ntmps25
   go_wp2_with (go_at_call 14; refine (O _).mono ?_; rintro e w1 ⟨rfl, hb⟩; have hk : Below w.heap.size w w1 := below_next (by go_grown) hb; have hz := hk.size; have k1 := fun o2 => Go.Proofs.YtcabolfookofoaaDoor.cell_kept hb o2 1; replace hb := Lib.hid hb; simp at k1)
   go_ret
   exact ⟨ret_int hT'.out, by go_grown⟩
set_option maxRecDepth 20000 in
theorem Ends_any (op : Nat) (w : World) : Calls Tryd.prog 24 #[.int .u8 op] w fun e w' => e = .returned (.bool (endsI op)) ∧ w = w' := by
 have e1 : endsI op = (((op : Int) == 8) || ((op : Int) == 9) || ((op : Int) == 28)) := by
   unfold endsI;rw [Bool.eq_iff_iff];simp only [Bool.or_eq_true, beq_iff_eq];omega
 rcases h1 : ((op : Int) == 8) with _ | _ <;> rcases h2 : ((op : Int) == 9) with _ | _ <;> rcases h3 : ((op : Int) == 28) with _ | _
 all_goals
   rw [h1, h2, h3] at e1;rw [e1];clear e1;go_enter Tryd.func24, Tryd.ntmps24
   go_wp2
   go_ret
   exact ⟨rfl, rfl⟩
theorem tup2B {a b c d : Int} (h1 : a = c) (h2 : b = d) : Ending.returned (.tuple #[.int .i64 a, .int .i64 b]) = .returned (.tuple #[.int .i64 c, .int .i64 d]) := by rw [h1, h2]
set_option maxRecDepth 20000 in
set_option maxHeartbeats 1000000 in
theorem Behind_any (x : Ins) (d : Int) (h0 : 0 ≤ takesI x) (h1 : takesI x ≤ 2048) (hd0 : 0 ≤ d) (hd1 : d ≤ 100000) (w : World) : Calls Tryd.prog 26 #[insV x, .int .i64 d] w fun e w' => e = .returned (.tuple #[.int .i64 (thereI x d), .int .i64 (nextI x d)]) ∧ Below w.heap.size w w' := by
 have TK := fun W => Takes_any x W
 have hlv := leaveR_le x.op;have hN : nextI x d = d - takesI x + leaveR x.op := rfl;obtain ⟨op, a, num, tx⟩ := x;dsimp only at *;have O := fun W => Of_any op W
 have rf := fun W => run_row_field6 op W
 obtain ⟨th, hTh⟩ := exHid (thereI ⟨op, a, num, tx⟩ d);rw [hTh.out];have hTh' := hTh.out;unfold thereI at hTh';dsimp only at hTh';clear hTh;generalize rowV op = rv at *;generalize takesI ⟨op, a, num, tx⟩ = tk at *;obtain ⟨nx, hnx⟩ : ∃ y, nextI ⟨op, a, num, tx⟩ d = y := ⟨_, rfl⟩;rw [hnx] at hTh' hN ⊢;obtain ⟨lv, hlve⟩ : ∃ y, ((leaveR op : Nat) : Int) = y := ⟨_, rfl⟩;have hl0 : 0 ≤ lv := by omega
 have hl1 : lv ≤ 1 := by omega
 rw [hlve] at hN rf;replace hnx := Lib.hid hnx;replace hlve := Lib.hid hlve;replace hN := Lib.hid hN;unfold insV at *;dsimp only at *;clear hlv;obtain ⟨wa, hwa⟩ : ∃ y, w.alloc (.cells #[.int .u8 op, .int .i64 a, .int .i64 num, .string ⟨tx.toArray⟩] 41) = y := ⟨_, rfl⟩;have hA : Below w.heap.size w wa.drew := by rw [← hwa]; exact (show Below w.heap.size w (w.alloc (.cells #[.int .u8 op, .int .i64 a, .int .i64 num, .string ⟨tx.toArray⟩] 41)) by go_grown).drew
 have y0 : wa.drew.cell? ⟨w.heap.size, 0, none⟩ = some (.int .u8 op) := by rw [← hwa]; exact World.cell?_alloc_new ..
 have y1 : wa.drew.cell? ⟨w.heap.size, 1, none⟩ = some (.int .i64 a) := by rw [← hwa]; exact World.cell?_alloc_new ..
 have y2 : wa.drew.cell? ⟨w.heap.size, 2, none⟩ = some (.int .i64 num) := by rw [← hwa]; exact World.cell?_alloc_new ..
 have y3 : wa.drew.cell? ⟨w.heap.size, 3, none⟩ = some (.string ⟨tx.toArray⟩) := by rw [← hwa]; exact World.cell?_alloc_new ..
 rcases t53 : ((op : Int) == 53) with _ | _ <;> rcases t3 : ((op : Int) == 3) with _ | _ <;> rcases t4 : ((op : Int) == 4) with _ | _
 all_goals
   simp only [show op = 53 ↔ ((op : Int) == 53) = true by rw [beq_iff_eq]; omega, show op = 3 ↔ ((op : Int) == 3) = true by rw [beq_iff_eq]; omega, show op = 4 ↔ ((op : Int) == 4) = true by rw [beq_iff_eq]; omega, t53, t3, t4] at hTh';replace hTh' := Lib.hid hTh';go_enter Tryd.func26, Tryd.ntmps26
   go_wp2
   go_region_held3 (fun w' => Below w.heap.size w w' ∧ w'.cell? ⟨w.heap.size, 0, none⟩ = some (.int .u8 op) ∧ w'.cell? ⟨w.heap.size, 1, none⟩ = some (.int .i64 a) ∧ w'.cell? ⟨w.heap.size, 2, none⟩ = some (.int .i64 num) ∧ w'.cell? ⟨w.heap.size, 3, none⟩ = some (.string ⟨tx.toArray⟩))
     (first
       | exact ⟨hA, y0, y1, y2, y3⟩
       | exact hold)
     (first
       | (go_at_call 25; refine (TK _).mono ?_; rintro e w' ⟨rfl, hb⟩; have hold : Below w.heap.size w w' ∧ w'.cell? ⟨w.heap.size, 0, none⟩ = some (.int .u8 op) ∧ w'.cell? ⟨w.heap.size, 1, none⟩ = some (.int .i64 a) ∧ w'.cell? ⟨w.heap.size, 2, none⟩ = some (.int .i64 num) ∧ w'.cell? ⟨w.heap.size, 3, none⟩ = some (.string ⟨tx.toArray⟩) := (by first | exact ⟨below_next hold.1 hb, Below.keeps hb hold.2.1, Below.keeps hb hold.2.2.1, Below.keeps hb hold.2.2.2.1, Below.keeps hb hold.2.2.2.2⟩ | exact ⟨below_next hA hb, Below.keeps hb y0, Below.keeps hb y1, Below.keeps hb y2, Below.keeps hb y3⟩))
       | (go_at_call 14; refine (O _).mono ?_; rintro e w' ⟨rfl, hb⟩; have hold : Below w.heap.size w w' ∧ w'.cell? ⟨w.heap.size, 0, none⟩ = some (.int .u8 op) ∧ w'.cell? ⟨w.heap.size, 1, none⟩ = some (.int .i64 a) ∧ w'.cell? ⟨w.heap.size, 2, none⟩ = some (.int .i64 num) ∧ w'.cell? ⟨w.heap.size, 3, none⟩ = some (.string ⟨tx.toArray⟩) := (by first | exact ⟨below_next hold.1 hb, Below.keeps hb hold.2.1, Below.keeps hb hold.2.2.1, Below.keeps hb hold.2.2.2.1, Below.keeps hb hold.2.2.2.2⟩ | exact ⟨below_next hA hb, Below.keeps hb y0, Below.keeps hb y1, Below.keeps hb y2, Below.keeps hb y3⟩)))
   go_wp2
   refine bodyPost_ret (results_tmp2 rfl _ _ _) rfl ?_;have hwr : IntKind.i64.wrap (IntKind.i64.wrap (d - tk) + lv) = nx := by rw [hN.out]; simp only [IntKind.wrap_i64]; omega
   exact ⟨tup2B (by rw [← hTh'.out]; simp [hwr]) hwr, hold.1⟩
end Go.Proofs.YtcabolfookofoaaDoor
namespace Go.Proofs.YtcabolfookofoaaDoor
open Go.RowKit
theorem bool_info : (Tryd.prog.info? 4).map (fun i => (i.zero, i.size, i.bytes)) = some (some (.bool false), 1, 1) := by kernel_rfl
def BolAt (w : World) (g : Nat) (bs : List Bool) : Prop := w.heap[g]? = some (.cells (bs.map Value.bool).toArray 4 (0, 0))
section
variable {w W : World} {g : Nat} {bs : List Bool}
theorem BolAt.lt (h : BolAt w g bs) : g < w.heap.size := (Array.getElem?_eq_some_iff.1 h).1
theorem BolAt.cell (h : BolAt w g bs) {i : Nat} (hi : i < bs.length) : w.cell? ⟨g, i, none⟩ = some (.bool (bs.getD i false)) := by
 have h' : w.heap[g]? = _ := h;simp only [World.cell?, h'];simp [List.getD_eq_getElem?_getD, List.getElem?_eq_getElem hi]
theorem BolAt.fr (h : BolAt w g bs) (j : Nat) : w.frozen? ⟨g, j, none⟩ = false := by
 have h' : w.heap[g]? = _ := h;simp [World.frozen?, h']
theorem BolAt.set (h : BolAt w g bs) (i : Nat) (v : Bool) : BolAt (w.setCell ⟨g, i, none⟩ (.bool v)) g (bs.set i v) := by
 have := heap_setCell_same w g i _ _ (.bool v) h;unfold BolAt;rw [this, List.map_set];simp
theorem BolAt.below (h : BolAt w g bs) (hb : Below w.heap.size w W) : BolAt W g bs := (hb.block g h.lt).trans h
theorem DepAt.other {d : List Int} {k : Nat} (h : DepAt w k d) (p : Addr) (v : Value) (hne : k ≠ p.block) : DepAt (w.setCell p v) k d := (heap_setCell_other w p k v hne).trans h
theorem BolAt.other (h : BolAt w g bs) (p : Addr) (v : Value) (hne : g ≠ p.block) : BolAt (w.setCell p v) g bs := (heap_setCell_other w p g v hne).trans h
end
theorem make_bools (n : Nat) (hn : n ≤ 100000) (W : World) : (Instr.makeSlice 58 (.int .i64 (n : Int)) (.int .i64 (n : Int))).run Tryd.prog W = .ok (.slice (some ⟨W.heap.size, 0, none⟩) n n) (W.alloc (.cells ((List.replicate n false).map Value.bool).toArray 4)) := by
 have h := bool_info;cases hi : Tryd.prog.info? 4 with
 | none => rw [hi] at h; simp at h
 | some i0 =>
   rw [hi] at h;simp at h
   obtain ⟨hz0, hz1, hz2⟩ := h;have h := run_makeSlice (P := Tryd.prog) W 58 4 i0 (.bool false) Tryd.underlying58 hi hz0 .i64 .i64 (n : Int) (n : Int) (by omega) (by omega) (by rw [hz1]; simp; omega) (by rw [hz2]; omega) (by omega);have e : madeCells (Value.bool false).cells (n * 1) = ((List.replicate n false).map Value.bool).toArray := by
     rw [Nat.mul_one];show madeCells #[Value.bool false] n = _
     rw [List.map_replicate, ← toList_madeCells_one, Array.toArray_toList]
   rw [hz1, Int.toNat_natCast, e] at h;exact h
def fillD (n i : Nat) : List Int := List.replicate i (-1) ++ List.replicate (n - i) 0
theorem fillD_zero (n : Nat) : (fillD n 0).map intVd = List.replicate n (intVd 0) := by unfold fillD; simp
theorem fillD_len {n i : Nat} (h : i ≤ n) : (fillD n i).length = n := by unfold fillD; simp; omega
theorem fillD_set {n i : Nat} (h : i < n) : (fillD n i).set i (-1) = fillD n (i + 1) := by
 unfold fillD
 apply List.ext_getElem?
 intro q;rw [List.getElem?_set];simp only [List.length_append, List.length_replicate, List.getElem?_append, List.getElem?_replicate]
 (repeat' split) <;> first | rfl | omega | (simp; omega)
theorem fillD_full (n : Nat) : fillD n n = List.replicate n (-1) := by unfold fillD; simp
def goneL (bs : List Bool) : Nat → Bool := fun q => bs.getD q false
theorem goneL_set {bs : List Bool} {p : Nat} (hp : p < bs.length) : goneL (bs.set p true) = goneI (goneL bs) p := by
 funext q
 show (bs.set p true).getD q false = (decide (q = p) || bs.getD q false)
 rw [List.getD_eq_getElem?_getD, List.getD_eq_getElem?_getD, List.getElem?_set];by_cases e : p = q
 · subst e; rw [if_pos rfl, if_pos hp, decide_eq_true rfl]; rfl
 · rw [if_neg e, decide_eq_false (fun h => e h.symm)]; rfl
theorem goneL_none (n : Nat) : goneL (List.replicate n false) = fun _ => false := by
 funext q
 show (List.replicate n false).getD q false = false
 rw [List.getD_eq_getElem?_getD, List.getElem?_replicate];split <;> rfl
def NoneI (d : List Int) (g : Nat → Bool) (p : Nat) : Prop := ∀ q, q < p → d.getD q (-1) = -1 ∨ g q = true
theorem NoneI.least {d : List Int} {g : Nat → Bool} {p : Nat} (h : NoneI d g p) (hp : p < d.length) (hm : d.getD p (-1) ≠ -1) (hg : g p = false) : leastI d g = some p := leastI_some.2 ⟨hp, hm, hg, h⟩
theorem NoneI.all {d : List Int} {g : Nat → Bool} (h : NoneI d g d.length) : leastI d g = none := leastI_none.2 h
theorem NoneI.on {d : List Int} {g : Nat → Bool} {p : Nat} (h : NoneI d g p) (hp : d.getD p (-1) = -1 ∨ g p = true) : NoneI d g (p + 1) := fun q hq => by
 by_cases e : q = p
 · rw [e]; exact hp
 · exact h q (by omega)
theorem NoneI.less {d : List Int} {g : Nat → Bool} {p r : Nat} (h : NoneI d g p) (hr : r ≤ p) : NoneI d g r := fun q hq => h q (by omega)
theorem NoneI.gone {d : List Int} {g : Nat → Bool} {p r : Nat} (h : NoneI d g p) : NoneI d (goneI g r) p := fun q hq => by
 rcases h q hq with e | e
 · exact .inl e
 · right; unfold goneI; rw [e, Bool.or_true]
theorem NoneI.set {d : List Int} {g : Nat → Bool} {p r : Nat} {v : Int} (h : NoneI d g p) (hr : p ≤ r) (hl : r < d.length) : NoneI (d.set r v) g p := fun q hq => by
 rw [getD_set _ _ _ _ hl, if_neg (by omega)];exact h q hq
theorem fitI_succ (code : List Ins) (f : Nat) (d : List Int) (g : Nat → Bool) : fitI code (f + 1) d g = (match leastI d g with | none => (d, none) | some p => match stepI code d p with | none => (d, some p) | some d' => fitI code f d' (goneI g p)) := rfl
end Go.Proofs.YtcabolfookofoaaDoor
