/- A part of the proof: IDep, JNum, JHCmp. No condition. -/
import Derived.LoopTactic
import Derived.IntWalk
import Derived.Deep.RegionLaw
import Derived.Laws.CopyOwn
import Derived.Laws.OwnMore
import Derived.Laws.Rows
import Derived.Handy
import Derived.WalkSpells
import Derived.WalkLawsBesides
import Derived.Lib.Hide
import Derived.Test.YtcabolfookofoaaGreatDoorRows
import Derived.WalkKit
import Derived.Deep.RegionHeld3
import Derived.Test.YtcabolfookofoaaGreatDoorQ01
import Derived.Test.YtcabolfookofoaaGreatDoorQ02
set_option linter.unusedVariables false
set_option linter.unusedSimpArgs false
namespace Go.Proofs.YtcabolfookofoaaGreatDoor
open Go.RowKit
def intVd (n : Int) : Value := .int .i64 n
theorem int_infoD : (Tryz.prog.info? 3).map (fun i => (i.zero, i.size, i.bytes)) = some (some (.int .i64 0), 1, 8) := by kernel_rfl
theorem int_partsD : ∃ i0, Tryz.prog.info? 3 = some i0 ∧ i0.zero = some (.int .i64 0) ∧ i0.size = 1 ∧ i0.bytes = 8 := by
 have h := int_infoD;cases hi : Tryz.prog.info? 3 with
 | none => rw [hi] at h; simp at h
 | some i0 =>
   rw [hi] at h;simp at h
   exact ⟨i0, rfl, h.1, h.2.1, h.2.2⟩
def DepAt (w : World) (g : Nat) (d : List Int) : Prop := w.heap[g]? = some (.cells (d.map intVd).toArray 3 (0, 0))
section
variable {w W : World} {g : Nat} {d : List Int}
theorem DepAt.lt (h : DepAt w g d) : g < w.heap.size := (Array.getElem?_eq_some_iff.1 h).1
theorem DepAt.cell (h : DepAt w g d) {i : Nat} (hi : i < d.length) : w.cell? ⟨g, i, none⟩ = some (.int .i64 (d.getD i (-1))) := by
 have h' : w.heap[g]? = _ := h;simp only [World.cell?, h'];simp [List.getD_eq_getElem?_getD, List.getElem?_eq_getElem hi, intVd]
theorem DepAt.fr (h : DepAt w g d) (j : Nat) : w.frozen? ⟨g, j, none⟩ = false := by
 have h' : w.heap[g]? = _ := h;simp [World.frozen?, h']
theorem DepAt.set (h : DepAt w g d) (i : Nat) (v : Int) : DepAt (w.setCell ⟨g, i, none⟩ (.int .i64 v)) g (d.set i v) := by
 have := heap_setCell_same w g i _ _ (.int .i64 v) h;unfold DepAt;rw [this, List.map_set];simp [intVd]
theorem DepAt.only {F : Nat → Prop} (h : DepAt w g d) (ho : Only F w W) (hF : ¬ F g) : DepAt W g d := (ho.block g h.lt hF).trans h
theorem DepAt.below (h : DepAt w g d) (hb : Below w.heap.size w W) : DepAt W g d := (hb.block g h.lt).trans h
end
theorem make_full (n : Nat) (hn : n ≤ 100000) (W : World) : (Instr.makeSlice 45 (.int .i64 (n : Int)) (.int .i64 (n : Int))).run Tryz.prog W = .ok (.slice (some ⟨W.heap.size, 0, none⟩) n n) (W.alloc (.cells (List.replicate n (intVd 0)).toArray 3)) := by
 obtain ⟨i0, hi, hz0, hz1, hz2⟩ := int_partsD;have h := run_makeSlice (P := Tryz.prog) W 45 3 i0 (.int .i64 0) Tryz.underlying45 hi hz0 .i64 .i64 (n : Int) (n : Int) (by omega) (by omega) (by rw [hz1]; simp; omega) (by rw [hz2]; omega) (by omega);have e : madeCells (Value.int .i64 0).cells (n * 1) = (List.replicate n (intVd 0)).toArray := by
   rw [Nat.mul_one];show madeCells #[Value.int .i64 0] n = _
   rw [← toList_madeCells_one, Array.toArray_toList];rfl
 rw [hz1, Int.toNat_natCast, e] at h;exact h
theorem mul_one_any (n : Nat) (hn : n ≤ 100000) (w : World) :
   Calls Tryz.prog 99 #[.int .u64 1, .int .u64 (n : Int)] w fun e w' => e = .returned (.tuple #[.int .u64 0, .int .u64 n]) ∧ w = w' :=
 (Tryz.bits_Mul 1 n (by decide) (by omega) w).mono fun e w' ⟨he, hw⟩ => by
   rw [Nat.one_mul, Nat.div_eq_of_lt (by omega), Nat.mod_eq_of_lt (by omega)] at he;exact ⟨he, hw.symm⟩
def part (x : Int) (n k : Nat) : List Value := List.replicate k (intVd x) ++ List.replicate (n - k) (intVd 0)
theorem part_len {x : Int} {n k : Nat} (h : k ≤ n) : (part x n k).length = n := by unfold part; simp; omega
theorem part_get {x : Int} {n k j : Nat} (h : j < k) : (part x n k)[j]? = some (intVd x) := by
 unfold part;rw [List.getElem?_append_left (by simpa using h), List.getElem?_replicate, if_pos h]
theorem part_splice {x : Int} {n k m : Nat} (_h : k + m ≤ n) : splice (part x n k) k (List.replicate m (intVd x)) = part x n (k + m) := by
 unfold splice part;rw [List.take_append_of_le_length (by simp), List.take_of_length_le (by simp), List.length_replicate, List.drop_append, List.drop_eq_nil_of_le (by simp), List.nil_append, ← List.append_assoc, List.replicate_append_replicate]
 congr 1
 simp
 omega
theorem part_full {x : Int} {n : Nat} : part x n n = (List.replicate n x).map intVd := by unfold part; simp
theorem size_int (W : World) : (sizeOf (Tryz.prog.elem 45)).run Tryz.prog W = .ok 1 W := by kernel_rfl
set_option maxRecDepth 20000 in
theorem slice_tail (g n k : Nat) (hk : k < n) (W : World) : (Instr.slice 45 (.slice (some ⟨g, 0, none⟩) n n) (some (.int .i64 (k : Int))) none none).run Tryz.prog W = .ok (.slice (some ⟨g, k, none⟩) (n - k) (n - k)) W := by
 rw [run_slice_l (P := Tryz.prog) (w := W) 45 (some ⟨g, 0, none⟩) n n Tryz.underlying45 .i64 k (by omega) (by omega), size_int];simp only [Result.andThen, sliced, Int.toNat_natCast];rw [if_neg (by omega)];simp [Addr.add]
 omega
set_option maxRecDepth 20000 in
theorem slice_head (g n k : Nat) (hk : k ≤ n) (W : World) : (Instr.slice 45 (.slice (some ⟨g, 0, none⟩) n n) none (some (.int .i64 (k : Int))) none).run Tryz.prog W = .ok (.slice (some ⟨g, 0, none⟩) k n) W := by
 rw [run_slice_h (P := Tryz.prog) (w := W) 45 (some ⟨g, 0, none⟩) n n Tryz.underlying45 .i64 k (by omega) (by omega), size_int];simp only [Result.andThen, sliced, Int.toNat_natCast, Nat.zero_mul, Nat.sub_zero]
 congr 2
 split
 · rfl
 · simp [Addr.add]
set_option maxRecDepth 20000 in
set_option maxHeartbeats 400000 in
theorem repeat_any (x : Int) (n : Nat) (hn0 : 0 < n) (hn : n ≤ 8192) (w : World) {gx : Nat} (hx : w.cell? ⟨gx, 0, none⟩ = some (.int .i64 x)) :
   Calls Tryz.prog 66 #[.slice (some ⟨gx, 0, none⟩) 1 1, .int .i64 n] w fun e w' => ∃ g, e = .returned (.slice (some ⟨g, 0, none⟩) n n) ∧ w.heap.size ≤ g ∧ DepAt w' g (List.replicate n x) ∧ Below w.heap.size w w' := by
 have hgx := World.block_lt_of_cell? w _ hx;have M := fun W => mul_one_any n (by omega) W
 have K := fun W => make_full n (by omega) W
 have h0 : ¬ ((n : Int) < 0) := by omega
 have h1 : (n : Int) ≤ 8192 := by omega
 have h2 : 0 < (n : Int) := by omega
 obtain ⟨Z, hZ⟩ : ∃ Z, Z = part x n 0 := ⟨_, rfl⟩;have eZ : List.replicate n (intVd 0) = Z := by rw [hZ]; simp [part]
 rw [eZ] at K;have hsz : (Tryz.prog.info? 3).map (·.size) = some 1 := by
   obtain ⟨i0, hi, _, hz1, _⟩ := int_partsD;rw [hi]; simp [hz1]
 have hZl : Z.length = n := by rw [hZ, part_len (by omega)]
 have hnew : (w.alloc (.cells Z.toArray 3)).heap[w.heap.size]? = some (.cells Z.toArray 3 (0, 0)) := heap_alloc_new w _;have hb0 : Below w.heap.size w (w.alloc (.cells Z.toArray 3)) := by go_grown
 have hsrc : ∀ (j : Nat) (v : Value), [intVd x][j]? = some v → (w.alloc (.cells Z.toArray 3)).cell? ((⟨gx, 0, none⟩ : Addr).add j) = some v := by
   intro j v hj
   match j, hj with
   | 0, hj =>
     simp at hj
     subst hj;exact (hb0.cell (p := ⟨gx, 0, none⟩) hgx).trans hx
 have hl1 : [intVd x].length = Nat.min 1 n := by simp [Nat.min_def]; omega
 have hfit : 0 + [intVd x].length ≤ Z.length := by simp; omega
 have hone : ∀ v ∈ [intVd x], v.oneCell' = true := by intro v hv; simp at hv; subst hv; rfl
 replace hZ := Lib.hid hZ;replace hl1 := Lib.hid hl1;replace hfit := Lib.hid hfit;replace hsrc := Lib.hid hsrc;replace hnew := Lib.hid hnew;replace hb0 := Lib.hid hb0;replace hZl := Lib.hid hZl;replace hone := Lib.hid hone;clear eZ;go_enter Tryz.func66, Tryz.ntmps66
 go_wp2_with first
   | (go_at_call 99; refine (M _).mono ?_; rintro e w1 ⟨rfl, rfl⟩)
   | (refine wpList_copy_splice rfl _ _ 45 45 rfl 3 Tryz.underlying45 hsz (some ⟨w.heap.size, 0, none⟩) (some ⟨gx, 0, none⟩) n n 1 1 rfl rfl w.heap.size 0 Z 3 hnew.out [intVd x] hl1.out (fun _ => ⟨rfl, _, rfl, hsrc.out⟩) hfit.out hone.out w.heap.size w hb0.out (Nat.le_refl _) ?_; intro w2 HG2 HB2; replace HB2 := Lib.hid HB2)
 have e1 : splice Z 0 [intVd x] = part x n 1 := by
   rw [hZ.out];have := part_splice (x := x) (n := n) (k := 0) (m := 1) (by omega);rw [Nat.zero_add] at this;exact this
 rw [e1] at HG2;clear hnew hsrc hb0 hfit hone hl1 e1 K M;go_loopw [8] (fun t8 wr => ∃ k : Nat, 1 ≤ k ∧ k ≤ n ∧ t8 = .int .i64 k ∧ Hid (wr.heap[w.heap.size]? = some (.cells (part x n k).toArray 3 (0, 0))) ∧ Hid (Below w.heap.size w wr)) (fun t8 _ => n - (intOf t8).toNat)
 case atStart => exact ⟨1, by omega, by omega, rfl, HG2, HB2⟩
 case round =>
   obtain ⟨k, hk1, hkn, rfl, HG, HB⟩ := hrel;rcases Nat.lt_or_ge k n with hlt | hge
   · have hlti : (k : Int) < (n : Int) := by omega
     have hle : (k : Int) ≤ (n : Int) := by omega
     obtain ⟨m, hm⟩ := exHid (Nat.min k (n - k));have hm2 : m = min k (n - k) := hm.out.symm;have hm1 : k + m ≤ n ∧ 1 ≤ m ∧ m ≤ k := by rw [Nat.min_def] at hm2; split at hm2 <;> omega
     clear hm2;have hne : ¬ n = k := by omega
     have hkk : ((k : Int)).toNat = k := by omega
     obtain ⟨cs, hcs⟩ : ∃ cs, Hid (cs = List.replicate m (intVd x)) := ⟨_, rfl⟩;have c1 : Hid (cs.length = m) := Lib.hid (by rw [hcs.out, List.length_replicate]);have c2 : Hid (∀ (j : Nat) (v : Value), cs[j]? = some v → wr.drew.cell? ((⟨w.heap.size, 0, none⟩ : Addr).add j) = some v) := Lib.hid (by
       intro j v hj;rw [hcs.out, List.getElem?_replicate] at hj;split at hj
       · rename_i hjm
         cases hj
         have hjk : j < k := by omega
         rw [show (⟨w.heap.size, 0, none⟩ : Addr).add j = ⟨w.heap.size, j, none⟩ by simp [Addr.add]; omega];have := HG.out;show wr.cell? _ = _
         simp only [World.cell?, this]
         simpa using part_get hjk
       · cases hj)
     have c3 : Hid (k + cs.length ≤ (part x n k).length) := Lib.hid (by rw [c1.out, part_len (by omega)]; omega);have c4 : Hid (∀ v ∈ cs, v.oneCell' = true) := Lib.hid (by
       intro v hv;rw [hcs.out] at hv;rw [(List.mem_replicate.1 hv).2]; rfl)
     have c5 : Hid (splice (part x n k) k cs = part x n (k + m)) := Lib.hid (by rw [hcs.out]; exact part_splice hm1.1);have c6 : Hid (Below w.heap.size w wr.drew) := Lib.hid (HB.out.drew);clear hcs hkk;replace hm1 := Lib.hid hm1;replace hk1 := Lib.hid hk1;replace hkn := Lib.hid hkn;replace hlt := Lib.hid hlt;replace hx := Lib.hid hx;have hsz' := Lib.hid hsz;clear hsz;obtain ⟨u1, r1, hu1⟩ : ∃ u, (∀ W, (Instr.slice 45 (.slice (some ⟨w.heap.size, 0, none⟩) n n) (some (.int .i64 (k : Int))) none none).run Tryz.prog W = .ok u W) ∧ Hid (u = .slice (some ⟨w.heap.size, k, none⟩) (n - k) (n - k)) := ⟨_, fun W => slice_tail _ n k hlt.out W, Lib.hid rfl⟩;obtain ⟨u2, r2, hu2⟩ : ∃ u, (∀ W, (Instr.slice 45 (.slice (some ⟨w.heap.size, 0, none⟩) n n) none (some (.int .i64 (k : Int))) none).run Tryz.prog W = .ok u W) ∧ Hid (u = .slice (some ⟨w.heap.size, 0, none⟩) k n) := ⟨_, fun W => slice_head _ n k hkn.out W, Lib.hid rfl⟩;go_wp2
     go_region_law (refine step_copy_splice rfl (.tmp 41) (.tmp 44) 45 45 rfl 3 Tryz.underlying45 hsz'.out (some ⟨w.heap.size, k, none⟩) (some ⟨w.heap.size, 0, none⟩) (n - k) (n - k) k n (by go_simp; exact hu1.out) (by go_simp; exact hu2.out) w.heap.size k (part x n k) 3 HG.out cs (by rw [c1.out]; exact hm.out.symm) (fun _ => ⟨rfl, _, rfl, c2.out⟩) c3.out c4.out w.heap.size w c6.out (Nat.le_refl _) ?_; intro w3 HG3 HB3; replace HB3 := Lib.hid HB3)
     rw [c5.out] at HG3;have hm4 := hm1.out;have hlt' := hlt.out;have hsum2 : IntKind.i64.wrap ((k : Int) + (cs.length : Int)) = ((k + m : Nat) : Int) := by rw [IntKind.wrap_i64, c1.out]; omega
     have hsum3 : IntKind.i64.wrap ((k : Int) + (m : Int)) = ((k + m : Nat) : Int) := by rw [IntKind.wrap_i64]; omega
     go_simp
     go_roundw
     case rel => first
       | exact ⟨k + m, by omega, by omega, by go_num, HG3, HB3⟩
       | (refine ⟨_, _, _, _, _, _, _, _, _, _, _, _, _, _, ⟨k + m, by omega, by omega, rfl, HG3, HB3⟩, rfl⟩)
     case measure => simp [intOf]; omega
   · obtain rfl : k = n := by omega
     have hlti : ¬ ((k : Int) < (k : Int)) := by omega
     go_wp2
     go_ret
     exact ⟨_, rfl, Nat.le_refl _, by have := HG.out; rw [part_full] at this; exact this, HB.out⟩
end Go.Proofs.YtcabolfookofoaaGreatDoor
namespace Go.Proofs.YtcabolfookofoaaGreatDoor
open Go.RowKit
theorem wf_of_i64 {a : Int} (h : I64 a) : (Lit.int .i64 a).wf = true := by
 obtain ⟨h1, h2⟩ := h;simp [Lit.wf, IntKind.min, IntKind.max, IntKind.signed, IntKind.bits]
 omega
theorem cell_top {W : World} {c : Array Value} {t : TypeId} {n j : Nat} {v : Value} (h : n = W.heap.size) (hv : c[j]? = some v) : (W.alloc (.cells c t)).cell? ⟨n, j, none⟩ = some v := by
 subst h;rw [World.cell?_alloc_new];exact hv
theorem cell_top_drew {W : World} {c : Array Value} {t : TypeId} {n j : Nat} {v : Value} (h : n = W.heap.size) (hv : c[j]? = some v) : (W.alloc (.cells c t)).drew.cell? ⟨n, j, none⟩ = some v := cell_top h hv
def cmpI (a b : Int) : Int := if a < b then -1 else if b < a then 1 else 0
def orI (a b : Int) : Int := if a = 0 then b else a
def ordI (k1 n1 k2 n2 : Int) : Int := orI (cmpI k1 k2) (cmpI n1 n2)
def lexLt (k1 n1 k2 n2 : Int) : Prop := k1 < k2 ∨ (k1 = k2 ∧ n1 < n2)
theorem ordI_neg (k1 n1 k2 n2 : Int) : ordI k1 n1 k2 n2 < 0 ↔ lexLt k1 n1 k2 n2 := by
 unfold ordI orI cmpI lexLt
 (repeat' split) <;> constructor <;> intro h <;> omega
end Go.Proofs.YtcabolfookofoaaGreatDoor
namespace Go.Proofs.YtcabolfookofoaaGreatDoor
open Go.RowKit
set_option maxHeartbeats 400000 in
theorem nan64_any (a : Int) (w : World) :
   Calls Tryz.prog 170 #[.int .i64 a] w fun e w' => e = .returned (.bool false) ∧ w = w' := by
 go_enter Tryz.func170, Tryz.ntmps170
 go_wp2
 go_ret
 exact ⟨by simp, rfl⟩
set_option maxHeartbeats 400000 in
theorem nanI_any (a : Int) (w : World) :
   Calls Tryz.prog 171 #[.int .i64 a] w fun e w' => e = .returned (.bool false) ∧ w = w' := by
 go_enter Tryz.func171, Tryz.ntmps171
 go_wp2
 go_ret
 exact ⟨by simp, rfl⟩
set_option maxHeartbeats 400000 in
theorem cmp64_any (a b : Int) (w : World) :
   Calls Tryz.prog 168 #[.int .i64 a, .int .i64 b] w fun e w' => e = .returned (.int .i64 (cmpI a b)) ∧ w = w' := by
 go_enter Tryz.func168, Tryz.ntmps168
 go_wp2_with (first
   | ((with_reducible refine (nan64_any _ _).mono ?_); rintro e w' ⟨rfl, rfl⟩))
 all_goals
   go_ret
   refine ⟨ret_int ?_, rfl⟩;unfold cmpI
   (repeat' split) <;> first | rfl | omega
set_option maxHeartbeats 400000 in
theorem cmpInt_any (a b : Int) (w : World) :
   Calls Tryz.prog 169 #[.int .i64 a, .int .i64 b] w fun e w' => e = .returned (.int .i64 (cmpI a b)) ∧ w = w' := by
 go_enter Tryz.func169, Tryz.ntmps169
 go_wp2_with (first
   | ((with_reducible refine (nanI_any _ _).mono ?_); rintro e w' ⟨rfl, rfl⟩))
 all_goals
   go_ret
   refine ⟨ret_int ?_, rfl⟩;unfold cmpI
   (repeat' split) <;> first | rfl | omega
set_option maxHeartbeats 400000 in
theorem or2_any (g : Nat) (a b : Int) (w : World) (h0 : w.cell? ⟨g, 0, none⟩ = some (.int .i64 a)) (h1 : w.cell? ⟨g, 1, none⟩ = some (.int .i64 b)) :
   Calls Tryz.prog 167 #[.slice (some ⟨g, 0, none⟩) 2 2] w fun e w' => e = .returned (.int .i64 (orI a b)) ∧ w = w' := by
 by_cases ha : a = 0
 · subst ha
   by_cases hb : b = 0
   · subst hb
     go_enter Tryz.func167, Tryz.ntmps167
     go_wp2
     go_rounds 3
     go_ret
     exact ⟨rfl, rfl⟩
   · have xb : (b != 0) = true := by simp [hb]
     go_enter Tryz.func167, Tryz.ntmps167
     go_wp2
     go_rounds 2
     go_ret
     exact ⟨rfl, rfl⟩
 · have xa : (a != 0) = true := by simp [ha]
   have e : orI a b = a := by unfold orI; rw [if_neg ha]
   replace e := Lib.hid e;go_enter Tryz.func167, Tryz.ntmps167
   go_wp2
   go_rounds 1
   go_ret
   exact ⟨ret_int e.out.symm, rfl⟩
end Go.Proofs.YtcabolfookofoaaGreatDoor
