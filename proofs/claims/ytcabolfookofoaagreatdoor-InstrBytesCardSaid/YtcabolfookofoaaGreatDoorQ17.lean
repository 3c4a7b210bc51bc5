/- A part of the proof: UMay, URef5. No condition. -/
import Derived.Test.YtcabolfookofoaaGreatDoorQ03
import Derived.Test.YtcabolfookofoaaGreatDoorQ09
import Derived.Test.YtcabolfookofoaaGreatDoorQ16
set_option linter.unusedVariables false
set_option linter.unusedSimpArgs false
namespace Go.Proofs.YtcabolfookofoaaGreatDoor
open Go.RowKit
def mayE (code : List Ins) : Nat := if 8192 < code.length then 2 else if (badI code).isNone then 0 else 3
theorem mayE_ok {code : List Ins} (h : mayE code = 0) : code.length ≤ 8192 ∧ ∀ x ∈ code, rightI x code.length = true := by
 unfold mayE at h;split at h
 · cases h
 · split at h
   · rename_i h1 h2
     refine ⟨by omega, fun x hx => ?_⟩;have h3 : badI code = none := by simpa using h2
     unfold badI at h3;rw [List.findIdx?_eq_none_iff] at h3
     simpa using h3 x hx
   · cases h
set_option maxRecDepth 20000 in
set_option maxHeartbeats 1000000 in
theorem writable_any {code : List Ins} {v : Value} {w : World} (h : InsIn w v code) (hx : ∀ x ∈ code, FitIns x) (hW : WordsOK w) :
   Calls Tryz.prog 27 #[v] w fun e w' => e = .returned (.int .i64 (mayE code : Nat)) ∧ Below w.heap.size w w' := by
 have AR := allRight_any h hx hW;obtain ⟨ad, cap, hv, _⟩ := id h;subst hv;obtain ⟨R, hR⟩ := exHid (mayE code);rw [hR.out];have hR' := hR.out;unfold mayE at hR';clear hx hW h;obtain ⟨n, hN⟩ := exHid code.length;rw [hN.out] at AR hR' ⊢;by_cases c1 : 8192 < n
 · rw [if_pos c1] at hR'
   have c2 : (8192 : Int) < (n : Int) := by omega
   replace hR' := Lib.hid hR';clear AR;go_enter Tryz.func27, Tryz.ntmps27
   go_wp2
   go_ret
   exact ⟨by rw [← hR'.out]; rfl, Below.refl _ _⟩
 · rw [if_neg c1] at hR'
   have c2 : ¬ (8192 : Int) < (n : Int) := by omega
   cases hb : (badI code).isNone with
   | true =>
     rw [hb] at AR hR';replace hR' := Lib.hid hR';go_enter Tryz.func27, Tryz.ntmps27
     go_wp2_with (go_at_call 39; refine AR.mono ?_; rintro e w1 ⟨rfl, hb1⟩)
     go_ret
     exact ⟨by rw [← hR'.out]; rfl, hb1⟩
   | false =>
     rw [hb] at AR hR';replace hR' := Lib.hid hR';go_enter Tryz.func27, Tryz.ntmps27
     go_wp2_with (go_at_call 39; refine AR.mono ?_; rintro e w1 ⟨rfl, hb1⟩)
     go_ret
     exact ⟨by rw [← hR'.out]; rfl, hb1⟩
set_option maxRecDepth 20000 in
set_option maxHeartbeats 1000000 in
theorem refMay_any {code : List Ins} {v : Value} {w : World} (h : InsIn w v code) (hx : ∀ x ∈ code, FitIns x) :
   Calls Tryz.prog 29 #[v] w fun e w' => e = .returned (.int .i64 (mayE code : Nat)) ∧ Below w.heap.size w w' := by
 obtain ⟨ad, cap, hv, hlc, hcm, hbig⟩ := id h;clear hbig;subst hv;obtain ⟨R, hR⟩ := exHid (mayE code);rw [hR.out];have hR' := hR.out;unfold mayE at hR';have hI0 := Lib.hid h;obtain ⟨n, hN⟩ := exHid code.length;rw [hN.out] at hR' ⊢;have hI : Hid (InsIn w (.slice ad n cap) code) := Lib.hid (by rw [← hN.out]; exact h);clear h hlc hcm hI0;by_cases c1 : 8192 < n
 · rw [if_pos c1] at hR'
   have c2 : (8192 : Int) < (n : Int) := by omega
   replace hR' := Lib.hid hR';go_enter Tryz.func29, Tryz.ntmps29
   go_wp2
   go_ret
   exact ⟨by rw [← hR'.out]; rfl, Below.refl _ _⟩
 · rw [if_neg c1] at hR'
   have c2 : ¬ (8192 : Int) < (n : Int) := by omega
   have RG := Lib.hid (fun (x : Ins) (hxx : x ∈ code) (W : World) => refRight_any x (hx x hxx) (n : Int) W);clear hx;replace hR' := Lib.hid hR';go_enter Tryz.func29, Tryz.ntmps29
   go_wp2
   go_loopw [3] (fun t3 wr => ∃ i : Nat, i ≤ n ∧ t3 = .int .i64 i ∧ Hid (∀ j, j < i → rightI (inAt code j) code.length = true) ∧ Hid (Below w.heap.size w wr)) (fun t3 _ => n - (intOf t3).toNat)
   case atStart => exact ⟨0, by omega, rfl, Lib.hid (fun j hj => by omega), Lib.hid (Below.refl _ _)⟩
   case round =>
     obtain ⟨i, hi, rfl, hall, hb⟩ := hrel;rcases Nat.lt_or_ge i n with hlt | hge
     · have hlti : (i : Int) < (n : Int) := by omega
       have hil : i < code.length := by rw [hN.out]; exact hlt
       have hmem : inAt code i ∈ code := by rw [inAt_get hil]; exact List.getElem_mem hil
       have RC := RG.out _ hmem;obtain ⟨B, hB⟩ := exHid (rightI (inAt code i) n);rw [hB.out] at RC;have hB2 : Hid (rightI (inAt code i) code.length = B) := Lib.hid (by rw [hN.out]; exact hB.out);rcases hxi : inAt code i with ⟨op, a, num, tx⟩
       rw [hxi] at RC;obtain ⟨g, off, cap0, ecv, hg, z0, z1, z2, z3⟩ := hI.out.cells hb.out (i := i) hil hxi;injection ecv with ec1 ec2 ec3;subst ec1 ec3;clear ec2 hB hmem;replace hxi := Lib.hid hxi;unfold insV at RC;dsimp only at RC;replace RC := Lib.hid RC;cases B with
       | true =>
         go_wp2_with (go_at_call 52; refine (RC.out _).mono ?_; rintro e w1 ⟨rfl, hb1⟩; have hk := Lib.hid (below_next hb.out hb1); clear hb1)
         go_roundw
         case rel => exact ⟨i + 1, by omega, by go_num, Lib.hid (fun j hj => by
           by_cases e : j = i
           · rw [e]; exact hB2.out
           · exact hall.out j (by omega)), hk⟩
         case measure => simp [intOf]; omega
       | false =>
         go_wp2_with (go_at_call 52; refine (RC.out _).mono ?_; rintro e w1 ⟨rfl, hb1⟩; have hk := Lib.hid (below_next hb.out hb1); clear hb1)
         go_ret
         refine ⟨?_, hk.out⟩;rw [← hR'.out, badI_some hil hB2.out hall.out];rfl
     · obtain rfl : i = n := by omega
       have hlti : ¬ ((i : Int) < (i : Int)) := by omega
       go_wp2
       go_ret
       refine ⟨?_, hb.out⟩;rw [← hR'.out, badI_none (fun j hj => hall.out j (by rw [← hN.out]; exact hj))];rfl
end Go.Proofs.YtcabolfookofoaaGreatDoor
namespace Go.Proofs.YtcabolfookofoaaGreatDoor
open Go.RowKit
section
variable {w : World}
set_option maxRecDepth 100000 in
set_option maxHeartbeats 2000000 in
theorem wUint_any (n : Nat) (hn : n < 18446744073709551616) (w : World) : Calls Tryz.prog 30 #[.int .u64 n] w (Wrote (uintL n) w) := by
 obtain ⟨i0, hi, hz0, hz1, hz2⟩ := info8_parts;have h10 := uintL_len10 hn;go_enter Tryz.func30, Tryz.ntmps30
 go_wp2
 go_loopw [0, 3] (fun t0 t1 wr => ∃ (l' : List Nat) (m : Nat), Hid (l' ++ uintL m = uintL n) ∧ t0 = .int .u64 m ∧ m < 18446744073709551616 ∧ Buf8 wr w.heap.size t1 l' ∧ Below w.heap.size w wr) (fun t0 _ _ => (intOf t0).toNat)
 case atStart => exact ⟨[], n, Lib.hid rfl, rfl, hn, Buf8.nil _ _, Below.refl _ _⟩
 case round =>
   obtain ⟨l', m, hl, rfl, hm, hB, hO⟩ := hrel;have hbl : w.heap.size ≤ wr.heap.size := hO.size;have hll : l'.length ≤ 10 := by
     have h1 : (l' ++ uintL m).length = (uintL n).length := by rw [hl.out]
     rw [List.length_append] at h1;omega
   have hown := fun c : Int => World.ownsRow.alloc hB (.cells #[.int .u8 c] 5)
   replace hown := Lib.hid hown;have hO' := Lib.hid hO;by_cases h128 : m < 128
   · have hlt : ¬ (128 : Int) ≤ m := by omega
     have hc8 : IntKind.u8.wrap (m : Int) = ((m : Nat) : Int) := by rw [IntKind.wrap_u8']; omega
     have hS := Lib.hid (uintL_small h128);go_wp2_with (at_builtin; (refine wpList_append_own_at _ rfl _ _ 36 rfl w.heap.size 5 i0 (.int .u8 0) 1 1 Tryz.underlying36 hi hz0 hz1 hz2 rfl (by decide) _ l'.length (cellsN l') rfl (hown.out _) ⟨wr.heap.size, 0, none⟩ 1 1 [.int .u8 _] rfl rfl (cell_one_new _ _ _) one_byte (by unfold maxLen; omega) (by omega) (by simp; omega) ?_; intro v1 w1 hown1 hg1 _ hloc1))
     go_ret
     obtain ⟨q1, q2, q3⟩ := put_step (Only.refl _ _) (fun _ hk => .inl hk) hown1 (by first | rfl | exact hc8) hg1 hloc1;refine ⟨v1, rfl, ?_, hO'.out.trans (q2.below hbl (fun k hk hh => by have := row_base hB k hh; omega))⟩;rw [← hl.out, hS.out];exact q1
   · have hlt : (128 : Int) ≤ m := by omega
     have hS := Lib.hid (uintL_big h128);have hc8 : IntKind.u8.wrap (IntKind.u8.wrap ((m : Int) % 128) + 128) = ((m % 128 + 128 : Nat) : Int) := by rw [IntKind.wrap_u8', IntKind.wrap_u8']; omega
     have hc9 : IntKind.u8.wrap ((m : Int) % 128 + 128) = ((m % 128 + 128 : Nat) : Int) := by rw [IntKind.wrap_u8']; omega
     replace hc8 := Lib.hid hc8;replace hc9 := Lib.hid hc9;go_wp2_with (at_builtin; (refine wpList_append_own_at _ rfl _ _ 36 rfl w.heap.size 5 i0 (.int .u8 0) 1 1 Tryz.underlying36 hi hz0 hz1 hz2 rfl (by decide) _ l'.length (cellsN l') rfl (hown.out _) ⟨wr.heap.size, 0, none⟩ 1 1 [.int .u8 _] rfl rfl (cell_one_new _ _ _) one_byte (by unfold maxLen; omega) (by omega) (by simp; omega) ?_; intro v1 w1 hown1 hg1 _ hloc1))
     go_roundw
     case rel =>
       obtain ⟨q1, q2, q3⟩ := put_step (b := m % 128 + 128) (Only.refl _ _) (fun _ hk => .inl hk) hown1 (by first | exact hc8.out | exact hc9.out | (push_cast; omega)) hg1 hloc1;refine ⟨l' ++ [m % 128 + 128], m / 128, Lib.hid ?_, by go_num, by omega, q1, hO'.out.trans (q2.below hbl (fun k hk hh => by have := row_base hB k hh; omega))⟩;rw [← hl.out, hS.out, List.append_assoc];rfl
     case measure => simp [intOf]; omega
set_option maxRecDepth 20000 in
set_option maxHeartbeats 400000 in
theorem wInt_any {i : Int} (hi : I64 i) (w : World) : Calls Tryz.prog 31 #[.int .i64 i] w (Wrote (uintL (foldN i)) w) := by
 have hP := fun (k : Int) (hk : k = ((foldN i : Nat) : Int)) W => by
   have := wUint_any (foldN i) (foldN_lt hi.1 hi.2) W;rw [← hk] at this;exact this
 replace hP := Lib.hid hP;obtain ⟨h1, h2⟩ := hi;have hf : ((foldN i : Nat) : Int) = if i < 0 then -2 * i - 1 else 2 * i := by unfold foldN; split <;> omega
 by_cases h0 : 0 ≤ i
 · rw [if_neg (by omega)] at hf
   have e1 : IntKind.u64.wrap i = i := by rw [IntKind.wrap_u64]; omega
   have e2 : IntKind.u64.wrap (2 * i) = 2 * i := by rw [IntKind.wrap_u64]; omega
   replace hf := Lib.hid hf;go_enter Tryz.func31, Tryz.ntmps31
   go_wp2_with (go_at_call 30; refine (hP.out _ (by rw [hf.out]) _).mono ?_; rintro e w' ⟨v, rfl, hB, hb⟩)
   go_ret
   exact ⟨v, rfl, hB, hb⟩
 · have h0' : ¬ (0 ≤ i) := h0
   rw [if_pos (by omega)] at hf;have e1 : wrap64 (i + 1) = i + 1 := by simp only [wrap64]; omega
   have e2 : wrap64 (-(i + 1)) = -(i + 1) := by simp only [wrap64]; omega
   have e3 : IntKind.u64.wrap (-(i + 1)) = -(i + 1) := by rw [IntKind.wrap_u64]; omega
   have e4 : IntKind.u64.wrap (2 * -(i + 1)) = 2 * -(i + 1) := by rw [IntKind.wrap_u64]; omega
   have e5 : IntKind.u64.wrap (2 * -(i + 1) + 1) = 2 * -(i + 1) + 1 := by rw [IntKind.wrap_u64]; omega
   replace hf := Lib.hid hf;go_enter Tryz.func31, Tryz.ntmps31
   go_wp2_with (go_at_call 30; refine (hP.out _ (by rw [hf.out]; first | omega | (simp; omega)) _).mono ?_; rintro e w' ⟨v, rfl, hB, hb⟩)
   go_ret
   exact ⟨v, rfl, hB, hb⟩
set_option maxRecDepth 20000 in
set_option maxHeartbeats 1000000 in
theorem wText_any (s : ByteArray) (hs : s.size ≤ 1099511627776) (w : World) : Calls Tryz.prog 32 #[.string s] w (Wrote (uintL s.size ++ strN8 s) w) := by
 obtain ⟨i0, hi, hz0, hz1, hz2⟩ := info8_parts;have hP := wUint_any s.size (by omega) w;have h10 := uintL_len10 (n := s.size) (by omega);have hsn := Lib.hid (strN8_length s);have hcl := Lib.hid (strCells_eq s);go_enter Tryz.func32, Tryz.ntmps32
 go_wp2_with (first
   | ((with_reducible refine hP.mono ?_); rintro e w1 ⟨v1, rfl, hB1, hb1⟩)
   | (at_builtin; (refine Lib.wpList_append_own_string _ rfl _ _ 36 9 rfl w.heap.size 5 i0 Tryz.underlying36 Tryz.underlying9 hi hz0 hz1 hz2 v1 (uintL s.size).length (cellsN (uintL s.size)) rfl hB1 s rfl (by unfold maxLen; omega) (by omega) hb1.size ?_; intro v2 w2 hown2 hg2 _)))
 go_ret
 refine ⟨v2, rfl, ?_, hb1.grown hg2 hb1.size (fun k hk => row_base hB1 k hk)⟩;have e1 : (uintL s.size ++ strN8 s).length = (uintL s.size).length + s.size := by
   have := hsn.out;simp only [List.length_append];omega
 unfold Buf8;rw [e1, cellsN_append, ← hcl.out];exact hown2
end
end Go.Proofs.YtcabolfookofoaaGreatDoor
