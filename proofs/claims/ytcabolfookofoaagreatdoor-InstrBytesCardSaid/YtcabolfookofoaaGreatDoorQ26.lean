/- A part of the proof: UHv. No condition. -/
import Derived.Test.YtcabolfookofoaaGreatDoorQ25
set_option linter.unusedVariables false
set_option linter.unusedSimpArgs false
namespace Go.Proofs.YtcabolfookofoaaGreatDoor
open Go.RowKit
def longB (n : Nat) : Bool := decide (400 < n) && decide (n ≤ 8192)
set_option maxRecDepth 20000 in
theorem long_any (ad : Option Addr) (n cap : Nat) (hn : n ≤ 9223372036854775807) (w : World) : Calls Tryz.prog 12 #[.slice ad n cap] w fun e w' => e = .returned (.bool (longB n)) ∧ w' = w := by
 obtain ⟨B, hB⟩ := exHid (longB n);rw [hB.out];have hB' := hB.out;unfold longB at hB';by_cases h1 : 400 < n
 all_goals by_cases h2 : n ≤ 8192
 all_goals
   have e1 : (400 : Int) < (n : Int) ∨ ¬ (400 : Int) < (n : Int) := Decidable.em _;have e2 : (n : Int) ≤ 8192 ∨ ¬ (n : Int) ≤ 8192 := Decidable.em _;rcases e1 with e1 | e1 <;> rcases e2 with e2 | e2
   all_goals first
     | (exfalso; omega)
     | (replace hB' := Lib.hid hB'
        go_enter Tryz.func12, Tryz.ntmps12
        go_wp2
        go_ret
        refine ⟨ret_bool ?_, rfl⟩;rw [← hB'.out];simp [h1, h2])
def HeavyPost (code : List Ins) (w : World) (e : Ending) (w' : World) : Prop := ∃ B, e = .returned (.bool B) ∧ w' = w ∧ (B = false → ∀ j, j < code.length → j ≤ 8192 → (inAt code j).text.length ≤ 20000)
set_option maxRecDepth 20000 in
set_option maxHeartbeats 1000000 in
theorem heavy_any {code : List Ins} {v : Value} {w : World} (h : InsIn w v code) (hx : ∀ x ∈ code, FitIns x) (hn : code.length ≤ 9223372036854775807) :
   Calls Tryz.prog 13 #[v] w (HeavyPost code w) := by
 obtain ⟨ad, cap, hv, hlc, hcm, hbig⟩ := id h;clear hbig;subst hv;obtain ⟨n, hN⟩ := exHid code.length;have hI : Hid (InsIn w (.slice ad n cap) code) := Lib.hid (by rw [← hN.out]; exact h);rw [hN.out] at hn ⊢;clear h hlc hcm;replace hx := Lib.hid hx;go_enter Tryz.func13, Tryz.ntmps13
 go_wp2
 go_loopw [3, 4] (fun t3 t4 wr => ∃ (i : Nat) (m : Int), i ≤ n ∧ i ≤ 8193 ∧ t4 = .int .i64 i ∧ t3 = .int .i64 m ∧ 0 ≤ m ∧ m ≤ 20000 ∧ Hid (∀ j, j < i → (inAt code j).text.length ≤ 20000) ∧ w = wr) (fun _ t4 _ => n - (intOf t4).toNat)
 case atStart => exact ⟨0, 20000, by omega, by omega, rfl, rfl, by omega, by omega, Lib.hid (fun j hj => by omega), rfl⟩
 case round =>
   obtain ⟨i, m, hi, hi2, rfl, rfl, hm0, hm1, hall, rfl⟩ := hrel;rcases Nat.lt_or_ge i n with hlt | hge
   · have hlti : (i : Int) < (n : Int) := by omega
     by_cases h8 : i ≤ 8192
     · have h8i : (i : Int) ≤ 8192 := by omega
       have hil : i < code.length := by rw [hN.out]; exact hlt
       rcases hxi : inAt code i with ⟨op, a, num, tx⟩
       have hmem : inAt code i ∈ code := by rw [inAt_get hil]; exact List.getElem_mem hil
       have htl := (hx.out _ hmem).1;rw [hxi] at htl;dsimp only at htl;obtain ⟨g, off, cap0, ecv, hg, z0, z1, z2, z3⟩ := hI.out.cells (Below.refl _ w) (i := i) hil hxi;injection ecv with ec1 ec2 ec3;subst ec1 ec3;have hlast : (inAt code i).text.length = tx.length := by rw [hxi]
       replace hlast := Lib.hid hlast;clear ec2 hmem hxi;have htl2 : (tx.length : Int) ≤ 9223372036854775807 := by omega
       by_cases hbig : m < (tx.length : Int)
       · go_wp2
         go_ret
         exact ⟨true, rfl, rfl, fun hh => by cases hh⟩
       · go_wp2
         go_roundw
         case rel => exact ⟨i + 1, m - tx.length, by omega, by omega, by go_num, by first | rfl | (congr 1; simp only [wrap64]; omega), by omega, by omega, Lib.hid (fun j hj => by
           by_cases e : j = i
           · rw [e, hlast.out]; omega
           · exact hall.out j (by omega)), by trivial⟩
         case measure => simp [intOf]; omega
     · have h8i : ¬ (i : Int) ≤ 8192 := by omega
       go_wp2
       go_ret
       exact ⟨false, rfl, rfl, fun _ j hj hj2 => hall.out j (by omega)⟩
   · obtain rfl : i = n := by omega
     have hlti : ¬ ((i : Int) < (i : Int)) := by omega
     go_wp2
     go_ret
     exact ⟨false, rfl, rfl, fun _ j hj _ => hall.out j (by rw [← hN.out]; exact hj)⟩
def listV (code : List Ins) : Value := if mayE code = 0 then .tuple #[.string ⟨(linesL 0 code).toArray⟩, .int .i64 0] else .tuple #[.string ⟨#[]⟩, .int .i64 (mayE code : Nat)]
set_option maxRecDepth 20000 in
set_option maxHeartbeats 1000000 in
theorem List_any {code : List Ins} {v : Value} {w : World} (h : InsIn w v code) (hx : ∀ x ∈ code, FitIns x) (hW : WordsOK w) (hT : TabOK w) (ht : mayE code = 0 → ∀ x ∈ code, x.text.length ≤ 20000) :
   Calls Tryz.prog 16 #[v] w fun e w' => e = .returned (listV code) ∧ Below w.heap.size w w' := by
 unfold listV;by_cases h0 : mayE code = 0
 · rw [if_pos h0]
   exact List_ok h hx hW hT h0 (ht h0)
 · rw [if_neg h0]
   have M := writable_any h hx hW;obtain ⟨ad, cap, hv, _⟩ := id h;subst hv;obtain ⟨R, hR⟩ := exHid (mayE code);rw [hR.out] at M h0 ⊢;have e1 : (((R : Nat) : Int) != 0) = true := by simp; omega
   replace h0 := Lib.hid h0;clear h hx hW hT ht;go_enter Tryz.func16, Tryz.ntmps16
   go_wp2_with (go_at_call 27; refine M.mono ?_; rintro e w1 ⟨rfl, hb1⟩)
   refine bodyPost_ret (results_tmp2 rfl _ _ _) rfl ?_;exact ⟨rfl, hb1⟩
set_option maxRecDepth 20000 in
set_option maxHeartbeats 1000000 in
theorem refList_any {code : List Ins} {v : Value} {w : World} (h : InsIn w v code) (hx : ∀ x ∈ code, FitIns x) (ht : mayE code = 0 → ∀ x ∈ code, x.text.length ≤ 20000) :
   Calls Tryz.prog 17 #[v] w fun e w' => e = .returned (listV code) ∧ Below w.heap.size w w' := by
 unfold listV;by_cases h0 : mayE code = 0
 · rw [if_pos h0]
   exact refList_ok h hx h0 (ht h0)
 · rw [if_neg h0]
   have M := refMay_any h hx;obtain ⟨ad, cap, hv, _⟩ := id h;subst hv;obtain ⟨R, hR⟩ := exHid (mayE code);rw [hR.out] at M h0 ⊢;have e1 : (((R : Nat) : Int) != 0) = true := by simp; omega
   replace h0 := Lib.hid h0;clear h hx ht;go_enter Tryz.func17, Tryz.ntmps17
   go_wp2_with (go_at_call 29; refine M.mono ?_; rintro e w1 ⟨rfl, hb1⟩)
   refine bodyPost_ret (results_tmp2 rfl _ _ _) rfl ?_;exact ⟨rfl, hb1⟩
end Go.Proofs.YtcabolfookofoaaGreatDoor
