/- A part of the proof: SlA, SlN, SlS. No condition. -/
import Derived.Test.YtjiemkidmlgbeaaGreatDoorQ05
import Derived.Test.YtjiemkidmlgbeaaGreatDoorQ07
import Derived.Test.YtjiemkidmlgbeaaGreatDoorQ24
import Derived.Test.YtjiemkidmlgbeaaGreatDoorQ36
set_option linter.unusedVariables false
set_option linter.unusedSimpArgs false
namespace Go.Proofs.YtjiemkidmlgbeaaGreatDoor
open Go.RowKit Go.Shelf Tok
set_option maxRecDepth 20000 in
set_option maxHeartbeats 1000000 in
theorem ar_kind {w : World} {b o n cap i j k : Nat} {kd : Nat} {tx : List UInt8} (hN : (n : Int) ≤ 1000000) (hlt : (i : Int) < (n : Int)) (p0 : w.cell? ⟨b, o + i * 4, none⟩ = some (.int .u8 kd)) (p1 : w.cell? ⟨b, o + i * 4 + 1, none⟩ = some (.string ⟨tx.toArray⟩)) (h : kd ≠ 4) :
   Calls Tryz.prog 12 #[.slice (some ⟨b, o, none⟩) n cap, .int .i64 (i : Int)] w fun e w' => e = .returned (.bool false) ∧ w' = w := by
 have q : ((kd : Int) != 4) = true := bne_iff_ne.2 (by omega);go_enter Tryz.func12, Tryz.ntmps12
 go_wp2
 go_ret
 exact ⟨rfl, rfl⟩
set_option maxRecDepth 20000 in
set_option maxHeartbeats 1000000 in
theorem ar_text {w : World} {b o n cap i j k : Nat} {tx : List UInt8} (hN : (n : Int) ≤ 1000000) (hlt : (i : Int) < (n : Int)) (p0 : w.cell? ⟨b, o + i * 4, none⟩ = some (.int .u8 4)) (p1 : w.cell? ⟨b, o + i * 4 + 1, none⟩ = some (.string ⟨tx.toArray⟩)) (h : tx ≠ [40]) :
   Calls Tryz.prog 12 #[.slice (some ⟨b, o, none⟩) n cap, .int .i64 (i : Int)] w fun e w' => e = .returned (.bool false) ∧ w' = w := by
 have q : (tx == [40]) = false := beq_eq_false_iff_ne.2 h;go_enter Tryz.func12, Tryz.ntmps12
 go_wp2
 go_ret
 exact ⟨rfl, rfl⟩
set_option maxRecDepth 20000 in
set_option maxHeartbeats 1000000 in
theorem ar_first {w : World} {b o n cap i j k : Nat}  (hN : (n : Int) ≤ 1000000) (hlt : (0 : Int) < (n : Int)) (p0 : w.cell? ⟨b, o, none⟩ = some (.int .u8 4)) (p1 : w.cell? ⟨b, o + 1, none⟩ = some (.string ⟨#[40]⟩)) :
   Calls Tryz.prog 12 #[.slice (some ⟨b, o, none⟩) n cap, .int .i64 0] w fun e w' => e = .returned (.bool true) ∧ w' = w := by
 go_enter Tryz.func12, Tryz.ntmps12
 go_wp2
 go_ret
 exact ⟨rfl, rfl⟩
set_option maxRecDepth 20000 in
set_option maxHeartbeats 1000000 in
theorem ar_sign {w : World} {b o n cap i j k : Nat} {kd : Nat} {tx : List UInt8} (hN : (n : Int) ≤ 1000000) (hlt : (i : Int) < (n : Int)) (p0 : w.cell? ⟨b, o + i * 4, none⟩ = some (.int .u8 4)) (p1 : w.cell? ⟨b, o + i * 4 + 1, none⟩ = some (.string ⟨#[40]⟩)) (hij : i = j + 1) (q0 : w.cell? ⟨b, o + j * 4, none⟩ = some (.int .u8 kd)) (q1 : w.cell? ⟨b, o + j * 4 + 1, none⟩ = some (.string ⟨tx.toArray⟩)) (h : kd ≠ 1) :
   Calls Tryz.prog 12 #[.slice (some ⟨b, o, none⟩) n cap, .int .i64 (i : Int)] w fun e w' => e = .returned (.bool true) ∧ w' = w := by
 have s1 : (i : Int) - 1 = (j : Int) := by omega
 have s0 : ((i : Int) == 0) = false := beq_eq_false_iff_ne.2 (by omega);have s3 : (j : Int) < (n : Int) := by omega
 replace hij := Lib.hid hij;have q : ((kd : Int) != 1) = true := bne_iff_ne.2 (by omega);go_enter Tryz.func12, Tryz.ntmps12
 go_wp2
 go_ret
 exact ⟨rfl, rfl⟩
set_option maxRecDepth 20000 in
set_option maxHeartbeats 1000000 in
theorem ar_len {w : World} {b o n cap i j k : Nat} (hN : (n : Int) ≤ 1000000) (hlt : (i : Int) < (n : Int)) (p0 : w.cell? ⟨b, o + i * 4, none⟩ = some (.int .u8 4)) (p1 : w.cell? ⟨b, o + i * 4 + 1, none⟩ = some (.string ⟨#[40]⟩)) (hij : i = j + 1) (q0 : w.cell? ⟨b, o + j * 4, none⟩ = some (.int .u8 1)) (q1 : w.cell? ⟨b, o + j * 4 + 1, none⟩ = some (.string ⟨#[108, 101, 110]⟩)) :
   Calls Tryz.prog 12 #[.slice (some ⟨b, o, none⟩) n cap, .int .i64 (i : Int)] w fun e w' => e = .returned (.bool false) ∧ w' = w := by
 have s1 : (i : Int) - 1 = (j : Int) := by omega
 have s0 : ((i : Int) == 0) = false := beq_eq_false_iff_ne.2 (by omega);have s3 : (j : Int) < (n : Int) := by omega
 replace hij := Lib.hid hij;go_enter Tryz.func12, Tryz.ntmps12
 go_wp2
 go_ret
 exact ⟨rfl, rfl⟩
set_option maxRecDepth 20000 in
set_option maxHeartbeats 1000000 in
theorem ar_num {w : World} {b o n cap i j k : Nat} (hN : (n : Int) ≤ 1000000) (hlt : (i : Int) < (n : Int)) (p0 : w.cell? ⟨b, o + i * 4, none⟩ = some (.int .u8 4)) (p1 : w.cell? ⟨b, o + i * 4 + 1, none⟩ = some (.string ⟨#[40]⟩)) (hij : i = j + 1) (q0 : w.cell? ⟨b, o + j * 4, none⟩ = some (.int .u8 1)) (q1 : w.cell? ⟨b, o + j * 4 + 1, none⟩ = some (.string ⟨#[110, 117, 109]⟩)) :
   Calls Tryz.prog 12 #[.slice (some ⟨b, o, none⟩) n cap, .int .i64 (i : Int)] w fun e w' => e = .returned (.bool false) ∧ w' = w := by
 have s1 : (i : Int) - 1 = (j : Int) := by omega
 have s0 : ((i : Int) == 0) = false := beq_eq_false_iff_ne.2 (by omega);have s3 : (j : Int) < (n : Int) := by omega
 replace hij := Lib.hid hij;go_enter Tryz.func12, Tryz.ntmps12
 go_wp2
 go_ret
 exact ⟨rfl, rfl⟩
set_option maxRecDepth 20000 in
set_option maxHeartbeats 1000000 in
theorem ar_re {w : World} {b o n cap i j k : Nat} (hN : (n : Int) ≤ 1000000) (hlt : (i : Int) < (n : Int)) (p0 : w.cell? ⟨b, o + i * 4, none⟩ = some (.int .u8 4)) (p1 : w.cell? ⟨b, o + i * 4 + 1, none⟩ = some (.string ⟨#[40]⟩)) (hij : i = j + 1) (q0 : w.cell? ⟨b, o + j * 4, none⟩ = some (.int .u8 1)) (q1 : w.cell? ⟨b, o + j * 4 + 1, none⟩ = some (.string ⟨#[114, 101]⟩)) :
   Calls Tryz.prog 12 #[.slice (some ⟨b, o, none⟩) n cap, .int .i64 (i : Int)] w fun e w' => e = .returned (.bool false) ∧ w' = w := by
 have s1 : (i : Int) - 1 = (j : Int) := by omega
 have s0 : ((i : Int) == 0) = false := beq_eq_false_iff_ne.2 (by omega);have s3 : (j : Int) < (n : Int) := by omega
 replace hij := Lib.hid hij;go_enter Tryz.func12, Tryz.ntmps12
 go_wp2
 go_ret
 exact ⟨rfl, rfl⟩
set_option maxRecDepth 20000 in
set_option maxHeartbeats 1000000 in
theorem ar_im {w : World} {b o n cap i j k : Nat} (hN : (n : Int) ≤ 1000000) (hlt : (i : Int) < (n : Int)) (p0 : w.cell? ⟨b, o + i * 4, none⟩ = some (.int .u8 4)) (p1 : w.cell? ⟨b, o + i * 4 + 1, none⟩ = some (.string ⟨#[40]⟩)) (hij : i = j + 1) (q0 : w.cell? ⟨b, o + j * 4, none⟩ = some (.int .u8 1)) (q1 : w.cell? ⟨b, o + j * 4 + 1, none⟩ = some (.string ⟨#[105, 109]⟩)) :
   Calls Tryz.prog 12 #[.slice (some ⟨b, o, none⟩) n cap, .int .i64 (i : Int)] w fun e w' => e = .returned (.bool false) ∧ w' = w := by
 have s1 : (i : Int) - 1 = (j : Int) := by omega
 have s0 : ((i : Int) == 0) = false := beq_eq_false_iff_ne.2 (by omega);have s3 : (j : Int) < (n : Int) := by omega
 replace hij := Lib.hid hij;go_enter Tryz.func12, Tryz.ntmps12
 go_wp2
 go_ret
 exact ⟨rfl, rfl⟩
set_option maxRecDepth 20000 in
set_option maxHeartbeats 1000000 in
theorem ar_conj {w : World} {b o n cap i j k : Nat} (hN : (n : Int) ≤ 1000000) (hlt : (i : Int) < (n : Int)) (p0 : w.cell? ⟨b, o + i * 4, none⟩ = some (.int .u8 4)) (p1 : w.cell? ⟨b, o + i * 4 + 1, none⟩ = some (.string ⟨#[40]⟩)) (hij : i = j + 1) (q0 : w.cell? ⟨b, o + j * 4, none⟩ = some (.int .u8 1)) (q1 : w.cell? ⟨b, o + j * 4 + 1, none⟩ = some (.string ⟨#[99, 111, 110, 106]⟩)) :
   Calls Tryz.prog 12 #[.slice (some ⟨b, o, none⟩) n cap, .int .i64 (i : Int)] w fun e w' => e = .returned (.bool false) ∧ w' = w := by
 have s1 : (i : Int) - 1 = (j : Int) := by omega
 have s0 : ((i : Int) == 0) = false := beq_eq_false_iff_ne.2 (by omega);have s3 : (j : Int) < (n : Int) := by omega
 replace hij := Lib.hid hij;go_enter Tryz.func12, Tryz.ntmps12
 go_wp2
 go_ret
 exact ⟨rfl, rfl⟩
set_option maxRecDepth 20000 in
set_option maxHeartbeats 1000000 in
theorem ar_timer {w : World} {b o n cap i j k : Nat} (hN : (n : Int) ≤ 1000000) (hlt : (i : Int) < (n : Int)) (p0 : w.cell? ⟨b, o + i * 4, none⟩ = some (.int .u8 4)) (p1 : w.cell? ⟨b, o + i * 4 + 1, none⟩ = some (.string ⟨#[40]⟩)) (hij : i = j + 1) (q0 : w.cell? ⟨b, o + j * 4, none⟩ = some (.int .u8 1)) (q1 : w.cell? ⟨b, o + j * 4 + 1, none⟩ = some (.string ⟨#[116, 105, 109, 101, 114]⟩)) :
   Calls Tryz.prog 12 #[.slice (some ⟨b, o, none⟩) n cap, .int .i64 (i : Int)] w fun e w' => e = .returned (.bool false) ∧ w' = w := by
 have s1 : (i : Int) - 1 = (j : Int) := by omega
 have s0 : ((i : Int) == 0) = false := beq_eq_false_iff_ne.2 (by omega);have s3 : (j : Int) < (n : Int) := by omega
 replace hij := Lib.hid hij;go_enter Tryz.func12, Tryz.ntmps12
 go_wp2
 go_ret
 exact ⟨rfl, rfl⟩
set_option maxRecDepth 20000 in
set_option maxHeartbeats 1000000 in
theorem ar_second {w : World} {b o n cap i j k : Nat} {tx : List UInt8} (hN : (n : Int) ≤ 1000000) (hlt : (1 : Int) < (n : Int)) (p0 : w.cell? ⟨b, o + 4, none⟩ = some (.int .u8 4)) (p1 : w.cell? ⟨b, o + 4 + 1, none⟩ = some (.string ⟨#[40]⟩)) (q0 : w.cell? ⟨b, o, none⟩ = some (.int .u8 1)) (q1 : w.cell? ⟨b, o + 1, none⟩ = some (.string ⟨tx.toArray⟩)) (n0 : tx ≠ [108, 101, 110]) (n1 : tx ≠ [110, 117, 109]) (n2 : tx ≠ [114, 101]) (n3 : tx ≠ [105, 109]) (n4 : tx ≠ [99, 111, 110, 106]) (n5 : tx ≠ [116, 105, 109, 101, 114]) :
   Calls Tryz.prog 12 #[.slice (some ⟨b, o, none⟩) n cap, .int .i64 1] w fun e w' => e = .returned (.bool true) ∧ w' = w := by
 have s3 : (0 : Int) < (n : Int) := by omega
 have e0 : (tx == [108, 101, 110]) = false := beq_eq_false_iff_ne.2 n0;have e1 : (tx == [110, 117, 109]) = false := beq_eq_false_iff_ne.2 n1;have e2 : (tx == [114, 101]) = false := beq_eq_false_iff_ne.2 n2;have e3 : (tx == [105, 109]) = false := beq_eq_false_iff_ne.2 n3;have e4 : (tx == [99, 111, 110, 106]) = false := beq_eq_false_iff_ne.2 n4;have e5 : (tx == [116, 105, 109, 101, 114]) = false := beq_eq_false_iff_ne.2 n5;go_enter Tryz.func12, Tryz.ntmps12
 go_wp2
 go_ret
 exact ⟨rfl, rfl⟩
set_option maxRecDepth 20000 in
set_option maxHeartbeats 1000000 in
theorem ar_far {w : World} {b o n cap i j k : Nat} {tx : List UInt8} {kd : Nat} {ty : List UInt8} (hN : (n : Int) ≤ 1000000) (hlt : (i : Int) < (n : Int)) (p0 : w.cell? ⟨b, o + i * 4, none⟩ = some (.int .u8 4)) (p1 : w.cell? ⟨b, o + i * 4 + 1, none⟩ = some (.string ⟨#[40]⟩)) (hij : i = j + 1) (hjk : j = k + 1) (q0 : w.cell? ⟨b, o + j * 4, none⟩ = some (.int .u8 1)) (q1 : w.cell? ⟨b, o + j * 4 + 1, none⟩ = some (.string ⟨tx.toArray⟩)) (r0 : w.cell? ⟨b, o + k * 4, none⟩ = some (.int .u8 kd)) (r1 : w.cell? ⟨b, o + k * 4 + 1, none⟩ = some (.string ⟨ty.toArray⟩)) (n0 : tx ≠ [108, 101, 110]) (n1 : tx ≠ [110, 117, 109]) (n2 : tx ≠ [114, 101]) (n3 : tx ≠ [105, 109]) (n4 : tx ≠ [99, 111, 110, 106]) (n5 : tx ≠ [116, 105, 109, 101, 114]) (h : kd ≠ 1) :
   Calls Tryz.prog 12 #[.slice (some ⟨b, o, none⟩) n cap, .int .i64 (i : Int)] w fun e w' => e = .returned (.bool true) ∧ w' = w := by
 have s1 : (i : Int) - 1 = (j : Int) := by omega
 have s0 : ((i : Int) == 0) = false := beq_eq_false_iff_ne.2 (by omega);have s3 : (j : Int) < (n : Int) := by omega
 have s2 : (i : Int) - 2 = (k : Int) := by omega
 have s4 : (k : Int) < (n : Int) := by omega
 have s5 : (1 : Int) < (i : Int) := by omega
 replace hjk := Lib.hid hjk;replace hij := Lib.hid hij;have e0 : (tx == [108, 101, 110]) = false := beq_eq_false_iff_ne.2 n0;have e1 : (tx == [110, 117, 109]) = false := beq_eq_false_iff_ne.2 n1;have e2 : (tx == [114, 101]) = false := beq_eq_false_iff_ne.2 n2;have e3 : (tx == [105, 109]) = false := beq_eq_false_iff_ne.2 n3;have e4 : (tx == [99, 111, 110, 106]) = false := beq_eq_false_iff_ne.2 n4;have e5 : (tx == [116, 105, 109, 101, 114]) = false := beq_eq_false_iff_ne.2 n5;have q : ((kd : Int) == 1) = false := beq_eq_false_iff_ne.2 (by omega);go_enter Tryz.func12, Tryz.ntmps12
 go_wp2
 go_ret
 exact ⟨rfl, rfl⟩
set_option maxRecDepth 20000 in
set_option maxHeartbeats 1000000 in
theorem ar_call {w : World} {b o n cap i j k : Nat} {tx : List UInt8} (hN : (n : Int) ≤ 1000000) (hlt : (i : Int) < (n : Int)) (p0 : w.cell? ⟨b, o + i * 4, none⟩ = some (.int .u8 4)) (p1 : w.cell? ⟨b, o + i * 4 + 1, none⟩ = some (.string ⟨#[40]⟩)) (hij : i = j + 1) (hjk : j = k + 1) (q0 : w.cell? ⟨b, o + j * 4, none⟩ = some (.int .u8 1)) (q1 : w.cell? ⟨b, o + j * 4 + 1, none⟩ = some (.string ⟨tx.toArray⟩)) (r0 : w.cell? ⟨b, o + k * 4, none⟩ = some (.int .u8 1)) (r1 : w.cell? ⟨b, o + k * 4 + 1, none⟩ = some (.string ⟨#[99, 97, 108, 108]⟩)) (n0 : tx ≠ [108, 101, 110]) (n1 : tx ≠ [110, 117, 109]) (n2 : tx ≠ [114, 101]) (n3 : tx ≠ [105, 109]) (n4 : tx ≠ [99, 111, 110, 106]) (n5 : tx ≠ [116, 105, 109, 101, 114]) :
   Calls Tryz.prog 12 #[.slice (some ⟨b, o, none⟩) n cap, .int .i64 (i : Int)] w fun e w' => e = .returned (.bool false) ∧ w' = w := by
 have s1 : (i : Int) - 1 = (j : Int) := by omega
 have s0 : ((i : Int) == 0) = false := beq_eq_false_iff_ne.2 (by omega);have s3 : (j : Int) < (n : Int) := by omega
 have s2 : (i : Int) - 2 = (k : Int) := by omega
 have s4 : (k : Int) < (n : Int) := by omega
 have s5 : (1 : Int) < (i : Int) := by omega
 replace hjk := Lib.hid hjk;replace hij := Lib.hid hij;have e0 : (tx == [108, 101, 110]) = false := beq_eq_false_iff_ne.2 n0;have e1 : (tx == [110, 117, 109]) = false := beq_eq_false_iff_ne.2 n1;have e2 : (tx == [114, 101]) = false := beq_eq_false_iff_ne.2 n2;have e3 : (tx == [105, 109]) = false := beq_eq_false_iff_ne.2 n3;have e4 : (tx == [99, 111, 110, 106]) = false := beq_eq_false_iff_ne.2 n4;have e5 : (tx == [116, 105, 109, 101, 114]) = false := beq_eq_false_iff_ne.2 n5;go_enter Tryz.func12, Tryz.ntmps12
 go_wp2
 go_ret
 exact ⟨rfl, rfl⟩
set_option maxRecDepth 20000 in
set_option maxHeartbeats 1000000 in
theorem ar_child {w : World} {b o n cap i j k : Nat} {tx : List UInt8} (hN : (n : Int) ≤ 1000000) (hlt : (i : Int) < (n : Int)) (p0 : w.cell? ⟨b, o + i * 4, none⟩ = some (.int .u8 4)) (p1 : w.cell? ⟨b, o + i * 4 + 1, none⟩ = some (.string ⟨#[40]⟩)) (hij : i = j + 1) (hjk : j = k + 1) (q0 : w.cell? ⟨b, o + j * 4, none⟩ = some (.int .u8 1)) (q1 : w.cell? ⟨b, o + j * 4 + 1, none⟩ = some (.string ⟨tx.toArray⟩)) (r0 : w.cell? ⟨b, o + k * 4, none⟩ = some (.int .u8 1)) (r1 : w.cell? ⟨b, o + k * 4 + 1, none⟩ = some (.string ⟨#[99, 104, 105, 108, 100]⟩)) (n0 : tx ≠ [108, 101, 110]) (n1 : tx ≠ [110, 117, 109]) (n2 : tx ≠ [114, 101]) (n3 : tx ≠ [105, 109]) (n4 : tx ≠ [99, 111, 110, 106]) (n5 : tx ≠ [116, 105, 109, 101, 114]) :
   Calls Tryz.prog 12 #[.slice (some ⟨b, o, none⟩) n cap, .int .i64 (i : Int)] w fun e w' => e = .returned (.bool false) ∧ w' = w := by
 have s1 : (i : Int) - 1 = (j : Int) := by omega
 have s0 : ((i : Int) == 0) = false := beq_eq_false_iff_ne.2 (by omega);have s3 : (j : Int) < (n : Int) := by omega
 have s2 : (i : Int) - 2 = (k : Int) := by omega
 have s4 : (k : Int) < (n : Int) := by omega
 have s5 : (1 : Int) < (i : Int) := by omega
 replace hjk := Lib.hid hjk;replace hij := Lib.hid hij;have e0 : (tx == [108, 101, 110]) = false := beq_eq_false_iff_ne.2 n0;have e1 : (tx == [110, 117, 109]) = false := beq_eq_false_iff_ne.2 n1;have e2 : (tx == [114, 101]) = false := beq_eq_false_iff_ne.2 n2;have e3 : (tx == [105, 109]) = false := beq_eq_false_iff_ne.2 n3;have e4 : (tx == [99, 111, 110, 106]) = false := beq_eq_false_iff_ne.2 n4;have e5 : (tx == [116, 105, 109, 101, 114]) = false := beq_eq_false_iff_ne.2 n5;go_enter Tryz.func12, Tryz.ntmps12
 go_wp2
 go_ret
 exact ⟨rfl, rfl⟩
set_option maxRecDepth 20000 in
set_option maxHeartbeats 1000000 in
theorem ar_flow {w : World} {b o n cap i j k : Nat} {tx : List UInt8} (hN : (n : Int) ≤ 1000000) (hlt : (i : Int) < (n : Int)) (p0 : w.cell? ⟨b, o + i * 4, none⟩ = some (.int .u8 4)) (p1 : w.cell? ⟨b, o + i * 4 + 1, none⟩ = some (.string ⟨#[40]⟩)) (hij : i = j + 1) (hjk : j = k + 1) (q0 : w.cell? ⟨b, o + j * 4, none⟩ = some (.int .u8 1)) (q1 : w.cell? ⟨b, o + j * 4 + 1, none⟩ = some (.string ⟨tx.toArray⟩)) (r0 : w.cell? ⟨b, o + k * 4, none⟩ = some (.int .u8 1)) (r1 : w.cell? ⟨b, o + k * 4 + 1, none⟩ = some (.string ⟨#[102, 108, 111, 119]⟩)) (n0 : tx ≠ [108, 101, 110]) (n1 : tx ≠ [110, 117, 109]) (n2 : tx ≠ [114, 101]) (n3 : tx ≠ [105, 109]) (n4 : tx ≠ [99, 111, 110, 106]) (n5 : tx ≠ [116, 105, 109, 101, 114]) :
   Calls Tryz.prog 12 #[.slice (some ⟨b, o, none⟩) n cap, .int .i64 (i : Int)] w fun e w' => e = .returned (.bool false) ∧ w' = w := by
 have s1 : (i : Int) - 1 = (j : Int) := by omega
 have s0 : ((i : Int) == 0) = false := beq_eq_false_iff_ne.2 (by omega);have s3 : (j : Int) < (n : Int) := by omega
 have s2 : (i : Int) - 2 = (k : Int) := by omega
 have s4 : (k : Int) < (n : Int) := by omega
 have s5 : (1 : Int) < (i : Int) := by omega
 replace hjk := Lib.hid hjk;replace hij := Lib.hid hij;have e0 : (tx == [108, 101, 110]) = false := beq_eq_false_iff_ne.2 n0;have e1 : (tx == [110, 117, 109]) = false := beq_eq_false_iff_ne.2 n1;have e2 : (tx == [114, 101]) = false := beq_eq_false_iff_ne.2 n2;have e3 : (tx == [105, 109]) = false := beq_eq_false_iff_ne.2 n3;have e4 : (tx == [99, 111, 110, 106]) = false := beq_eq_false_iff_ne.2 n4;have e5 : (tx == [116, 105, 109, 101, 114]) = false := beq_eq_false_iff_ne.2 n5;go_enter Tryz.func12, Tryz.ntmps12
 go_wp2
 go_ret
 exact ⟨rfl, rfl⟩
set_option maxRecDepth 20000 in
set_option maxHeartbeats 1000000 in
theorem ar_other {w : World} {b o n cap i j k : Nat} {tx ty : List UInt8} (hN : (n : Int) ≤ 1000000) (hlt : (i : Int) < (n : Int)) (p0 : w.cell? ⟨b, o + i * 4, none⟩ = some (.int .u8 4)) (p1 : w.cell? ⟨b, o + i * 4 + 1, none⟩ = some (.string ⟨#[40]⟩)) (hij : i = j + 1) (hjk : j = k + 1) (q0 : w.cell? ⟨b, o + j * 4, none⟩ = some (.int .u8 1)) (q1 : w.cell? ⟨b, o + j * 4 + 1, none⟩ = some (.string ⟨tx.toArray⟩)) (r0 : w.cell? ⟨b, o + k * 4, none⟩ = some (.int .u8 1)) (r1 : w.cell? ⟨b, o + k * 4 + 1, none⟩ = some (.string ⟨ty.toArray⟩)) (n0 : tx ≠ [108, 101, 110]) (n1 : tx ≠ [110, 117, 109]) (n2 : tx ≠ [114, 101]) (n3 : tx ≠ [105, 109]) (n4 : tx ≠ [99, 111, 110, 106]) (n5 : tx ≠ [116, 105, 109, 101, 114]) (g0 : ty ≠ [99, 97, 108, 108]) (g1 : ty ≠ [99, 104, 105, 108, 100]) (g2 : ty ≠ [102, 108, 111, 119]) :
   Calls Tryz.prog 12 #[.slice (some ⟨b, o, none⟩) n cap, .int .i64 (i : Int)] w fun e w' => e = .returned (.bool true) ∧ w' = w := by
 have s1 : (i : Int) - 1 = (j : Int) := by omega
 have s0 : ((i : Int) == 0) = false := beq_eq_false_iff_ne.2 (by omega);have s3 : (j : Int) < (n : Int) := by omega
 have s2 : (i : Int) - 2 = (k : Int) := by omega
 have s4 : (k : Int) < (n : Int) := by omega
 have s5 : (1 : Int) < (i : Int) := by omega
 replace hjk := Lib.hid hjk;replace hij := Lib.hid hij;have e0 : (tx == [108, 101, 110]) = false := beq_eq_false_iff_ne.2 n0;have e1 : (tx == [110, 117, 109]) = false := beq_eq_false_iff_ne.2 n1;have e2 : (tx == [114, 101]) = false := beq_eq_false_iff_ne.2 n2;have e3 : (tx == [105, 109]) = false := beq_eq_false_iff_ne.2 n3;have e4 : (tx == [99, 111, 110, 106]) = false := beq_eq_false_iff_ne.2 n4;have e5 : (tx == [116, 105, 109, 101, 114]) = false := beq_eq_false_iff_ne.2 n5;have f0 : (ty == [99, 97, 108, 108]) = false := beq_eq_false_iff_ne.2 g0;have f1 : (ty == [99, 104, 105, 108, 100]) = false := beq_eq_false_iff_ne.2 g1;have f2 : (ty == [102, 108, 111, 119]) = false := beq_eq_false_iff_ne.2 g2;go_enter Tryz.func12, Tryz.ntmps12
 go_wp2
 go_ret
 exact ⟨rfl, rfl⟩
theorem around_any {w : World} {v : Value} {L : List Tg} (h : TgIn w v L) {i : Nat} (hi : i < L.length) (hL : L.length ≤ 1000000) :
   Calls Tryz.prog 12 #[v, .int .i64 (i : Int)] w fun e w' => ∃ b : Bool, e = .returned (.bool b) ∧ (b = true → isO L[i] = true) ∧ w' = w := by
 obtain ⟨a, cap, rfl, _, _, k1⟩ := h;obtain ⟨b, o, rfl, _, hc⟩ := k1 (by omega);have hlt : (i : Int) < (L.length : Int) := by omega
 have hN : (L.length : Int) ≤ 1000000 := by omega
 have no : ∀ {e : Ending} {w' : World}, (e = .returned (.bool false) ∧ w' = w) → ∃ b : Bool, e = .returned (.bool b) ∧ (b = true → isO L[i] = true) ∧ w' = w := fun h => ⟨false, h.1, (fun h => by cases h), h.2⟩;have cells : ∀ j (hj : j < L.length), w.cell? ⟨b, o + j * 4, none⟩ = some (.int .u8 L[j].kind) ∧ w.cell? ⟨b, o + j * 4 + 1, none⟩ = some (.string ⟨L[j].text.toArray⟩) := fun j hj => ⟨hc j hj 0 (by omega), hc j hj 1 (by omega)⟩;obtain ⟨p0, p1⟩ := cells i hi;by_cases ck : L[i].kind = 4
 · by_cases ct : L[i].text = [40]
   · have hO : isO L[i] = true := by unfold isO; rw [ck, ct]; rfl
     have yes : ∀ {e : Ending} {w' : World}, (e = .returned (.bool true) ∧ w' = w) → ∃ b : Bool, e = .returned (.bool b) ∧ (b = true → isO L[i] = true) ∧ w' = w := fun h => ⟨true, h.1, fun _ => hO, h.2⟩;rw [ck] at p0;rw [ct] at p1;rcases (show i = 0 ∨ ∃ j, i = j + 1 from by cases i with | zero => exact .inl rfl | succ j => exact .inr ⟨j, rfl⟩) with h0 | ⟨j, hij⟩
     · subst h0
       exact (ar_first (i := 0) (j := 0) (k := 0) hN hlt (by simpa using p0) (by simpa using p1)).mono fun e w' h => yes h
     · obtain ⟨q0, q1⟩ := cells j (by omega)
       by_cases cq : L[j].kind = 1
       · rw [cq] at q0
         by_cases n0 : L[j].text = [108, 101, 110]
         · rw [n0] at q1; exact (ar_len (k := 0) hN hlt p0 p1 hij q0 q1).mono fun e w' h => no h
         by_cases n1 : L[j].text = [110, 117, 109]
         · rw [n1] at q1; exact (ar_num (k := 0) hN hlt p0 p1 hij q0 q1).mono fun e w' h => no h
         by_cases n2 : L[j].text = [114, 101]
         · rw [n2] at q1; exact (ar_re (k := 0) hN hlt p0 p1 hij q0 q1).mono fun e w' h => no h
         by_cases n3 : L[j].text = [105, 109]
         · rw [n3] at q1; exact (ar_im (k := 0) hN hlt p0 p1 hij q0 q1).mono fun e w' h => no h
         by_cases n4 : L[j].text = [99, 111, 110, 106]
         · rw [n4] at q1; exact (ar_conj (k := 0) hN hlt p0 p1 hij q0 q1).mono fun e w' h => no h
         by_cases n5 : L[j].text = [116, 105, 109, 101, 114]
         · rw [n5] at q1; exact (ar_timer (k := 0) hN hlt p0 p1 hij q0 q1).mono fun e w' h => no h
         rcases (show j = 0 ∨ ∃ k, j = k + 1 from by cases j with | zero => exact .inl rfl | succ k => exact .inr ⟨k, rfl⟩) with h0 | ⟨k, hjk⟩
         · subst h0
           subst hij;exact (ar_second (i := 0) (j := 0) (k := 0) hN hlt (by simpa using p0) (by simpa using p1) (by simpa using q0) (by simpa using q1) n0 n1 n2 n3 n4 n5).mono fun e w' h => yes h
         · obtain ⟨r0, r1⟩ := cells k (by omega)
           by_cases cr : L[k].kind = 1
           · rw [cr] at r0
             by_cases g0 : L[k].text = [99, 97, 108, 108]
             · rw [g0] at r1; exact (ar_call hN hlt p0 p1 hij hjk q0 q1 r0 r1 n0 n1 n2 n3 n4 n5).mono fun e w' h => no h
             by_cases g1 : L[k].text = [99, 104, 105, 108, 100]
             · rw [g1] at r1; exact (ar_child hN hlt p0 p1 hij hjk q0 q1 r0 r1 n0 n1 n2 n3 n4 n5).mono fun e w' h => no h
             by_cases g2 : L[k].text = [102, 108, 111, 119]
             · rw [g2] at r1; exact (ar_flow hN hlt p0 p1 hij hjk q0 q1 r0 r1 n0 n1 n2 n3 n4 n5).mono fun e w' h => no h
             exact (ar_other hN hlt p0 p1 hij hjk q0 q1 r0 r1 n0 n1 n2 n3 n4 n5 g0 g1 g2).mono fun e w' h => yes h
           · exact (ar_far hN hlt p0 p1 hij hjk q0 q1 r0 r1 n0 n1 n2 n3 n4 n5 cr).mono fun e w' h => yes h
       · exact (ar_sign (k := 0) hN hlt p0 p1 hij q0 q1 cq).mono fun e w' h => yes h
   · rw [ck] at p0
     exact (ar_text (j := 0) (k := 0) hN hlt p0 p1 ct).mono fun e w' h => no h
 · exact (ar_kind (j := 0) (k := 0) hN hlt p0 p1 ck).mono fun e w' h => no h
end Go.Proofs.YtjiemkidmlgbeaaGreatDoor
namespace Go.Proofs.YtjiemkidmlgbeaaGreatDoor
open Go.RowKit Go.Shelf
theorem tw_ne {a b : Tw} (h : a ≠ b) : ((a.op : Int) == (b.op : Int)) = false ∨ (a.kids == b.kids) = false ∨ (a.num == b.num) = false ∨ (a.text == b.text) = false := by
 by_cases h1 : a.op = b.op
 · by_cases h2 : a.kids = b.kids
   · by_cases h3 : a.num = b.num
     · by_cases h4 : a.text = b.text
       · exact absurd (by cases a; cases b; simp_all) h
       · exact .inr (.inr (.inr (beq_eq_false_iff_ne.2 h4)))
     · exact .inr (.inr (.inl (beq_eq_false_iff_ne.2 h3)))
   · exact .inr (.inl (beq_eq_false_iff_ne.2 h2))
 · exact .inl (beq_eq_false_iff_ne.2 (by omega))
set_option maxRecDepth 20000 in
set_option maxHeartbeats 2000000 in
theorem alike_no {w : World} {v1 v2 : Value} {ts us : List Tw} (h1 : TwIn w v1 ts) (h2 : TwIn w v2 us) (hne : ts ≠ us) :
   Calls Tryz.prog 10 #[v1, v2] w fun e w' => e = .returned (.bool false) ∧ Below w.heap.size w w' := by
 obtain ⟨a1, cap1, rfl, _, _, k1⟩ := h1;obtain ⟨a2, cap2, rfl, hlc, hcm, k2⟩ := h2;by_cases hL : ts.length = us.length
 · rw [← hL]
   have hL' := Lib.hid hL;have hne2 : ((ts.length : Int) != (ts.length : Int)) = false := by simp
   replace k1 := Lib.hid k1;replace k2 := Lib.hid k2;replace hne := Lib.hid hne;clear hL hlc;go_enter Tryz.func10, Tryz.ntmps10
   go_wp2
   go_loopw [5] (fun t5 wr => ∃ i : Nat, i ≤ ts.length ∧ t5 = .int .i64 i ∧ Below w.heap.size w wr ∧ Hid (ts.take i = us.take i)) (fun t5 _ => ts.length - (intOf t5).toNat)
   case atStart => exact ⟨0, by omega, rfl, Below.refl _ _, Lib.hid rfl⟩
   case round =>
     obtain ⟨i, hi, rfl, hbw, hsame⟩ := hrel;rcases Nat.lt_or_ge i ts.length with hlt | hge
     · obtain ⟨b1, o1, rfl, hl1, hc1⟩ := k1.out (by omega)
       obtain ⟨b2, o2, rfl, hl2, hc2⟩ := k2.out (by have := hL'.out; omega);have hlti : (i : Int) < (ts.length : Int) := by omega
       have hlt2 : i < us.length := by have := hL'.out; omega
       have x1 := fun n c (h : c < 4) => ((below_drewN hbw n).cell (p := ⟨b1, o1 + i * 4 + c, none⟩) hl1).trans (hc1 i hlt c h)
       have x2 := fun n c (h : c < 4) => ((below_drewN hbw n).cell (p := ⟨b2, o2 + i * 4 + c, none⟩) hl2).trans (hc2 i hlt2 c h)
       have hnext := Lib.hid (fun (h : ts[i] = us[i]) => (show ts.take (i + 1) = us.take (i + 1) by rw [List.take_succ_eq_append_getElem hlt, List.take_succ_eq_append_getElem hlt2, hsame.out, h]));have hd := fun (h : ts[i] ≠ us[i]) => tw_ne h
       generalize ts[i] = t at *;generalize us[i] = u at *;by_cases htu : t = u
       · subst htu
         replace hnext := Lib.hid (hnext.out rfl);obtain ⟨op, kids, num, text⟩ := t;have p0 := fun n => x1 n 0 (by omega); have p1 := fun n => x1 n 1 (by omega); have p2 := fun n => x1 n 2 (by omega); have p3 := fun n => x1 n 3 (by omega)
         have q0 := fun n => x2 n 0 (by omega); have q1 := fun n => x2 n 1 (by omega); have q2 := fun n => x2 n 2 (by omega); have q3 := fun n => x2 n 3 (by omega)
         simp only [twC, List.getElem?_cons_succ, List.getElem?_cons_zero, Nat.add_zero] at p0 p1 p2 p3 q0 q1 q2 q3;clear x1 x2 hc1 hc2 hd hlt2;replace hbw := Lib.hid hbw;go_wp2
         go_quiet (fail)
         go_wp2
         go_roundw
         case rel => exact ⟨i + 1, by omega, by go_num, below_drewN hbw.out _, hnext⟩
         case measure => simp [intOf]; omega
       · replace hd := hd htu
         obtain ⟨op, kids, num, text⟩ := t;obtain ⟨op2, kids2, num2, text2⟩ := u;have p0 := fun n => x1 n 0 (by omega); have p1 := fun n => x1 n 1 (by omega); have p2 := fun n => x1 n 2 (by omega); have p3 := fun n => x1 n 3 (by omega)
         have q0 := fun n => x2 n 0 (by omega); have q1 := fun n => x2 n 1 (by omega); have q2 := fun n => x2 n 2 (by omega); have q3 := fun n => x2 n 3 (by omega)
         simp only [twC, List.getElem?_cons_succ, List.getElem?_cons_zero, Nat.add_zero] at p0 p1 p2 p3 q0 q1 q2 q3;dsimp only at hd;clear x1 x2 hc1 hc2 hlt2 hnext htu;replace hbw := Lib.hid hbw;rcases hd with hd | hd | hd | hd
         all_goals
           go_wp2
           go_quiet (fail)
           go_wp2
           go_ret
           exact ⟨rfl, below_drewN hbw.out _⟩
     · obtain rfl : i = ts.length := by omega
       have h := hsame.out;rw [List.take_length, hL'.out, List.take_length] at h;exact absurd h hne.out
 · have hq : ((ts.length : Int) != (us.length : Int)) = true := bne_iff_ne.2 (by omega)
   clear k1 k2 hne;go_enter Tryz.func10, Tryz.ntmps10
   go_wp2
   go_ret
   exact ⟨rfl, Below.refl _ _⟩
end Go.Proofs.YtjiemkidmlgbeaaGreatDoor
namespace Go.Proofs.YtjiemkidmlgbeaaGreatDoor
open Go.RowKit Go.Shelf Tok
theorem tgIn_cellsL {w : World} {g off : Nat} {ts : List Tg} (hc : ∀ i (hi : i < ts.length) (c : Nat), c < 4 → w.cell? ⟨g, off + i * 4 + c, none⟩ = (tgC ts[i])[c]?) (j : Nat) (u : Value) (h : (rowOf tgC ts)[j]? = some u) : w.cell? ((⟨g, off, none⟩ : Addr).add j) = some u := by
 have hl : j < (rowOf tgC ts).length := (List.getElem?_eq_some_iff.1 h).1;rw [rowOf_length tgC_len] at hl;have hi : j / 4 < ts.length := by omega
 have h1 := hc (j / 4) hi (j % 4) (by omega);have h2 := rowOf_get tgC_len ts (j / 4) (j % 4) hi (by omega);have e : j / 4 * 4 + j % 4 = j := by omega
 rw [e, h] at h2;rw [← h2] at h1;rw [show off + j / 4 * 4 + j % 4 = off + j by omega] at h1;rw [show (⟨g, off, none⟩ : Addr).add j = ⟨g, off + j, none⟩ by simp only [Addr.add]; split <;> simp_all];exact h1
theorem rowOf_oneL {ts : List Tg} : ∀ u ∈ rowOf tgC ts, u.oneCell' = true := by
 intro u hu;obtain ⟨j, hj⟩ := List.getElem?_of_mem hu;have hl : j < (rowOf tgC ts).length := (List.getElem?_eq_some_iff.1 hj).1;rw [rowOf_length tgC_len] at hl;have h2 := rowOf_get tgC_len ts (j / 4) (j % 4) (by omega) (by omega);have e : j / 4 * 4 + j % 4 = j := by omega
 rw [e, hj] at h2;exact tgC_one _ u (List.mem_of_getElem? h2.symm)
theorem wpList_append_tgi {w : World} {base : Nat} {v : Value} {ts us : List Tg} {ops : Array Oper} {rest : List Oper} {o : Oper} {a : Act} {Q : Exit → Act → World → Prop} (hgd : o.guard = none) (s x : Operand)
   (ho : o.op = .call { callee := .builtin .append, args := #[s, x], argTypes := #[37, 37] })
   (hs : a.eval s = v) (hown : TgsAt w base v ts) {ad : Addr} {n cap : Nat} (hx : a.eval x = .slice (some ad) n cap) (hT : TgIn w (.slice (some ad) n cap) us)
   (hk : ts.length ≤ 1000000000) (hk2 : us.length ≤ 1000000000) (hbase : base ≤ w.heap.size)
   (h : ∀ v' w', TgsAt w' base v' (ts ++ us) → Below base w w' → wpList Tryz.prog ops Q rest (a.put o.dst v') w') : wpList Tryz.prog ops Q (o :: rest) a w := by
 obtain ⟨i0, hi, hz0, hz1, hz2⟩ := tk_parts;obtain ⟨ad', cap', e, h1, h2, h3⟩ := hT;cases e
 have hcells : ∀ j u, (rowOf tgC us)[j]? = some u → w.cell? (ad.add j) = some u := by
   intro j u hj;have hl : j < (rowOf tgC us).length := (List.getElem?_eq_some_iff.1 hj).1;rw [rowOf_length tgC_len] at hl;obtain ⟨g, off, e, _, hc⟩ := h3 (by omega);cases e
   exact tgIn_cellsL hc j u hj
 refine wpList_append_own_at _ hgd s x 37 ho base 54 i0 (.agg #[.int .u8 0, .string ⟨#[]⟩, .int .i64 0, .int .i64 0]) 4 40 Tryz.underlying37 hi hz0 hz1 hz2 rfl (by decide) v ts.length (rowOf tgC ts) hs hown ad us.length cap (rowOf tgC us) hx (rowOf_length tgC_len us) hcells rowOf_oneL (by unfold maxLen; omega) (by omega) hbase ?_;intro v' w' h4 h5 _ _;obtain ⟨a', cap, rfl, _⟩ := ownsRow_shape h4;refine h _ w' ?_ ((Below.refl base _).grown h5 hbase (fun k hk => (World.ownsRow.lt hown k hk).1));unfold TgsAt;rw [rowOf_append, List.length_append];exact h4
theorem tgIn_part {w : World} {g off n cap c o m : Nat} {L X Y Z : List Tg} (h : TgIn w (.slice (some ⟨g, off, none⟩) n cap) L) (hL : L = X ++ (Y ++ Z)) (ho : o = off + X.length * 4) (hm : m = Y.length) (h1 : Y.length ≤ c) (h2 : c ≤ 9223372036854775807) : TgIn w (.slice (some ⟨g, o, none⟩) m c) Y := by
 subst ho hm;refine ⟨_, c, rfl, h1, h2, fun h0 => ?_⟩;obtain ⟨a', cap', e, _, _, h3⟩ := h;cases e
 have hlen : L.length = X.length + (Y.length + Z.length) := by rw [hL, List.length_append, List.length_append]
 obtain ⟨g', off', e, hg, hc⟩ := h3 (by omega);cases e
 refine ⟨g, _, rfl, hg, fun i hi c hc' => ?_⟩;have hk := hc (X.length + i) (by omega) c hc';have e : L[X.length + i]'(by omega) = Y[i] := by
   subst hL;rw [List.getElem_append_right (by omega), List.getElem_append_left (by omega)]
   congr 1
   omega
 rw [e] at hk;rw [← hk]
 congr 2
 omega
theorem tgIn_none {w : World} {ad : Option Addr} {c : Nat} (h : c ≤ 9223372036854775807) : TgIn w (.slice ad 0 c) [] := ⟨ad, c, rfl, Nat.zero_le _, h, fun h0 => absurd h0 (by decide)⟩
end Go.Proofs.YtjiemkidmlgbeaaGreatDoor
