/- A part of the proof: IOfW. No condition. -/
import Derived.Test.YtcabolfookofoaaGreatDoorQ05
set_option linter.unusedVariables false
set_option linter.unusedSimpArgs false
namespace Go.Proofs.YtcabolfookofoaaGreatDoor
open Go.RowKit
def wordsS : ByteArray := ⟨#[101, 113, 32, 32, 110, 101, 32, 32, 108, 116, 32, 32, 108, 101, 32, 32, 97, 100, 100, 32, 115, 117, 98, 32, 109, 117, 108, 32, 100, 105, 118, 32, 109, 111, 100, 32, 110, 117, 109, 32, 97, 116, 32, 32, 110, 111, 116, 32, 110, 101, 103, 32, 108, 101, 110, 32, 114, 101, 32, 32, 105, 109, 32, 32, 99, 111, 110, 106]⟩
def strN : Value → Nat
 | .string s => s.size
 | _ => 0
set_option maxRecDepth 20000 in
theorem words_32 (w : World) : Calls Tryz.prog 20 #[.int .u8 32] w fun e w' => e = .returned (.string ⟨#[101, 113]⟩) ∧ w = w' := by
 have h68 : (68 : Int) ≤ wordsS.size := by decide +kernel
 have h69 : 68 ≤ wordsS.size := by decide +kernel
 have he : Hid (wordsS.extract 0 4 = ⟨#[101, 113, 32, 32]⟩) := Lib.hid (by decide +kernel);have x2 : ∀ W, (Instr.index 9 (.string ⟨#[101, 113]⟩) (.int .i64 1)).run Tryz.prog W = .ok (.int .u8 113) W := fun W => by kernel_rfl
 have x3 : ∀ W, (Instr.index 9 (.string ⟨#[101, 113, 32]⟩) (.int .i64 2)).run Tryz.prog W = .ok (.int .u8 32) W := fun W => by kernel_rfl
 have c3 : ∀ W, (Instr.slice 9 (.string ⟨#[101, 113, 32]⟩) none (some (.int .i64 2)) none).run Tryz.prog W = .ok (.string ⟨#[101, 113]⟩) W := fun W => by kernel_rfl
 have x4 : ∀ W, (Instr.index 9 (.string ⟨#[101, 113, 32, 32]⟩) (.int .i64 3)).run Tryz.prog W = .ok (.int .u8 32) W := fun W => by kernel_rfl
 have c4 : ∀ W, (Instr.slice 9 (.string ⟨#[101, 113, 32, 32]⟩) none (some (.int .i64 3)) none).run Tryz.prog W = .ok (.string ⟨#[101, 113, 32]⟩) W := fun W => by kernel_rfl
 have hS : (⟨([101, 113, 32, 32, 110, 101, 32, 32, 108, 116, 32, 32, 108, 101, 32, 32, 97, 100, 100, 32, 115, 117, 98, 32, 109, 117, 108, 32, 100, 105, 118, 32, 109, 111, 100, 32, 110, 117, 109, 32, 97, 116, 32, 32, 110, 111, 116, 32, 110, 101, 103, 32, 108, 101, 110, 32, 114, 101, 32, 32, 105, 109, 32, 32, 99, 111, 110, 106] : List UInt8).toArray⟩ : ByteArray) = wordsS := rfl;go_enter Tryz.func20, Tryz.ntmps20
 go_wp2
 go_loopw [5] (fun t5 wr => (t5 = .string ⟨#[101, 113]⟩ ∨ t5 = .string ⟨#[101, 113, 32]⟩ ∨ t5 = .string ⟨#[101, 113, 32, 32]⟩) ∧ w = wr) (fun t5 _ => strN t5)
 case atStart => exact ⟨by simp [he.out], rfl⟩
 case round =>
   obtain ⟨hor, rfl⟩ := hrel;rcases hor with rfl | rfl | rfl
   · go_wp2
     go_ret
     exact ⟨rfl, rfl⟩
   · go_wp2
     go_roundw
     case rel => exact ⟨by simp, by trivial⟩
     case measure => decide
   · go_wp2
     go_roundw
     case rel => exact ⟨by simp, by trivial⟩
     case measure => decide
set_option maxRecDepth 20000 in
theorem words_33 (w : World) : Calls Tryz.prog 20 #[.int .u8 33] w fun e w' => e = .returned (.string ⟨#[110, 101]⟩) ∧ w = w' := by
 have h68 : (68 : Int) ≤ wordsS.size := by decide +kernel
 have h69 : 68 ≤ wordsS.size := by decide +kernel
 have he : Hid (wordsS.extract 4 8 = ⟨#[110, 101, 32, 32]⟩) := Lib.hid (by decide +kernel);have x2 : ∀ W, (Instr.index 9 (.string ⟨#[110, 101]⟩) (.int .i64 1)).run Tryz.prog W = .ok (.int .u8 101) W := fun W => by kernel_rfl
 have x3 : ∀ W, (Instr.index 9 (.string ⟨#[110, 101, 32]⟩) (.int .i64 2)).run Tryz.prog W = .ok (.int .u8 32) W := fun W => by kernel_rfl
 have c3 : ∀ W, (Instr.slice 9 (.string ⟨#[110, 101, 32]⟩) none (some (.int .i64 2)) none).run Tryz.prog W = .ok (.string ⟨#[110, 101]⟩) W := fun W => by kernel_rfl
 have x4 : ∀ W, (Instr.index 9 (.string ⟨#[110, 101, 32, 32]⟩) (.int .i64 3)).run Tryz.prog W = .ok (.int .u8 32) W := fun W => by kernel_rfl
 have c4 : ∀ W, (Instr.slice 9 (.string ⟨#[110, 101, 32, 32]⟩) none (some (.int .i64 3)) none).run Tryz.prog W = .ok (.string ⟨#[110, 101, 32]⟩) W := fun W => by kernel_rfl
 have hS : (⟨([101, 113, 32, 32, 110, 101, 32, 32, 108, 116, 32, 32, 108, 101, 32, 32, 97, 100, 100, 32, 115, 117, 98, 32, 109, 117, 108, 32, 100, 105, 118, 32, 109, 111, 100, 32, 110, 117, 109, 32, 97, 116, 32, 32, 110, 111, 116, 32, 110, 101, 103, 32, 108, 101, 110, 32, 114, 101, 32, 32, 105, 109, 32, 32, 99, 111, 110, 106] : List UInt8).toArray⟩ : ByteArray) = wordsS := rfl;go_enter Tryz.func20, Tryz.ntmps20
 go_wp2
 go_loopw [5] (fun t5 wr => (t5 = .string ⟨#[110, 101]⟩ ∨ t5 = .string ⟨#[110, 101, 32]⟩ ∨ t5 = .string ⟨#[110, 101, 32, 32]⟩) ∧ w = wr) (fun t5 _ => strN t5)
 case atStart => exact ⟨by simp [he.out], rfl⟩
 case round =>
   obtain ⟨hor, rfl⟩ := hrel;rcases hor with rfl | rfl | rfl
   · go_wp2
     go_ret
     exact ⟨rfl, rfl⟩
   · go_wp2
     go_roundw
     case rel => exact ⟨by simp, by trivial⟩
     case measure => decide
   · go_wp2
     go_roundw
     case rel => exact ⟨by simp, by trivial⟩
     case measure => decide
set_option maxRecDepth 20000 in
theorem words_34 (w : World) : Calls Tryz.prog 20 #[.int .u8 34] w fun e w' => e = .returned (.string ⟨#[108, 116]⟩) ∧ w = w' := by
 have h68 : (68 : Int) ≤ wordsS.size := by decide +kernel
 have h69 : 68 ≤ wordsS.size := by decide +kernel
 have he : Hid (wordsS.extract 8 12 = ⟨#[108, 116, 32, 32]⟩) := Lib.hid (by decide +kernel);have x2 : ∀ W, (Instr.index 9 (.string ⟨#[108, 116]⟩) (.int .i64 1)).run Tryz.prog W = .ok (.int .u8 116) W := fun W => by kernel_rfl
 have x3 : ∀ W, (Instr.index 9 (.string ⟨#[108, 116, 32]⟩) (.int .i64 2)).run Tryz.prog W = .ok (.int .u8 32) W := fun W => by kernel_rfl
 have c3 : ∀ W, (Instr.slice 9 (.string ⟨#[108, 116, 32]⟩) none (some (.int .i64 2)) none).run Tryz.prog W = .ok (.string ⟨#[108, 116]⟩) W := fun W => by kernel_rfl
 have x4 : ∀ W, (Instr.index 9 (.string ⟨#[108, 116, 32, 32]⟩) (.int .i64 3)).run Tryz.prog W = .ok (.int .u8 32) W := fun W => by kernel_rfl
 have c4 : ∀ W, (Instr.slice 9 (.string ⟨#[108, 116, 32, 32]⟩) none (some (.int .i64 3)) none).run Tryz.prog W = .ok (.string ⟨#[108, 116, 32]⟩) W := fun W => by kernel_rfl
 have hS : (⟨([101, 113, 32, 32, 110, 101, 32, 32, 108, 116, 32, 32, 108, 101, 32, 32, 97, 100, 100, 32, 115, 117, 98, 32, 109, 117, 108, 32, 100, 105, 118, 32, 109, 111, 100, 32, 110, 117, 109, 32, 97, 116, 32, 32, 110, 111, 116, 32, 110, 101, 103, 32, 108, 101, 110, 32, 114, 101, 32, 32, 105, 109, 32, 32, 99, 111, 110, 106] : List UInt8).toArray⟩ : ByteArray) = wordsS := rfl;go_enter Tryz.func20, Tryz.ntmps20
 go_wp2
 go_loopw [5] (fun t5 wr => (t5 = .string ⟨#[108, 116]⟩ ∨ t5 = .string ⟨#[108, 116, 32]⟩ ∨ t5 = .string ⟨#[108, 116, 32, 32]⟩) ∧ w = wr) (fun t5 _ => strN t5)
 case atStart => exact ⟨by simp [he.out], rfl⟩
 case round =>
   obtain ⟨hor, rfl⟩ := hrel;rcases hor with rfl | rfl | rfl
   · go_wp2
     go_ret
     exact ⟨rfl, rfl⟩
   · go_wp2
     go_roundw
     case rel => exact ⟨by simp, by trivial⟩
     case measure => decide
   · go_wp2
     go_roundw
     case rel => exact ⟨by simp, by trivial⟩
     case measure => decide
set_option maxRecDepth 20000 in
theorem words_35 (w : World) : Calls Tryz.prog 20 #[.int .u8 35] w fun e w' => e = .returned (.string ⟨#[108, 101]⟩) ∧ w = w' := by
 have h68 : (68 : Int) ≤ wordsS.size := by decide +kernel
 have h69 : 68 ≤ wordsS.size := by decide +kernel
 have he : Hid (wordsS.extract 12 16 = ⟨#[108, 101, 32, 32]⟩) := Lib.hid (by decide +kernel);have x2 : ∀ W, (Instr.index 9 (.string ⟨#[108, 101]⟩) (.int .i64 1)).run Tryz.prog W = .ok (.int .u8 101) W := fun W => by kernel_rfl
 have x3 : ∀ W, (Instr.index 9 (.string ⟨#[108, 101, 32]⟩) (.int .i64 2)).run Tryz.prog W = .ok (.int .u8 32) W := fun W => by kernel_rfl
 have c3 : ∀ W, (Instr.slice 9 (.string ⟨#[108, 101, 32]⟩) none (some (.int .i64 2)) none).run Tryz.prog W = .ok (.string ⟨#[108, 101]⟩) W := fun W => by kernel_rfl
 have x4 : ∀ W, (Instr.index 9 (.string ⟨#[108, 101, 32, 32]⟩) (.int .i64 3)).run Tryz.prog W = .ok (.int .u8 32) W := fun W => by kernel_rfl
 have c4 : ∀ W, (Instr.slice 9 (.string ⟨#[108, 101, 32, 32]⟩) none (some (.int .i64 3)) none).run Tryz.prog W = .ok (.string ⟨#[108, 101, 32]⟩) W := fun W => by kernel_rfl
 have hS : (⟨([101, 113, 32, 32, 110, 101, 32, 32, 108, 116, 32, 32, 108, 101, 32, 32, 97, 100, 100, 32, 115, 117, 98, 32, 109, 117, 108, 32, 100, 105, 118, 32, 109, 111, 100, 32, 110, 117, 109, 32, 97, 116, 32, 32, 110, 111, 116, 32, 110, 101, 103, 32, 108, 101, 110, 32, 114, 101, 32, 32, 105, 109, 32, 32, 99, 111, 110, 106] : List UInt8).toArray⟩ : ByteArray) = wordsS := rfl;go_enter Tryz.func20, Tryz.ntmps20
 go_wp2
 go_loopw [5] (fun t5 wr => (t5 = .string ⟨#[108, 101]⟩ ∨ t5 = .string ⟨#[108, 101, 32]⟩ ∨ t5 = .string ⟨#[108, 101, 32, 32]⟩) ∧ w = wr) (fun t5 _ => strN t5)
 case atStart => exact ⟨by simp [he.out], rfl⟩
 case round =>
   obtain ⟨hor, rfl⟩ := hrel;rcases hor with rfl | rfl | rfl
   · go_wp2
     go_ret
     exact ⟨rfl, rfl⟩
   · go_wp2
     go_roundw
     case rel => exact ⟨by simp, by trivial⟩
     case measure => decide
   · go_wp2
     go_roundw
     case rel => exact ⟨by simp, by trivial⟩
     case measure => decide
set_option maxRecDepth 20000 in
theorem words_36 (w : World) : Calls Tryz.prog 20 #[.int .u8 36] w fun e w' => e = .returned (.string ⟨#[97, 100, 100]⟩) ∧ w = w' := by
 have h68 : (68 : Int) ≤ wordsS.size := by decide +kernel
 have h69 : 68 ≤ wordsS.size := by decide +kernel
 have he : Hid (wordsS.extract 16 20 = ⟨#[97, 100, 100, 32]⟩) := Lib.hid (by decide +kernel);have x3 : ∀ W, (Instr.index 9 (.string ⟨#[97, 100, 100]⟩) (.int .i64 2)).run Tryz.prog W = .ok (.int .u8 100) W := fun W => by kernel_rfl
 have x4 : ∀ W, (Instr.index 9 (.string ⟨#[97, 100, 100, 32]⟩) (.int .i64 3)).run Tryz.prog W = .ok (.int .u8 32) W := fun W => by kernel_rfl
 have c4 : ∀ W, (Instr.slice 9 (.string ⟨#[97, 100, 100, 32]⟩) none (some (.int .i64 3)) none).run Tryz.prog W = .ok (.string ⟨#[97, 100, 100]⟩) W := fun W => by kernel_rfl
 have hS : (⟨([101, 113, 32, 32, 110, 101, 32, 32, 108, 116, 32, 32, 108, 101, 32, 32, 97, 100, 100, 32, 115, 117, 98, 32, 109, 117, 108, 32, 100, 105, 118, 32, 109, 111, 100, 32, 110, 117, 109, 32, 97, 116, 32, 32, 110, 111, 116, 32, 110, 101, 103, 32, 108, 101, 110, 32, 114, 101, 32, 32, 105, 109, 32, 32, 99, 111, 110, 106] : List UInt8).toArray⟩ : ByteArray) = wordsS := rfl;go_enter Tryz.func20, Tryz.ntmps20
 go_wp2
 go_loopw [5] (fun t5 wr => (t5 = .string ⟨#[97, 100, 100]⟩ ∨ t5 = .string ⟨#[97, 100, 100, 32]⟩) ∧ w = wr) (fun t5 _ => strN t5)
 case atStart => exact ⟨by simp [he.out], rfl⟩
 case round =>
   obtain ⟨hor, rfl⟩ := hrel;rcases hor with rfl | rfl
   · go_wp2
     go_ret
     exact ⟨rfl, rfl⟩
   · go_wp2
     go_roundw
     case rel => exact ⟨by simp, by trivial⟩
     case measure => decide
set_option maxRecDepth 20000 in
theorem words_37 (w : World) : Calls Tryz.prog 20 #[.int .u8 37] w fun e w' => e = .returned (.string ⟨#[115, 117, 98]⟩) ∧ w = w' := by
 have h68 : (68 : Int) ≤ wordsS.size := by decide +kernel
 have h69 : 68 ≤ wordsS.size := by decide +kernel
 have he : Hid (wordsS.extract 20 24 = ⟨#[115, 117, 98, 32]⟩) := Lib.hid (by decide +kernel);have x3 : ∀ W, (Instr.index 9 (.string ⟨#[115, 117, 98]⟩) (.int .i64 2)).run Tryz.prog W = .ok (.int .u8 98) W := fun W => by kernel_rfl
 have x4 : ∀ W, (Instr.index 9 (.string ⟨#[115, 117, 98, 32]⟩) (.int .i64 3)).run Tryz.prog W = .ok (.int .u8 32) W := fun W => by kernel_rfl
 have c4 : ∀ W, (Instr.slice 9 (.string ⟨#[115, 117, 98, 32]⟩) none (some (.int .i64 3)) none).run Tryz.prog W = .ok (.string ⟨#[115, 117, 98]⟩) W := fun W => by kernel_rfl
 have hS : (⟨([101, 113, 32, 32, 110, 101, 32, 32, 108, 116, 32, 32, 108, 101, 32, 32, 97, 100, 100, 32, 115, 117, 98, 32, 109, 117, 108, 32, 100, 105, 118, 32, 109, 111, 100, 32, 110, 117, 109, 32, 97, 116, 32, 32, 110, 111, 116, 32, 110, 101, 103, 32, 108, 101, 110, 32, 114, 101, 32, 32, 105, 109, 32, 32, 99, 111, 110, 106] : List UInt8).toArray⟩ : ByteArray) = wordsS := rfl;go_enter Tryz.func20, Tryz.ntmps20
 go_wp2
 go_loopw [5] (fun t5 wr => (t5 = .string ⟨#[115, 117, 98]⟩ ∨ t5 = .string ⟨#[115, 117, 98, 32]⟩) ∧ w = wr) (fun t5 _ => strN t5)
 case atStart => exact ⟨by simp [he.out], rfl⟩
 case round =>
   obtain ⟨hor, rfl⟩ := hrel;rcases hor with rfl | rfl
   · go_wp2
     go_ret
     exact ⟨rfl, rfl⟩
   · go_wp2
     go_roundw
     case rel => exact ⟨by simp, by trivial⟩
     case measure => decide
set_option maxRecDepth 20000 in
theorem words_38 (w : World) : Calls Tryz.prog 20 #[.int .u8 38] w fun e w' => e = .returned (.string ⟨#[109, 117, 108]⟩) ∧ w = w' := by
 have h68 : (68 : Int) ≤ wordsS.size := by decide +kernel
 have h69 : 68 ≤ wordsS.size := by decide +kernel
 have he : Hid (wordsS.extract 24 28 = ⟨#[109, 117, 108, 32]⟩) := Lib.hid (by decide +kernel);have x3 : ∀ W, (Instr.index 9 (.string ⟨#[109, 117, 108]⟩) (.int .i64 2)).run Tryz.prog W = .ok (.int .u8 108) W := fun W => by kernel_rfl
 have x4 : ∀ W, (Instr.index 9 (.string ⟨#[109, 117, 108, 32]⟩) (.int .i64 3)).run Tryz.prog W = .ok (.int .u8 32) W := fun W => by kernel_rfl
 have c4 : ∀ W, (Instr.slice 9 (.string ⟨#[109, 117, 108, 32]⟩) none (some (.int .i64 3)) none).run Tryz.prog W = .ok (.string ⟨#[109, 117, 108]⟩) W := fun W => by kernel_rfl
 have hS : (⟨([101, 113, 32, 32, 110, 101, 32, 32, 108, 116, 32, 32, 108, 101, 32, 32, 97, 100, 100, 32, 115, 117, 98, 32, 109, 117, 108, 32, 100, 105, 118, 32, 109, 111, 100, 32, 110, 117, 109, 32, 97, 116, 32, 32, 110, 111, 116, 32, 110, 101, 103, 32, 108, 101, 110, 32, 114, 101, 32, 32, 105, 109, 32, 32, 99, 111, 110, 106] : List UInt8).toArray⟩ : ByteArray) = wordsS := rfl;go_enter Tryz.func20, Tryz.ntmps20
 go_wp2
 go_loopw [5] (fun t5 wr => (t5 = .string ⟨#[109, 117, 108]⟩ ∨ t5 = .string ⟨#[109, 117, 108, 32]⟩) ∧ w = wr) (fun t5 _ => strN t5)
 case atStart => exact ⟨by simp [he.out], rfl⟩
 case round =>
   obtain ⟨hor, rfl⟩ := hrel;rcases hor with rfl | rfl
   · go_wp2
     go_ret
     exact ⟨rfl, rfl⟩
   · go_wp2
     go_roundw
     case rel => exact ⟨by simp, by trivial⟩
     case measure => decide
set_option maxRecDepth 20000 in
theorem words_39 (w : World) : Calls Tryz.prog 20 #[.int .u8 39] w fun e w' => e = .returned (.string ⟨#[100, 105, 118]⟩) ∧ w = w' := by
 have h68 : (68 : Int) ≤ wordsS.size := by decide +kernel
 have h69 : 68 ≤ wordsS.size := by decide +kernel
 have he : Hid (wordsS.extract 28 32 = ⟨#[100, 105, 118, 32]⟩) := Lib.hid (by decide +kernel);have x3 : ∀ W, (Instr.index 9 (.string ⟨#[100, 105, 118]⟩) (.int .i64 2)).run Tryz.prog W = .ok (.int .u8 118) W := fun W => by kernel_rfl
 have x4 : ∀ W, (Instr.index 9 (.string ⟨#[100, 105, 118, 32]⟩) (.int .i64 3)).run Tryz.prog W = .ok (.int .u8 32) W := fun W => by kernel_rfl
 have c4 : ∀ W, (Instr.slice 9 (.string ⟨#[100, 105, 118, 32]⟩) none (some (.int .i64 3)) none).run Tryz.prog W = .ok (.string ⟨#[100, 105, 118]⟩) W := fun W => by kernel_rfl
 have hS : (⟨([101, 113, 32, 32, 110, 101, 32, 32, 108, 116, 32, 32, 108, 101, 32, 32, 97, 100, 100, 32, 115, 117, 98, 32, 109, 117, 108, 32, 100, 105, 118, 32, 109, 111, 100, 32, 110, 117, 109, 32, 97, 116, 32, 32, 110, 111, 116, 32, 110, 101, 103, 32, 108, 101, 110, 32, 114, 101, 32, 32, 105, 109, 32, 32, 99, 111, 110, 106] : List UInt8).toArray⟩ : ByteArray) = wordsS := rfl;go_enter Tryz.func20, Tryz.ntmps20
 go_wp2
 go_loopw [5] (fun t5 wr => (t5 = .string ⟨#[100, 105, 118]⟩ ∨ t5 = .string ⟨#[100, 105, 118, 32]⟩) ∧ w = wr) (fun t5 _ => strN t5)
 case atStart => exact ⟨by simp [he.out], rfl⟩
 case round =>
   obtain ⟨hor, rfl⟩ := hrel;rcases hor with rfl | rfl
   · go_wp2
     go_ret
     exact ⟨rfl, rfl⟩
   · go_wp2
     go_roundw
     case rel => exact ⟨by simp, by trivial⟩
     case measure => decide
set_option maxRecDepth 20000 in
theorem words_40 (w : World) : Calls Tryz.prog 20 #[.int .u8 40] w fun e w' => e = .returned (.string ⟨#[109, 111, 100]⟩) ∧ w = w' := by
 have h68 : (68 : Int) ≤ wordsS.size := by decide +kernel
 have h69 : 68 ≤ wordsS.size := by decide +kernel
 have he : Hid (wordsS.extract 32 36 = ⟨#[109, 111, 100, 32]⟩) := Lib.hid (by decide +kernel);have x3 : ∀ W, (Instr.index 9 (.string ⟨#[109, 111, 100]⟩) (.int .i64 2)).run Tryz.prog W = .ok (.int .u8 100) W := fun W => by kernel_rfl
 have x4 : ∀ W, (Instr.index 9 (.string ⟨#[109, 111, 100, 32]⟩) (.int .i64 3)).run Tryz.prog W = .ok (.int .u8 32) W := fun W => by kernel_rfl
 have c4 : ∀ W, (Instr.slice 9 (.string ⟨#[109, 111, 100, 32]⟩) none (some (.int .i64 3)) none).run Tryz.prog W = .ok (.string ⟨#[109, 111, 100]⟩) W := fun W => by kernel_rfl
 have hS : (⟨([101, 113, 32, 32, 110, 101, 32, 32, 108, 116, 32, 32, 108, 101, 32, 32, 97, 100, 100, 32, 115, 117, 98, 32, 109, 117, 108, 32, 100, 105, 118, 32, 109, 111, 100, 32, 110, 117, 109, 32, 97, 116, 32, 32, 110, 111, 116, 32, 110, 101, 103, 32, 108, 101, 110, 32, 114, 101, 32, 32, 105, 109, 32, 32, 99, 111, 110, 106] : List UInt8).toArray⟩ : ByteArray) = wordsS := rfl;go_enter Tryz.func20, Tryz.ntmps20
 go_wp2
 go_loopw [5] (fun t5 wr => (t5 = .string ⟨#[109, 111, 100]⟩ ∨ t5 = .string ⟨#[109, 111, 100, 32]⟩) ∧ w = wr) (fun t5 _ => strN t5)
 case atStart => exact ⟨by simp [he.out], rfl⟩
 case round =>
   obtain ⟨hor, rfl⟩ := hrel;rcases hor with rfl | rfl
   · go_wp2
     go_ret
     exact ⟨rfl, rfl⟩
   · go_wp2
     go_roundw
     case rel => exact ⟨by simp, by trivial⟩
     case measure => decide
set_option maxRecDepth 20000 in
theorem words_41 (w : World) : Calls Tryz.prog 20 #[.int .u8 41] w fun e w' => e = .returned (.string ⟨#[110, 117, 109]⟩) ∧ w = w' := by
 have h68 : (68 : Int) ≤ wordsS.size := by decide +kernel
 have h69 : 68 ≤ wordsS.size := by decide +kernel
 have he : Hid (wordsS.extract 36 40 = ⟨#[110, 117, 109, 32]⟩) := Lib.hid (by decide +kernel);have x3 : ∀ W, (Instr.index 9 (.string ⟨#[110, 117, 109]⟩) (.int .i64 2)).run Tryz.prog W = .ok (.int .u8 109) W := fun W => by kernel_rfl
 have x4 : ∀ W, (Instr.index 9 (.string ⟨#[110, 117, 109, 32]⟩) (.int .i64 3)).run Tryz.prog W = .ok (.int .u8 32) W := fun W => by kernel_rfl
 have c4 : ∀ W, (Instr.slice 9 (.string ⟨#[110, 117, 109, 32]⟩) none (some (.int .i64 3)) none).run Tryz.prog W = .ok (.string ⟨#[110, 117, 109]⟩) W := fun W => by kernel_rfl
 have hS : (⟨([101, 113, 32, 32, 110, 101, 32, 32, 108, 116, 32, 32, 108, 101, 32, 32, 97, 100, 100, 32, 115, 117, 98, 32, 109, 117, 108, 32, 100, 105, 118, 32, 109, 111, 100, 32, 110, 117, 109, 32, 97, 116, 32, 32, 110, 111, 116, 32, 110, 101, 103, 32, 108, 101, 110, 32, 114, 101, 32, 32, 105, 109, 32, 32, 99, 111, 110, 106] : List UInt8).toArray⟩ : ByteArray) = wordsS := rfl;go_enter Tryz.func20, Tryz.ntmps20
 go_wp2
 go_loopw [5] (fun t5 wr => (t5 = .string ⟨#[110, 117, 109]⟩ ∨ t5 = .string ⟨#[110, 117, 109, 32]⟩) ∧ w = wr) (fun t5 _ => strN t5)
 case atStart => exact ⟨by simp [he.out], rfl⟩
 case round =>
   obtain ⟨hor, rfl⟩ := hrel;rcases hor with rfl | rfl
   · go_wp2
     go_ret
     exact ⟨rfl, rfl⟩
   · go_wp2
     go_roundw
     case rel => exact ⟨by simp, by trivial⟩
     case measure => decide
set_option maxRecDepth 20000 in
theorem words_42 (w : World) : Calls Tryz.prog 20 #[.int .u8 42] w fun e w' => e = .returned (.string ⟨#[97, 116]⟩) ∧ w = w' := by
 have h68 : (68 : Int) ≤ wordsS.size := by decide +kernel
 have h69 : 68 ≤ wordsS.size := by decide +kernel
 have he : Hid (wordsS.extract 40 44 = ⟨#[97, 116, 32, 32]⟩) := Lib.hid (by decide +kernel);have x2 : ∀ W, (Instr.index 9 (.string ⟨#[97, 116]⟩) (.int .i64 1)).run Tryz.prog W = .ok (.int .u8 116) W := fun W => by kernel_rfl
 have x3 : ∀ W, (Instr.index 9 (.string ⟨#[97, 116, 32]⟩) (.int .i64 2)).run Tryz.prog W = .ok (.int .u8 32) W := fun W => by kernel_rfl
 have c3 : ∀ W, (Instr.slice 9 (.string ⟨#[97, 116, 32]⟩) none (some (.int .i64 2)) none).run Tryz.prog W = .ok (.string ⟨#[97, 116]⟩) W := fun W => by kernel_rfl
 have x4 : ∀ W, (Instr.index 9 (.string ⟨#[97, 116, 32, 32]⟩) (.int .i64 3)).run Tryz.prog W = .ok (.int .u8 32) W := fun W => by kernel_rfl
 have c4 : ∀ W, (Instr.slice 9 (.string ⟨#[97, 116, 32, 32]⟩) none (some (.int .i64 3)) none).run Tryz.prog W = .ok (.string ⟨#[97, 116, 32]⟩) W := fun W => by kernel_rfl
 have hS : (⟨([101, 113, 32, 32, 110, 101, 32, 32, 108, 116, 32, 32, 108, 101, 32, 32, 97, 100, 100, 32, 115, 117, 98, 32, 109, 117, 108, 32, 100, 105, 118, 32, 109, 111, 100, 32, 110, 117, 109, 32, 97, 116, 32, 32, 110, 111, 116, 32, 110, 101, 103, 32, 108, 101, 110, 32, 114, 101, 32, 32, 105, 109, 32, 32, 99, 111, 110, 106] : List UInt8).toArray⟩ : ByteArray) = wordsS := rfl;go_enter Tryz.func20, Tryz.ntmps20
 go_wp2
 go_loopw [5] (fun t5 wr => (t5 = .string ⟨#[97, 116]⟩ ∨ t5 = .string ⟨#[97, 116, 32]⟩ ∨ t5 = .string ⟨#[97, 116, 32, 32]⟩) ∧ w = wr) (fun t5 _ => strN t5)
 case atStart => exact ⟨by simp [he.out], rfl⟩
 case round =>
   obtain ⟨hor, rfl⟩ := hrel;rcases hor with rfl | rfl | rfl
   · go_wp2
     go_ret
     exact ⟨rfl, rfl⟩
   · go_wp2
     go_roundw
     case rel => exact ⟨by simp, by trivial⟩
     case measure => decide
   · go_wp2
     go_roundw
     case rel => exact ⟨by simp, by trivial⟩
     case measure => decide
set_option maxRecDepth 20000 in
theorem words_43 (w : World) : Calls Tryz.prog 20 #[.int .u8 43] w fun e w' => e = .returned (.string ⟨#[110, 111, 116]⟩) ∧ w = w' := by
 have h68 : (68 : Int) ≤ wordsS.size := by decide +kernel
 have h69 : 68 ≤ wordsS.size := by decide +kernel
 have he : Hid (wordsS.extract 44 48 = ⟨#[110, 111, 116, 32]⟩) := Lib.hid (by decide +kernel);have x3 : ∀ W, (Instr.index 9 (.string ⟨#[110, 111, 116]⟩) (.int .i64 2)).run Tryz.prog W = .ok (.int .u8 116) W := fun W => by kernel_rfl
 have x4 : ∀ W, (Instr.index 9 (.string ⟨#[110, 111, 116, 32]⟩) (.int .i64 3)).run Tryz.prog W = .ok (.int .u8 32) W := fun W => by kernel_rfl
 have c4 : ∀ W, (Instr.slice 9 (.string ⟨#[110, 111, 116, 32]⟩) none (some (.int .i64 3)) none).run Tryz.prog W = .ok (.string ⟨#[110, 111, 116]⟩) W := fun W => by kernel_rfl
 have hS : (⟨([101, 113, 32, 32, 110, 101, 32, 32, 108, 116, 32, 32, 108, 101, 32, 32, 97, 100, 100, 32, 115, 117, 98, 32, 109, 117, 108, 32, 100, 105, 118, 32, 109, 111, 100, 32, 110, 117, 109, 32, 97, 116, 32, 32, 110, 111, 116, 32, 110, 101, 103, 32, 108, 101, 110, 32, 114, 101, 32, 32, 105, 109, 32, 32, 99, 111, 110, 106] : List UInt8).toArray⟩ : ByteArray) = wordsS := rfl;go_enter Tryz.func20, Tryz.ntmps20
 go_wp2
 go_loopw [5] (fun t5 wr => (t5 = .string ⟨#[110, 111, 116]⟩ ∨ t5 = .string ⟨#[110, 111, 116, 32]⟩) ∧ w = wr) (fun t5 _ => strN t5)
 case atStart => exact ⟨by simp [he.out], rfl⟩
 case round =>
   obtain ⟨hor, rfl⟩ := hrel;rcases hor with rfl | rfl
   · go_wp2
     go_ret
     exact ⟨rfl, rfl⟩
   · go_wp2
     go_roundw
     case rel => exact ⟨by simp, by trivial⟩
     case measure => decide
set_option maxRecDepth 20000 in
theorem words_44 (w : World) : Calls Tryz.prog 20 #[.int .u8 44] w fun e w' => e = .returned (.string ⟨#[110, 101, 103]⟩) ∧ w = w' := by
 have h68 : (68 : Int) ≤ wordsS.size := by decide +kernel
 have h69 : 68 ≤ wordsS.size := by decide +kernel
 have he : Hid (wordsS.extract 48 52 = ⟨#[110, 101, 103, 32]⟩) := Lib.hid (by decide +kernel);have x3 : ∀ W, (Instr.index 9 (.string ⟨#[110, 101, 103]⟩) (.int .i64 2)).run Tryz.prog W = .ok (.int .u8 103) W := fun W => by kernel_rfl
 have x4 : ∀ W, (Instr.index 9 (.string ⟨#[110, 101, 103, 32]⟩) (.int .i64 3)).run Tryz.prog W = .ok (.int .u8 32) W := fun W => by kernel_rfl
 have c4 : ∀ W, (Instr.slice 9 (.string ⟨#[110, 101, 103, 32]⟩) none (some (.int .i64 3)) none).run Tryz.prog W = .ok (.string ⟨#[110, 101, 103]⟩) W := fun W => by kernel_rfl
 have hS : (⟨([101, 113, 32, 32, 110, 101, 32, 32, 108, 116, 32, 32, 108, 101, 32, 32, 97, 100, 100, 32, 115, 117, 98, 32, 109, 117, 108, 32, 100, 105, 118, 32, 109, 111, 100, 32, 110, 117, 109, 32, 97, 116, 32, 32, 110, 111, 116, 32, 110, 101, 103, 32, 108, 101, 110, 32, 114, 101, 32, 32, 105, 109, 32, 32, 99, 111, 110, 106] : List UInt8).toArray⟩ : ByteArray) = wordsS := rfl;go_enter Tryz.func20, Tryz.ntmps20
 go_wp2
 go_loopw [5] (fun t5 wr => (t5 = .string ⟨#[110, 101, 103]⟩ ∨ t5 = .string ⟨#[110, 101, 103, 32]⟩) ∧ w = wr) (fun t5 _ => strN t5)
 case atStart => exact ⟨by simp [he.out], rfl⟩
 case round =>
   obtain ⟨hor, rfl⟩ := hrel;rcases hor with rfl | rfl
   · go_wp2
     go_ret
     exact ⟨rfl, rfl⟩
   · go_wp2
     go_roundw
     case rel => exact ⟨by simp, by trivial⟩
     case measure => decide
set_option maxRecDepth 20000 in
theorem words_45 (w : World) : Calls Tryz.prog 20 #[.int .u8 45] w fun e w' => e = .returned (.string ⟨#[108, 101, 110]⟩) ∧ w = w' := by
 have h68 : (68 : Int) ≤ wordsS.size := by decide +kernel
 have h69 : 68 ≤ wordsS.size := by decide +kernel
 have he : Hid (wordsS.extract 52 56 = ⟨#[108, 101, 110, 32]⟩) := Lib.hid (by decide +kernel);have x3 : ∀ W, (Instr.index 9 (.string ⟨#[108, 101, 110]⟩) (.int .i64 2)).run Tryz.prog W = .ok (.int .u8 110) W := fun W => by kernel_rfl
 have x4 : ∀ W, (Instr.index 9 (.string ⟨#[108, 101, 110, 32]⟩) (.int .i64 3)).run Tryz.prog W = .ok (.int .u8 32) W := fun W => by kernel_rfl
 have c4 : ∀ W, (Instr.slice 9 (.string ⟨#[108, 101, 110, 32]⟩) none (some (.int .i64 3)) none).run Tryz.prog W = .ok (.string ⟨#[108, 101, 110]⟩) W := fun W => by kernel_rfl
 have hS : (⟨([101, 113, 32, 32, 110, 101, 32, 32, 108, 116, 32, 32, 108, 101, 32, 32, 97, 100, 100, 32, 115, 117, 98, 32, 109, 117, 108, 32, 100, 105, 118, 32, 109, 111, 100, 32, 110, 117, 109, 32, 97, 116, 32, 32, 110, 111, 116, 32, 110, 101, 103, 32, 108, 101, 110, 32, 114, 101, 32, 32, 105, 109, 32, 32, 99, 111, 110, 106] : List UInt8).toArray⟩ : ByteArray) = wordsS := rfl;go_enter Tryz.func20, Tryz.ntmps20
 go_wp2
 go_loopw [5] (fun t5 wr => (t5 = .string ⟨#[108, 101, 110]⟩ ∨ t5 = .string ⟨#[108, 101, 110, 32]⟩) ∧ w = wr) (fun t5 _ => strN t5)
 case atStart => exact ⟨by simp [he.out], rfl⟩
 case round =>
   obtain ⟨hor, rfl⟩ := hrel;rcases hor with rfl | rfl
   · go_wp2
     go_ret
     exact ⟨rfl, rfl⟩
   · go_wp2
     go_roundw
     case rel => exact ⟨by simp, by trivial⟩
     case measure => decide
set_option maxRecDepth 20000 in
theorem words_46 (w : World) : Calls Tryz.prog 20 #[.int .u8 46] w fun e w' => e = .returned (.string ⟨#[114, 101]⟩) ∧ w = w' := by
 have h68 : (68 : Int) ≤ wordsS.size := by decide +kernel
 have h69 : 68 ≤ wordsS.size := by decide +kernel
 have he : Hid (wordsS.extract 56 60 = ⟨#[114, 101, 32, 32]⟩) := Lib.hid (by decide +kernel);have x2 : ∀ W, (Instr.index 9 (.string ⟨#[114, 101]⟩) (.int .i64 1)).run Tryz.prog W = .ok (.int .u8 101) W := fun W => by kernel_rfl
 have x3 : ∀ W, (Instr.index 9 (.string ⟨#[114, 101, 32]⟩) (.int .i64 2)).run Tryz.prog W = .ok (.int .u8 32) W := fun W => by kernel_rfl
 have c3 : ∀ W, (Instr.slice 9 (.string ⟨#[114, 101, 32]⟩) none (some (.int .i64 2)) none).run Tryz.prog W = .ok (.string ⟨#[114, 101]⟩) W := fun W => by kernel_rfl
 have x4 : ∀ W, (Instr.index 9 (.string ⟨#[114, 101, 32, 32]⟩) (.int .i64 3)).run Tryz.prog W = .ok (.int .u8 32) W := fun W => by kernel_rfl
 have c4 : ∀ W, (Instr.slice 9 (.string ⟨#[114, 101, 32, 32]⟩) none (some (.int .i64 3)) none).run Tryz.prog W = .ok (.string ⟨#[114, 101, 32]⟩) W := fun W => by kernel_rfl
 have hS : (⟨([101, 113, 32, 32, 110, 101, 32, 32, 108, 116, 32, 32, 108, 101, 32, 32, 97, 100, 100, 32, 115, 117, 98, 32, 109, 117, 108, 32, 100, 105, 118, 32, 109, 111, 100, 32, 110, 117, 109, 32, 97, 116, 32, 32, 110, 111, 116, 32, 110, 101, 103, 32, 108, 101, 110, 32, 114, 101, 32, 32, 105, 109, 32, 32, 99, 111, 110, 106] : List UInt8).toArray⟩ : ByteArray) = wordsS := rfl;go_enter Tryz.func20, Tryz.ntmps20
 go_wp2
 go_loopw [5] (fun t5 wr => (t5 = .string ⟨#[114, 101]⟩ ∨ t5 = .string ⟨#[114, 101, 32]⟩ ∨ t5 = .string ⟨#[114, 101, 32, 32]⟩) ∧ w = wr) (fun t5 _ => strN t5)
 case atStart => exact ⟨by simp [he.out], rfl⟩
 case round =>
   obtain ⟨hor, rfl⟩ := hrel;rcases hor with rfl | rfl | rfl
   · go_wp2
     go_ret
     exact ⟨rfl, rfl⟩
   · go_wp2
     go_roundw
     case rel => exact ⟨by simp, by trivial⟩
     case measure => decide
   · go_wp2
     go_roundw
     case rel => exact ⟨by simp, by trivial⟩
     case measure => decide
set_option maxRecDepth 20000 in
theorem words_47 (w : World) : Calls Tryz.prog 20 #[.int .u8 47] w fun e w' => e = .returned (.string ⟨#[105, 109]⟩) ∧ w = w' := by
 have h68 : (68 : Int) ≤ wordsS.size := by decide +kernel
 have h69 : 68 ≤ wordsS.size := by decide +kernel
 have he : Hid (wordsS.extract 60 64 = ⟨#[105, 109, 32, 32]⟩) := Lib.hid (by decide +kernel);have x2 : ∀ W, (Instr.index 9 (.string ⟨#[105, 109]⟩) (.int .i64 1)).run Tryz.prog W = .ok (.int .u8 109) W := fun W => by kernel_rfl
 have x3 : ∀ W, (Instr.index 9 (.string ⟨#[105, 109, 32]⟩) (.int .i64 2)).run Tryz.prog W = .ok (.int .u8 32) W := fun W => by kernel_rfl
 have c3 : ∀ W, (Instr.slice 9 (.string ⟨#[105, 109, 32]⟩) none (some (.int .i64 2)) none).run Tryz.prog W = .ok (.string ⟨#[105, 109]⟩) W := fun W => by kernel_rfl
 have x4 : ∀ W, (Instr.index 9 (.string ⟨#[105, 109, 32, 32]⟩) (.int .i64 3)).run Tryz.prog W = .ok (.int .u8 32) W := fun W => by kernel_rfl
 have c4 : ∀ W, (Instr.slice 9 (.string ⟨#[105, 109, 32, 32]⟩) none (some (.int .i64 3)) none).run Tryz.prog W = .ok (.string ⟨#[105, 109, 32]⟩) W := fun W => by kernel_rfl
 have hS : (⟨([101, 113, 32, 32, 110, 101, 32, 32, 108, 116, 32, 32, 108, 101, 32, 32, 97, 100, 100, 32, 115, 117, 98, 32, 109, 117, 108, 32, 100, 105, 118, 32, 109, 111, 100, 32, 110, 117, 109, 32, 97, 116, 32, 32, 110, 111, 116, 32, 110, 101, 103, 32, 108, 101, 110, 32, 114, 101, 32, 32, 105, 109, 32, 32, 99, 111, 110, 106] : List UInt8).toArray⟩ : ByteArray) = wordsS := rfl;go_enter Tryz.func20, Tryz.ntmps20
 go_wp2
 go_loopw [5] (fun t5 wr => (t5 = .string ⟨#[105, 109]⟩ ∨ t5 = .string ⟨#[105, 109, 32]⟩ ∨ t5 = .string ⟨#[105, 109, 32, 32]⟩) ∧ w = wr) (fun t5 _ => strN t5)
 case atStart => exact ⟨by simp [he.out], rfl⟩
 case round =>
   obtain ⟨hor, rfl⟩ := hrel;rcases hor with rfl | rfl | rfl
   · go_wp2
     go_ret
     exact ⟨rfl, rfl⟩
   · go_wp2
     go_roundw
     case rel => exact ⟨by simp, by trivial⟩
     case measure => decide
   · go_wp2
     go_roundw
     case rel => exact ⟨by simp, by trivial⟩
     case measure => decide
set_option maxRecDepth 20000 in
theorem words_48 (w : World) : Calls Tryz.prog 20 #[.int .u8 48] w fun e w' => e = .returned (.string ⟨#[99, 111, 110, 106]⟩) ∧ w = w' := by
 have h68 : (68 : Int) ≤ wordsS.size := by decide +kernel
 have h69 : 68 ≤ wordsS.size := by decide +kernel
 have he : Hid (wordsS.extract 64 68 = ⟨#[99, 111, 110, 106]⟩) := Lib.hid (by decide +kernel);have x4 : ∀ W, (Instr.index 9 (.string ⟨#[99, 111, 110, 106]⟩) (.int .i64 3)).run Tryz.prog W = .ok (.int .u8 106) W := fun W => by kernel_rfl
 have hS : (⟨([101, 113, 32, 32, 110, 101, 32, 32, 108, 116, 32, 32, 108, 101, 32, 32, 97, 100, 100, 32, 115, 117, 98, 32, 109, 117, 108, 32, 100, 105, 118, 32, 109, 111, 100, 32, 110, 117, 109, 32, 97, 116, 32, 32, 110, 111, 116, 32, 110, 101, 103, 32, 108, 101, 110, 32, 114, 101, 32, 32, 105, 109, 32, 32, 99, 111, 110, 106] : List UInt8).toArray⟩ : ByteArray) = wordsS := rfl;go_enter Tryz.func20, Tryz.ntmps20
 go_wp2
 go_loopw [5] (fun t5 wr => (t5 = .string ⟨#[99, 111, 110, 106]⟩) ∧ w = wr) (fun t5 _ => strN t5)
 case atStart => exact ⟨by simp [he.out], rfl⟩
 case round =>
   obtain ⟨hor, rfl⟩ := hrel;subst hor;go_wp2
   go_ret
   exact ⟨rfl, rfl⟩
theorem words_any (op : Nat) (h1 : 32 ≤ op) (h2 : op ≤ 48) (w : World) : Calls Tryz.prog 20 #[.int .u8 op] w fun e w' => e = .returned (.string ⟨(wordI op).toArray⟩) ∧ w = w' := by
 have h : op = 32 ∨ op = 33 ∨ op = 34 ∨ op = 35 ∨ op = 36 ∨ op = 37 ∨ op = 38 ∨ op = 39 ∨ op = 40 ∨ op = 41 ∨ op = 42 ∨ op = 43 ∨ op = 44 ∨ op = 45 ∨ op = 46 ∨ op = 47 ∨ op = 48 := by omega
 rcases h with rfl | rfl | rfl | rfl | rfl | rfl | rfl | rfl | rfl | rfl | rfl | rfl | rfl | rfl | rfl | rfl | rfl
 · exact words_32 w
 · exact words_33 w
 · exact words_34 w
 · exact words_35 w
 · exact words_36 w
 · exact words_37 w
 · exact words_38 w
 · exact words_39 w
 · exact words_40 w
 · exact words_41 w
 · exact words_42 w
 · exact words_43 w
 · exact words_44 w
 · exact words_45 w
 · exact words_46 w
 · exact words_47 w
 · exact words_48 w
end Go.Proofs.YtcabolfookofoaaGreatDoor
