/- Plain: the instructions of the machine (layer 14), their table, which are right, and how deep the stack is. No condition. -/
import Derived.Test.YtefijbpbenmbgaaDoorNum
import Derived.Test.YtefijbpbenmbgaaDoorNm
namespace Go.Proofs.YtefijbpbenmbgaaDoor
open Go.RowKit

/-- An instruction. -/
structure Ins where
  op : Nat
  a : Int
  num : Int
  text : List UInt8
  deriving DecidableEq
/-- The words, each at its number. -/
def wordL : List (List UInt8) := [[], [106, 117, 109, 112], [98, 114, 97, 110, 99, 104], [111, 114], [97, 110, 100], [98, 111, 111, 108], [100, 114, 111, 112], [], [114, 101, 116, 117, 114, 110], [102, 97, 105, 108], [115, 108, 101, 101, 112], [], [], [], [], [], [], [], [], [], [110, 111, 110, 101], [116, 114, 117, 101], [102, 97, 108, 115, 101], [105, 110, 116], [116, 101, 120, 116], [108, 105, 115, 116], [108, 111, 97, 100], [115, 116, 111, 114, 101], [101, 110, 100], [], [], [], [101, 113], [110, 101], [108, 116], [108, 101], [97, 100, 100], [115, 117, 98], [109, 117, 108], [100, 105, 118], [109, 111, 100], [110, 117, 109], [97, 116], [110, 111, 116], [110, 101, 103], [108, 101, 110], [114, 101], [105, 109], [99, 111, 110, 106], [], [99, 97, 108, 108], [99, 104, 105, 108, 100], [116, 105, 109, 101, 114], [102, 111, 114, 107], [97, 119, 97, 105, 116], [115, 101, 116, 116, 108, 101], [116, 97, 107, 101], [118, 101, 114, 115, 105, 111, 110]]
def wordI (op : Nat) : List UInt8 := wordL.getD op []
/-- What A is: 0 nothing, 1 a target, 2 a slot, 3 a count. -/
def akI (op : Nat) : Nat := if op = 1 ∨ op = 2 ∨ op = 3 ∨ op = 4 ∨ op = 53 then 1 else if op = 26 ∨ op = 27 then 2 else if op = 25 ∨ op = 50 ∨ op = 51 then 3 else 0
def nameI (op : Nat) : Bool := op == 50 || op == 51 || op == 56
/-- How many are taken, where that does not hang on A. -/
def takesR (op : Nat) : Nat := if (32 ≤ op ∧ op ≤ 42) then 2 else if op = 2 ∨ op = 3 ∨ op = 4 ∨ op = 5 ∨ op = 6 ∨ op = 8 ∨ op = 9 ∨ op = 10 ∨ op = 27 ∨ (43 ≤ op ∧ op ≤ 48) ∨ op = 52 ∨ op = 54 ∨ op = 55 then 1 else 0
def leaveR (op : Nat) : Nat := if op = 5 ∨ (20 ≤ op ∧ op ≤ 26) ∨ (32 ≤ op ∧ op ≤ 48) ∨ (50 ≤ op ∧ op ≤ 57) then 1 else 0
def takesI (x : Ins) : Int := if akI x.op = 3 then x.a else takesR x.op
def endsI (op : Nat) : Bool := op == 8 || op == 9 || op == 28
/-- The depths at the next place and at the target. -/
def nextI (x : Ins) (d : Int) : Int := d - takesI x + leaveR x.op
def thereI (x : Ins) (d : Int) : Int := if x.op = 53 then 0 else if x.op = 3 ∨ x.op = 4 then d else nextI x d
/-- Which instructions are right, in code of so many. -/
def aOK (k : Nat) (n : Int) (a : Int) : Bool := if k = 1 then decide (0 ≤ a ∧ a < n) else if k = 2 then decide (0 ≤ a ∧ a < 100) else if k = 3 then decide (0 ≤ a ∧ a ≤ 2048) else decide (a = 0)
def txOK (op : Nat) (s : List UInt8) : Bool := if op = 24 then decide (s.length ≤ 4095) else if nameI op then nameL s else decide (s = [])
def rightI (x : Ins) (n : Int) : Bool := decide (wordI x.op ≠ []) && aOK (akI x.op) n x.a && (decide (x.num = 0) || x.op == 23) && txOK x.op x.text
def inAt (code : List Ins) (p : Nat) : Ins := code.getD p ⟨0, 0, 0, []⟩
/-- The first that is not right. -/
def badI (code : List Ins) : Option Nat := code.findIdx? (fun x => !rightI x code.length)
/-- A place is met with a depth. -/
def meetI (d : List Int) (q : Nat) (v : Int) : Option (List Int) := if d.length ≤ q then none else if d.getD q (-1) = -1 then some (d.set q v) else if d.getD q (-1) = v then some d else none
/-- A place is gone through. -/
def stepI (code : List Ins) (d : List Int) (p : Nat) : Option (List Int) :=
  let x := inAt code p
  let dp := d.getD p (-1)
  if dp < takesI x then none
  else if endsI x.op then (if dp = takesI x then some d else none)
  else match (if akI x.op = 1 then meetI d x.a.toNat (thereI x dp) else some d) with
    | none => none
    | some d1 => if x.op = 1 then some d1 else meetI d1 (p + 1) (nextI x dp)
/-- The least place that was met and not gone through. -/
def leastI (d : List Int) (g : Nat → Bool) : Option Nat := (List.range d.length).find? (fun p => decide (d.getD p (-1) ≠ -1) && !g p)
def goneI (g : Nat → Bool) (p : Nat) : Nat → Bool := fun q => decide (q = p) || g q
/-- All are gone through: the depths, or where it was wrong. -/
def fitI (code : List Ins) : Nat → List Int → (Nat → Bool) → List Int × Option Nat
  | 0, d, _ => (d, none)
  | f + 1, d, g => match leastI d g with
    | none => (d, none)
    | some p => match stepI code d p with
      | none => (d, some p)
      | some d' => fitI code f d' (goneI g p)
def depth0 (n : Nat) : List Int := (List.replicate n (-1)).set 0 0
def fitsI (code : List Ins) : List Int × Option Nat := fitI code (code.length + 1) (depth0 code.length) (fun _ => false)
/-- Free instructions, and where one comes from them. -/
def freeI (op : Nat) : Bool := op == 1 || op == 5
def succI (code : List Ins) (p : Nat) : Nat := if (inAt code p).op = 1 then (inAt code p).a.toNat else p + 1
/-- So many free ones stand one behind the other, from a place on. -/
def runI (code : List Ins) : Nat → Nat → Bool
  | 0, _ => true
  | k + 1, p => freeI (inAt code p).op && runI code k (succI code p)
/-- The least place that was met from which there is a circle. -/
def circI (code : List Ins) (d : List Int) : Option Nat := (List.range d.length).find? (fun p => decide (d.getD p (-1) ≠ -1) && runI code (d.length + 1) p)
end Go.Proofs.YtefijbpbenmbgaaDoor
