/- A part of the proof: Nm, IP, JSpec, KPut. No condition. -/
import Derived.Test.YtcabolfookofoaaGreatDoorRows
import Derived.WalkKit
import Derived.WalkSpells
import Derived.WalkLawsBesides
import Derived.Handy
import Derived.Lib.Hide
import Derived.LoopTactic
import Derived.Lib.IndexBytes
import Derived.Test.YtcabolfookofoaaGreatDoorQ02
set_option linter.unusedVariables false
set_option linter.unusedSimpArgs false
namespace Go.Proofs.YtcabolfookofoaaGreatDoor
open Go.RowKit
def letC (c : UInt8) : Bool := decide (97 ≤ c.toNat ∧ c.toNat ≤ 122)
def restC (c : UInt8) : Bool := letC c || decide (48 ≤ c.toNat ∧ c.toNat ≤ 57) || decide (c.toNat = 95)
def nameL (l : List UInt8) : Bool := match l with
 | [] => false
 | c :: r => decide (r.length < 24) && letC c && r.all restC
theorem bytes_len (s : ByteArray) : s.data.toList.length = s.size := Array.length_toList
theorem list_head (s : ByteArray) (h : 0 < s.size) : s.data.toList = s[0] :: s.data.toList.drop 1 := by
 have h' : 0 < s.data.toList.length := by rw [bytes_len]; exact h
 have := List.drop_eq_getElem_cons h';rw [List.drop_zero] at this;exact this
theorem list_none (s : ByteArray) (h : ¬ 0 < s.size) : s.data.toList = [] := by
 apply List.eq_nil_of_length_eq_zero
 rw [bytes_len];omega
theorem letC_rest {c : UInt8} (h : letC c = true) : restC c = true := by simp [restC, h]
def AllR (l : List UInt8) : Prop := l.all restC = true
theorem AllR.more {s : ByteArray} {k : Nat} (h : AllR (s.data.toList.take k)) (hk : k < s.size) (hc : restC s[k] = true) : AllR (s.data.toList.take (k + 1)) := by
 have hk' : k < s.data.toList.length := by rw [bytes_len]; exact hk
 unfold AllR at h ⊢;rw [List.take_succ_eq_append_getElem hk', List.all_append, h];have : s.data.toList[k] = s[k] := rfl;simp [this, hc]
theorem AllR.all {s : ByteArray} {k : Nat} (h : AllR (s.data.toList.take k)) (hk : s.size ≤ k) : AllR s.data.toList := by
 rw [List.take_of_length_le (by rw [bytes_len]; exact hk)] at h;exact h
theorem nameL_of {s : ByteArray} (h0 : 0 < s.size) (h1 : s.size ≤ 24) (h2 : letC s[0] = true) (h : AllR s.data.toList) : nameL s.data.toList = true := by
 have hl := bytes_len s;have hh := list_head s h0;unfold AllR at h;rw [hh] at h ⊢;rw [hh] at hl;simp only [List.length_cons] at hl;simp only [List.all_cons, Bool.and_eq_true] at h;unfold nameL;simp only
 rw [h.2, h2];simp
 simp at hl
 omega
theorem nameL_first {s : ByteArray} (h0 : 0 < s.size) (h2 : letC s[0] = false) : nameL s.data.toList = false := by
 rw [list_head s h0];unfold nameL;simp only
 rw [h2];simp
theorem nameL_none {s : ByteArray} (h0 : ¬ 0 < s.size) : nameL s.data.toList = false := by
 rw [list_none s h0]; rfl
theorem nameL_long {s : ByteArray} (h0 : 24 < s.size) : nameL s.data.toList = false := by
 have hl := bytes_len s;have hh := list_head s (by omega);rw [hh] at hl ⊢;simp only [List.length_cons] at hl;unfold nameL;simp only
 rw [show decide ((List.drop 1 s.data.toList).length < 24) = false by simp at hl ⊢; omega];rfl
theorem nameL_wrong {s : ByteArray} {k : Nat} (hk : k < s.size) (hc : restC s[k] = false) : nameL s.data.toList = false := by
 by_cases h0 : k = 0
 · subst h0
   refine nameL_first hk ?_;cases h : letC s[0] with
   | false => rfl
   | true => rw [letC_rest h] at hc; cases hc
 · have hh := list_head s (by omega)
   rw [hh];unfold nameL;simp only
   have hm : s[k] ∈ s.data.toList.drop 1 := by
     have hk' : k - 1 < (s.data.toList.drop 1).length := by rw [List.length_drop, bytes_len]; omega
     have : (s.data.toList.drop 1)[k - 1] = s[k] := by
       rw [List.getElem_drop];have e : s.data.toList[1 + (k - 1)]'(by rw [bytes_len]; omega) = s.data.toList[k]'(by rw [bytes_len]; omega) := by congr 1; omega
       rw [e]; rfl
     rw [← this];exact List.getElem_mem hk'
   have : (s.data.toList.drop 1).all restC = false := by
     rw [List.all_eq_false];exact ⟨_, hm, by rw [hc]; decide⟩
   rw [this];simp
set_option maxHeartbeats 400000 in
theorem letter_any (c : UInt8) (w : World) :
   Calls Tryz.prog 140 #[.int .u8 (c.toNat : Int)] w fun e w' => e = .returned (.bool (letC c)) ∧ w = w' := by
 by_cases h1 : 97 ≤ c.toNat
 · have H : Hid (letC c = decide ((c.toNat : Int) ≤ 122)) := by
     show letC c = _
     rw [Bool.eq_iff_iff]; simp only [letC, decide_eq_true_eq]; omega
   go_enter Tryz.func140, Tryz.ntmps140
   go_wp2
   go_ret
   exact ⟨ret_bool H.out.symm, rfl⟩
 · have H : Hid (letC c = false) := by show letC c = false; simp [letC, h1]
   go_enter Tryz.func140, Tryz.ntmps140
   go_wp2
   go_ret
   exact ⟨ret_bool (by rw [H.out]), rfl⟩
theorem letter_yes {c : UInt8} (h : letC c = true) (w : World) :
   Calls Tryz.prog 140 #[.int .u8 (c.toNat : Int)] w fun e w' => e = .returned (.bool true) ∧ w = w' := by
 have := letter_any c w;rw [h] at this;exact this
theorem letter_no {c : UInt8} (h : letC c = false) (w : World) :
   Calls Tryz.prog 140 #[.int .u8 (c.toNat : Int)] w fun e w' => e = .returned (.bool false) ∧ w = w' := by
 have := letter_any c w;rw [h] at this;exact this
set_option maxHeartbeats 1000000 in
theorem name_any (s : ByteArray) (w : World) (hs : s.size ≤ 9223372036854775807) :
   Calls Tryz.prog 111 #[.string s] w fun e w' => e = .returned (.bool (nameL s.data.toList)) ∧ w = w' := by
 by_cases h0 : 0 < s.size
 · by_cases h24 : s.size ≤ 24
   · cases hc0 : letC s[0] with
     | false =>
       have HN := Lib.hid (nameL_first h0 hc0);replace hc0 := Lib.hid hc0;have hz : ((s.size : Int) == 0) = false := beq_eq_false_iff_ne.2 (by omega);have h24' : decide (24 < (s.size : Int)) = false := decide_eq_false (by omega);go_enter Tryz.func111, Tryz.ntmps111
       go_wp2_with (first
         | ((with_reducible refine (letter_no hc0.out _).mono ?_); rintro e w' ⟨rfl, rfl⟩))
       go_ret
       exact ⟨ret_bool (by rw [HN.out]), rfl⟩
     | true =>
       replace hc0 := Lib.hid hc0;have hz : ((s.size : Int) == 0) = false := beq_eq_false_iff_ne.2 (by omega);have h24' : decide (24 < (s.size : Int)) = false := decide_eq_false (by omega);go_enter Tryz.func111, Tryz.ntmps111
       go_wp2_with (first
         | ((with_reducible refine (letter_yes hc0.out _).mono ?_); rintro e w' ⟨rfl, rfl⟩))
       clear hz h24';go_loop [21] (fun i => ∃ k : Nat, k ≤ s.size ∧ i = .int .i64 k ∧ AllR (s.data.toList.take k)) (fun i => s.size - (intOf i).toNat)
       case atStart => exact ⟨0, Nat.zero_le _, rfl, rfl⟩
       case round =>
         obtain ⟨k, hk, rfl, hall⟩ := hrel;replace hall := Lib.hid hall;by_cases hlt : k < s.size
         · cases hl : letC s[k] with
           | true =>
             have hnx := Lib.hid (hall.out.more hlt (letC_rest hl));replace hl := Lib.hid hl;go_wp2_with (first
               | ((with_reducible refine (letter_yes hl.out _).mono ?_); rintro e w' ⟨rfl, rfl⟩))
             go_round
             case rel => exact ⟨k + 1, by omega, by go_num, hnx.out⟩
             case measure => simp [intOf]; omega
           | false =>
             by_cases hd : restC s[k] = true
             · have hnx := Lib.hid (hall.out.more hlt hd)
               by_cases h95 : s[k].toNat = 95
               · have e1 : (((s[k].toNat : Int)) != 95) = false := by rw [h95]; rfl
                 have e2 : decide ((s[k].toNat : Int) ≤ 57) = false := decide_eq_false (by omega);replace hl := Lib.hid hl;replace hd := Lib.hid hd;replace h95 := Lib.hid h95;go_wp2_with (first
                   | ((with_reducible refine (letter_no hl.out _).mono ?_); rintro e w' ⟨rfl, rfl⟩))
                 all_goals
                   go_round
                   case rel => exact ⟨k + 1, by omega, by go_num, hnx.out⟩
                   case measure => simp [intOf]; omega
               · have e0 : 48 ≤ s[k].toNat ∧ s[k].toNat ≤ 57 := by
                   unfold restC at hd; rw [hl] at hd; simp [h95] at hd; exact hd
                 obtain ⟨e1, e2⟩ := e0;replace hl := Lib.hid hl;replace hd := Lib.hid hd;replace h95 := Lib.hid h95;go_wp2_with (first
                   | ((with_reducible refine (letter_no hl.out _).mono ?_); rintro e w' ⟨rfl, rfl⟩))
                 go_round
                 case rel => exact ⟨k + 1, by omega, by go_num, hnx.out⟩
                 case measure => simp [intOf]; omega
             · have hd : restC s[k] = false := by cases h : restC s[k] with
                 | false => rfl
                 | true => exact absurd h hd
               have HN := Lib.hid (nameL_wrong hlt hd);have h95 : ¬ s[k].toNat = 95 := by intro h; unfold restC at hd; simp [h] at hd
               have hdg : ¬ (48 ≤ s[k].toNat ∧ s[k].toNat ≤ 57) := by intro h; unfold restC at hd; simp [h] at hd
               have e1 : (((s[k].toNat : Int)) != 95) = true := bne_iff_ne.2 (by omega);replace hl := Lib.hid hl;replace hd := Lib.hid hd;by_cases h48 : 48 ≤ s[k].toNat
               · have e2 : decide ((s[k].toNat : Int) ≤ 57) = false := decide_eq_false (by omega)
                 clear hdg h95;go_wp2_with (first
                   | ((with_reducible refine (letter_no hl.out _).mono ?_); rintro e w' ⟨rfl, rfl⟩))
                 go_ret
                 exact ⟨ret_bool (by rw [HN.out]), rfl⟩
               · have e2 : decide (48 ≤ (s[k].toNat : Int)) = false := decide_eq_false (by omega)
                 clear hdg h95;go_wp2_with (first
                   | ((with_reducible refine (letter_no hl.out _).mono ?_); rintro e w' ⟨rfl, rfl⟩))
                 go_ret
                 exact ⟨ret_bool (by rw [HN.out]), rfl⟩
         · have HN := Lib.hid (nameL_of h0 h24 hc0.out (hall.out.all (by omega)))
           go_wp2
           go_ret
           exact ⟨ret_bool (by rw [HN.out]), rfl⟩
   · have HN := Lib.hid (nameL_long (Nat.lt_of_not_le h24))
     have hz : ((s.size : Int) == 0) = false := beq_eq_false_iff_ne.2 (by omega);go_enter Tryz.func111, Tryz.ntmps111
     go_wp2
     go_ret
     exact ⟨ret_bool (by rw [HN.out]), rfl⟩
 · have HN := Lib.hid (nameL_none h0)
   have hz : ((s.size : Int) == 0) = true := by
     rw [show s.size = 0 by omega]; rfl
   go_enter Tryz.func111, Tryz.ntmps111
   go_wp2
   go_ret
   exact ⟨ret_bool (by rw [HN.out]), rfl⟩
end Go.Proofs.YtcabolfookofoaaGreatDoor
namespace Go.Proofs.YtcabolfookofoaaGreatDoor
open Go.RowKit
structure Ins where
 op : Nat
 a : Int
 num : Int
 text : List UInt8
 deriving DecidableEq
def wordL : List (List UInt8) := [[], [106, 117, 109, 112], [98, 114, 97, 110, 99, 104], [111, 114], [97, 110, 100], [98, 111, 111, 108], [100, 114, 111, 112], [], [114, 101, 116, 117, 114, 110], [102, 97, 105, 108], [115, 108, 101, 101, 112], [], [], [], [], [], [], [], [], [], [110, 111, 110, 101], [116, 114, 117, 101], [102, 97, 108, 115, 101], [105, 110, 116], [116, 101, 120, 116], [108, 105, 115, 116], [108, 111, 97, 100], [115, 116, 111, 114, 101], [101, 110, 100], [], [], [], [101, 113], [110, 101], [108, 116], [108, 101], [97, 100, 100], [115, 117, 98], [109, 117, 108], [100, 105, 118], [109, 111, 100], [110, 117, 109], [97, 116], [110, 111, 116], [110, 101, 103], [108, 101, 110], [114, 101], [105, 109], [99, 111, 110, 106], [], [99, 97, 108, 108], [99, 104, 105, 108, 100], [116, 105, 109, 101, 114], [102, 111, 114, 107], [97, 119, 97, 105, 116], [115, 101, 116, 116, 108, 101], [116, 97, 107, 101], [118, 101, 114, 115, 105, 111, 110]]
def wordI (op : Nat) : List UInt8 := wordL.getD op []
def akI (op : Nat) : Nat := if op = 1 ∨ op = 2 ∨ op = 3 ∨ op = 4 ∨ op = 53 then 1 else if op = 26 ∨ op = 27 then 2 else if op = 25 ∨ op = 50 ∨ op = 51 then 3 else 0
def nameI (op : Nat) : Bool := op == 50 || op == 51 || op == 56
def takesR (op : Nat) : Nat := if (32 ≤ op ∧ op ≤ 42) then 2 else if op = 2 ∨ op = 3 ∨ op = 4 ∨ op = 5 ∨ op = 6 ∨ op = 8 ∨ op = 9 ∨ op = 10 ∨ op = 27 ∨ (43 ≤ op ∧ op ≤ 48) ∨ op = 52 ∨ op = 54 ∨ op = 55 then 1 else 0
def leaveR (op : Nat) : Nat := if op = 5 ∨ (20 ≤ op ∧ op ≤ 26) ∨ (32 ≤ op ∧ op ≤ 48) ∨ (50 ≤ op ∧ op ≤ 57) then 1 else 0
def takesI (x : Ins) : Int := if akI x.op = 3 then x.a else takesR x.op
def endsI (op : Nat) : Bool := op == 8 || op == 9 || op == 28
def nextI (x : Ins) (d : Int) : Int := d - takesI x + leaveR x.op
def thereI (x : Ins) (d : Int) : Int := if x.op = 53 then 0 else if x.op = 3 ∨ x.op = 4 then d else nextI x d
def aOK (k : Nat) (n : Int) (a : Int) : Bool := if k = 1 then decide (0 ≤ a ∧ a < n) else if k = 2 then decide (0 ≤ a ∧ a < 100) else if k = 3 then decide (0 ≤ a ∧ a ≤ 2048) else decide (a = 0)
def txOK (op : Nat) (s : List UInt8) : Bool := if op = 24 then decide (s.length ≤ 4095) else if nameI op then nameL s else decide (s = [])
def rightI (x : Ins) (n : Int) : Bool := decide (wordI x.op ≠ []) && aOK (akI x.op) n x.a && (decide (x.num = 0) || x.op == 23) && txOK x.op x.text
def inAt (code : List Ins) (p : Nat) : Ins := code.getD p ⟨0, 0, 0, []⟩
def badI (code : List Ins) : Option Nat := code.findIdx? (fun x => !rightI x code.length)
def meetI (d : List Int) (q : Nat) (v : Int) : Option (List Int) := if d.length ≤ q then none else if d.getD q (-1) = -1 then some (d.set q v) else if d.getD q (-1) = v then some d else none
def stepI (code : List Ins) (d : List Int) (p : Nat) : Option (List Int) :=
 let x := inAt code p
 let dp := d.getD p (-1)
 if dp < takesI x then none
 else if endsI x.op then (if dp = takesI x then some d else none)
 else match (if akI x.op = 1 then meetI d x.a.toNat (thereI x dp) else some d) with
   | none => none
   | some d1 => if x.op = 1 then some d1 else meetI d1 (p + 1) (nextI x dp)
def leastI (d : List Int) (g : Nat → Bool) : Option Nat := (List.range d.length).find? (fun p => decide (d.getD p (-1) ≠ -1) && !g p)
def goneI (g : Nat → Bool) (p : Nat) : Nat → Bool := fun q => decide (q = p) || g q
def fitI (code : List Ins) : Nat → List Int → (Nat → Bool) → List Int × Option Nat
 | 0, d, _ => (d, none)
 | f + 1, d, g => match leastI d g with
   | none => (d, none)
   | some p => match stepI code d p with
     | none => (d, some p)
     | some d' => fitI code f d' (goneI g p)
def depth0 (n : Nat) : List Int := (List.replicate n (-1)).set 0 0
def fitsI (code : List Ins) : List Int × Option Nat := fitI code (code.length + 1) (depth0 code.length) (fun _ => false)
def freeI (op : Nat) : Bool := op == 1 || op == 5
def succI (code : List Ins) (p : Nat) : Nat := if (inAt code p).op = 1 then (inAt code p).a.toNat else p + 1
def runI (code : List Ins) : Nat → Nat → Bool
 | 0, _ => true
 | k + 1, p => freeI (inAt code p).op && runI code k (succI code p)
def circI (code : List Ins) (d : List Int) : Option Nat := (List.range d.length).find? (fun p => decide (d.getD p (-1) ≠ -1) && runI code (d.length + 1) p)
end Go.Proofs.YtcabolfookofoaaGreatDoor
namespace Go.Proofs.YtcabolfookofoaaGreatDoor
open Go.RowKit
def hasText (op : Nat) : Bool := op == 24 || nameI op
end Go.Proofs.YtcabolfookofoaaGreatDoor
namespace Go.Proofs.YtcabolfookofoaaGreatDoor
open Go.RowKit
def aL (x : Ins) : List Nat := if akI x.op = 0 then [] else uintL x.a.toNat
def nL (x : Ins) : List Nat := if x.op = 23 then uintL (foldN x.num) else []
def tL (x : Ins) : List Nat := if hasText x.op = true then uintL x.text.length ++ x.text.map (·.toNat) else []
def insL (x : Ins) : List Nat := x.op :: (aL x ++ (nL x ++ tL x))
def restL (code : List Ins) : List Nat := code.flatMap insL
def putL (code : List Ins) : List Nat := uintL code.length ++ restL code
section
variable {f : Nat → Nat} {L p n : Nat} {x : Ins}
theorem right_a (h : rightI x n = true) (hn : n ≤ 8192) : 0 ≤ x.a ∧ x.a ≤ 8192 ∧ (akI x.op = 0 → x.a = 0) := by
 unfold rightI at h;simp only [Bool.and_eq_true] at h;have h1 := h.1.1.2;unfold aOK at h1;split at h1
 · simp only [decide_eq_true_eq] at h1; omega
 · split at h1
   · simp only [decide_eq_true_eq] at h1; omega
   · split at h1
     · simp only [decide_eq_true_eq] at h1; omega
     · simp only [decide_eq_true_eq] at h1; omega
end
end Go.Proofs.YtcabolfookofoaaGreatDoor
