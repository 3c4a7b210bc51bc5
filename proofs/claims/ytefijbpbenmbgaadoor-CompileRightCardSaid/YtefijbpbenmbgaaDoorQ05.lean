/- A part of the proof: RLook, Fs, IP, RKd, GenP, IIn, IWs. No condition. -/
import Derived.OwnWalk
import Derived.Below
import Derived.WalkKit
import Derived.WalkSpells
import Derived.WalkLawsBesides
import Derived.Handy
import Derived.Lib.Hide
import Derived.Maps.AppendAt
import Derived.Test.YtefijbpbenmbgaaDoorQ01
import Derived.Test.YtefijbpbenmbgaaDoorQ02
import Derived.Test.YtefijbpbenmbgaaDoorQ03
import Derived.Test.YtefijbpbenmbgaaDoorQ04
set_option linter.unusedVariables false
set_option linter.unusedSimpArgs false
namespace Go.Proofs.YtefijbpbenmbgaaDoor
open Go.RowKit Go.Shelf
def lookF (ts : List Tw) : Nat × Nat × Int :=
 if 2048 < ts.length then (0, 0, 2) else if ts.length = 0 then (0, 0, 3) else
   if (passF ts.length ts 1 ⟨0, 0, 0⟩).1 = false ∨ (passF ts.length ts 1 ⟨0, 0, 0⟩).2.gone < ts.length then ((passF ts.length ts 1 ⟨0, 0, 0⟩).2.gone, 0, 3)
   else if 0 < (passF ts.length ts 1 ⟨0, 0, 0⟩).2.tooDeep then ((passF ts.length ts 1 ⟨0, 0, 0⟩).2.tooDeep, 0, 2) else (0, (passF ts.length ts 1 ⟨0, 0, 0⟩).2.deepest, 0)
def Held (w : World) (p : Addr) (v : Value) : Prop := w.cell? p = some v ∧ w.frozen? p = false
theorem Held.up {w : World} {p : Addr} {v : Value} (h : Held w p v) (o : Obj) : Held (w.alloc o) p v :=
 ⟨cell_on h.1 ((Below.refl _ w).alloc (Nat.le_refl _) o), frozen_on h.1 h.2 ((Below.refl _ w).alloc (Nat.le_refl _) o)⟩
theorem held_new {w : World} {n : Nat} (hn : w.heap.size = n) (v : Value) (t : TypeId) : Held (w.alloc (.cells #[v] t)) ⟨n, 0, none⟩ v := by
 subst hn;exact ⟨one_cell w #[v] t 0, by have h := heap_alloc_new w (.cells #[v] t); unfold World.frozen?; dsimp only; rw [h]; rfl⟩
theorem look_mem (w : World) {v : Value} {ts : List Tw} {b : Nat} (hT : TwIn w v ts) (hK : KMap w b tabL) (t0 t1 t2 t3 t4 t5 : TypeId) (W : World) (hW : W = ((((((w.alloc (.cells #[.map (some b)] t0)).alloc (.cells #[v] t1)).alloc (.cells #[.int .i64 0] t2)).alloc (.cells #[.int .i64 0] t3)).alloc (.cells #[.int .i64 0] t4)).alloc (.cells #[.func (.func 59) #[] #[.pointer (some ⟨w.heap.size + 1, 0, none⟩), .pointer (some ⟨w.heap.size + 1 + 1, 0, none⟩), .pointer (some ⟨w.heap.size, 0, none⟩), .pointer (some ⟨w.heap.size + 1 + 1 + 1 + 1, 0, none⟩), .pointer (some ⟨w.heap.size + 1 + 1 + 1, 0, none⟩), .pointer (some ⟨w.heap.size + 1 + 1 + 1 + 1 + 1, 0, none⟩)]] t5))) :
   PMem W (w.heap.size + 1) w.heap.size (w.heap.size + 1 + 1) (w.heap.size + 1 + 1 + 1) (w.heap.size + 1 + 1 + 1 + 1) (w.heap.size + 1 + 1 + 1 + 1 + 1) v ts ⟨0, 0, 0⟩ ∧ Below w.heap.size w W := by
 have hB : Below w.heap.size w W := by
   rw [hW];refine ((((((Below.refl _ w).alloc ?_ _).alloc ?_ _).alloc ?_ _).alloc ?_ _).alloc ?_ _).alloc ?_ _ <;> (simp; try omega)
 refine ⟨⟨?_, ⟨b, ?_, hK.below hB hK.lt⟩, ?_, ?_, ?_, ?_, hT.below hB⟩, hB⟩ <;> rw [hW]
 · exact (((((held_new (by simp) v t1).up _).up _).up _).up _).1
 · exact ((((((held_new rfl _ t0).up _).up _).up _).up _).up _).1
 · exact ((((held_new (by simp) _ t2).up _).up _).up _)
 · exact (((held_new (by simp) _ t3).up _).up _)
 · exact ((held_new (by simp) _ t4).up _)
 · exact (held_new (by simp) _ t5).1
set_option maxRecDepth 20000 in
set_option maxHeartbeats 4000000 in
theorem look_any {v : Value} {ts : List Tw} {b : Nat} (w : World) (hT : TwIn w v ts) (hf : ∀ x ∈ ts, FitT x) (hK : KMap w b tabL) :
   Calls Tryd.prog 32 #[.map (some b), v] w fun e w' => e = .returned (.tuple #[.int .i64 (lookF ts).1, .int .i64 (lookF ts).2.1, .int .i64 (lookF ts).2.2]) ∧ Below w.heap.size w w' := by
 obtain ⟨Z, hZ⟩ := exHid (lookF ts);rw [hZ.out];have hT' := Lib.hid hT;have hsf := fun c => sv_any (v := .func (.func 59) #[] c) rfl
 obtain ⟨a, cap, rfl, htc, htm, hcells⟩ := id hT;have hz := hZ.out;unfold lookF at hz;clear hZ;by_cases h1 : 2048 < ts.length
 · rw [if_pos h1] at hz
   have h1i : (2048 : Int) < (ts.length : Int) := by omega
   replace hz := Lib.hid hz;clear hcells hT;go_enter Tryd.func32, Tryd.ntmps32
   go_wp2_with fail
   refine bodyPost_ret (results_tmp3 rfl _ _ _) rfl ?_;rw [← hz.out];exact ⟨rfl, by go_grown⟩
 · rw [if_neg h1] at hz
   have h1i : ¬ (2048 : Int) < (ts.length : Int) := by omega
   by_cases h0 : ts.length = 0
   · rw [if_pos h0] at hz
     have h0i : ((ts.length : Int) == 0) = true := by rw [h0]; rfl
     replace hz := Lib.hid hz;replace h0 := Lib.hid h0;clear hcells hT;go_enter Tryd.func32, Tryd.ntmps32
     go_wp2_with fail
     refine bodyPost_ret (results_tmp3 rfl _ _ _) rfl ?_;rw [← hz.out];exact ⟨rfl, by go_grown⟩
   · rw [if_neg h0] at hz
     have h0i : ((ts.length : Int) == 0) = false := beq_eq_false_iff_ne.2 (by omega);obtain ⟨g, off, rfl, hg, hc⟩ := hcells (by omega);clear hc;replace hz := Lib.hid hz;replace h0 := Lib.hid h0;replace hT := Lib.hid hT;go_enter Tryd.func32, Tryd.ntmps32
     go_wp2_with fail
     generalize hW : (World.alloc _ _) = W;have hM := look_mem w hT.out hK _ _ _ _ _ _ W hW.symm;clear hW;obtain ⟨hP, hB⟩ := hM;have hne : PNe (w.heap.size + 1) w.heap.size (w.heap.size + 1 + 1) (w.heap.size + 1 + 1 + 1) (w.heap.size + 1 + 1 + 1 + 1) (w.heap.size + 1 + 1 + 1 + 1 + 1) (.slice (some ⟨g, off, none⟩) ts.length cap) := by
       refine ⟨by omega, by omega, by omega, by omega, by omega, by omega, ?_⟩;intro g' off' l c e;cases e
       omega
     have kP := pass_any hne hf (by omega) ts.length 1 ⟨0, 0, 0⟩ W (by show 0 < _; have := h0.out; omega) (Nat.sub_le _ _) (by omega) (Nat.zero_le _) hP;have mono := pass_mono_at ts ts.length 1 1000000 ⟨0, 0, 0⟩ (by show 0 < _; have := h0.out; omega) (Nat.zero_le _) (by omega);replace hz := hz.out;generalize passF ts.length ts 1 ⟨0, 0, 0⟩ = R at kP mono hz;obtain ⟨rb, s5⟩ := R;dsimp only at kP mono hz;have hBs := hB.size;refine kP.mono ?_;rintro e w5 ⟨rfl, hP5, hO5⟩;have hB5 : Below w.heap.size w w5 := hB.trans (hO5.below hB.size (by intro k hk; omega));clear kP hP hO5;have pg := hP5.g.1;have pt := hP5.t;have pd := hP5.d.1;have px := hP5.x.1;rcases rb with _ | _
     · rw [if_pos (Or.inl rfl)] at hz
       replace hz := Lib.hid hz;replace hP5 := Lib.hid hP5;replace hB5 := Lib.hid hB5;go_wp2_with fail
       refine bodyPost_ret (results_tmp3 rfl _ _ _) rfl ?_;rw [← hz.out];exact ⟨rfl, hB5.out⟩
     · by_cases hgo : s5.gone < ts.length
       · rw [if_pos (Or.inr hgo)] at hz
         have hgi : (s5.gone : Int) < (ts.length : Int) := by omega
         replace hz := Lib.hid hz;replace hP5 := Lib.hid hP5;replace hB5 := Lib.hid hB5;go_wp2_with fail
         refine bodyPost_ret (results_tmp3 rfl _ _ _) rfl ?_;rw [← hz.out];exact ⟨rfl, hB5.out⟩
       · rw [if_neg (by simp; omega)] at hz
         have hgi : ¬ (s5.gone : Int) < (ts.length : Int) := by omega
         by_cases hx : 0 < s5.tooDeep
         · rw [if_pos hx] at hz
           have hxi : (0 : Int) < (s5.tooDeep : Int) := by omega
           replace hz := Lib.hid hz;replace hP5 := Lib.hid hP5;replace hB5 := Lib.hid hB5;go_wp2_with fail
           refine bodyPost_ret (results_tmp3 rfl _ _ _) rfl ?_;rw [← hz.out];exact ⟨rfl, hB5.out⟩
         · rw [if_neg hx] at hz
           have hxi : ¬ (0 : Int) < (s5.tooDeep : Int) := by omega
           replace hz := Lib.hid hz;replace hP5 := Lib.hid hP5;replace hB5 := Lib.hid hB5;replace hx := Lib.hid hx;go_wp2_with fail
           go_quiet (fail)
           go_wp2_with fail
           refine bodyPost_ret (results_tmp3 rfl _ _ _) rfl ?_;rw [← hz.out];exact ⟨rfl, below_drewN hB5.out _⟩
end Go.Proofs.YtefijbpbenmbgaaDoor
namespace Go.Proofs.YtefijbpbenmbgaaDoor
open Go.RowKit Go.Shelf
inductive Fs where
 | nil
 | cons (x : Tw) (k r : Fs)
def Fs.flat : Fs → List Tw
 | .nil => []
 | .cons x k r => x :: (k.flat ++ r.flat)
def Fs.count : Fs → Nat
 | .nil => 0
 | .cons _ _ r => r.count + 1
def Fs.part (pk : Nat) (n : Int) : Fs → Nat → Prop
 | .nil, _ => True
 | .cons x _ r, p => partOK pk (x.op : Int) (p : Int) n = true ∧ r.part pk n (p + 1)
def Fs.ok : Fs → Prop
 | .nil => True
 | .cons x k r => (∃ kd, kindOf x.op = some kd ∧ allowsB kd x = true ∧ k.part kd.part x.kids 0) ∧ x.kids = (k.count : Int) ∧ k.ok ∧ r.ok
theorem drop_at {ts : List Tw} {i : Nat} (h : i < ts.length) : ts.drop i = twAt ts i :: ts.drop (i + 1) := by
 rw [List.drop_eq_getElem_cons h];simp [twAt, List.getD_eq_getElem?_getD, List.getElem?_eq_getElem h]
theorem kids_forest (ts : List Tw) (k : Kind) (kids : Int) (f : PSt → Bool × PSt)
   (hf : ∀ s s', f s = (true, s') → s.gone < ts.length → s'.gone ≤ ts.length ∧ ∃ x K, (Fs.cons x K .nil).ok ∧ x = twAt ts s.gone ∧ ts.drop s.gone = x :: (K.flat ++ ts.drop s'.gone)) :
   ∀ (n p : Nat) (s s' : PSt), kidsF f ts k kids n p s = (true, s') → s.gone ≤ ts.length → s'.gone ≤ ts.length ∧ ∃ F : Fs, F.count = n ∧ F.ok ∧ F.part k.part kids p ∧ ts.drop s.gone = F.flat ++ ts.drop s'.gone
 | 0, _, s, s', h, hl => by
   cases h
   exact ⟨hl, .nil, rfl, trivial, trivial, rfl⟩
 | n + 1, p, s, s', h, hl => by
   unfold kidsF at h;split at h
   · cases h
   · rename_i h1
     split at h
     · cases h
     · rename_i h2
       split at h
       · cases h
       · rename_i h3
         rcases hq : f s with ⟨b, s2⟩
         rw [hq] at h h3;have hb : b = true := by cases b; exact absurd rfl h3; rfl
         subst hb;obtain ⟨a1, x, K, ⟨a2, a3, a4, _⟩, a5, a6⟩ := hf s s2 hq (by omega);obtain ⟨b1, F, b2, b3, b4, b5⟩ := kids_forest ts k kids f hf n (p + 1) s2 s' h a1;refine ⟨b1, .cons x K F, ?_, ⟨a2, a3, a4, b3⟩, ⟨?_, b4⟩, ?_⟩
         · show F.count + 1 = n + 1
           rw [b2]
         · rw [a5]
           cases hc : partOK k.part ((twAt ts s.gone).op : Int) (p : Int) kids with
           | true => rfl
           | false => exact absurd hc h2
         · show ts.drop s.gone = x :: (K.flat ++ F.flat) ++ ts.drop s'.gone
           rw [a6, b5];simp
theorem allows_least {k : Kind} {x : Tw} (h : allowsB k x = true) : 0 ≤ x.kids := by
 unfold allowsB at h;simp only [Bool.and_eq_true, decide_eq_true_eq] at h;omega
theorem pass_forest (ts : List Tw) : ∀ (fuel lies : Nat) (s s' : PSt), passF fuel ts lies s = (true, s') → s.gone < ts.length → s'.gone ≤ ts.length ∧ ∃ x K, (Fs.cons x K .nil).ok ∧ x = twAt ts s.gone ∧ ts.drop s.gone = x :: (K.flat ++ ts.drop s'.gone)
 | 0, _, s, s', h, _ => by cases h
 | fuel + 1, lies, s, s', h, hl => by
   unfold passF at h;split at h
   · cases h
   · rename_i k hk
     split at h
     · cases h
     · rename_i ha
       have ha' : allowsB k (twAt ts s.gone) = true := by
         cases hc : allowsB k (twAt ts s.gone) with
         | true => rfl
         | false => exact absurd hc ha
       obtain ⟨b1, F, b2, b3, b4, b5⟩ := kids_forest ts k (twAt ts s.gone).kids _ (fun t t' ht htl => pass_forest ts fuel (lies + 1) t t' ht htl) _ 0 (nextS s lies) s' h hl;refine ⟨b1, twAt ts s.gone, F, ⟨⟨k, hk, ha', b4⟩, ?_, b3, trivial⟩, rfl, ?_⟩
       · rw [b2]
         have := allows_least ha';omega
       · rw [drop_at hl]
         congr 1
theorem right_forest {ts : List Tw} (h : (lookF ts).2.2 = 0) : ∃ x K, (Fs.cons x K .nil).ok ∧ ts = x :: K.flat ∧ ts.length ≤ 2048 := by
 unfold lookF at h;split at h
 · cases h
 · split at h
   · cases h
   · split at h
     · cases h
     · rename_i h1 h0 h2
       rcases hq : passF ts.length ts 1 ⟨0, 0, 0⟩ with ⟨b, s'⟩
       rw [hq] at h2;have hb : b = true := by
         cases b
         · exact absurd (.inl rfl) h2
         · rfl
       subst hb;obtain ⟨a1, x, K, a2, _, a3⟩ := pass_forest ts _ _ _ _ hq (by show 0 < ts.length; omega);have hg : s'.gone = ts.length := by
         have : ¬ s'.gone < ts.length := fun h => h2 (.inr h)
         omega
       refine ⟨x, K, a2, ?_, by omega⟩;have e : ts.drop 0 = x :: (K.flat ++ ts.drop s'.gone) := a3;rw [hg, List.drop_length, List.append_nil, List.drop_zero] at e;exact e
end Go.Proofs.YtefijbpbenmbgaaDoor
namespace Go.Proofs.YtefijbpbenmbgaaDoor
open Go.RowKit
structure Ins where
 op : Nat
 a : Int
 num : Int
 text : List UInt8
 deriving DecidableEq
def wordL : List (List UInt8) := [[], [106, 117, 109, 112], [98, 114, 97, 110, 99, 104], [111, 114], [97, 110, 100], [98, 111, 111, 108], [100, 114, 111, 112], [], [114, 101, 116, 117, 114, 110], [102, 97, 105, 108], [115, 108, 101, 101, 112], [], [], [], [], [], [], [], [], [], [110, 111, 110, 101], [116, 114, 117, 101], [102, 97, 108, 115, 101], [105, 110, 116], [116, 101, 120, 116], [108, 105, 115, 116], [108, 111, 97, 100], [115, 116, 111, 114, 101], [101, 110, 100], [], [], [], [101, 113], [110, 101], [108, 116], [108, 101], [97, 100, 100], [115, 117, 98], [109, 117, 108], [100, 105, 118], [109, 111, 100], [110, 117, 109], [97, 116], [110, 111, 116], [110, 101, 103], [108, 101, 110], [114, 101], [105, 109], [99, 111, 110, 106], [], [99, 97, 108, 108], [99, 104, 105, 108, 100], [116, 105, 109, 101, 114], [102, 111, 114, 107], [97, 119, 97, 105, 116], [115, 101, 116, 116, 108, 101], [116, 97, 107, 101], [118, 101, 114, 115, 105, 111, 110]]
def wordI (op : Nat) : List UInt8 := wordL.getD op []
def akI (op : Nat) : Nat := if op = 1 ∨ op = 2 ∨ op = 3 ∨ op = 4 ∨ op = 53 then 1 else if op = 26 ∨ op = 27 then 2 else if op = 25 ∨ op = 50 ∨ op = 51 then 3 else 0
def nameI (op : Nat) : Bool := op == 50 || op == 51 || op == 56
def takesR (op : Nat) : Nat := if (32 ≤ op ∧ op ≤ 42) then 2 else if op = 2 ∨ op = 3 ∨ op = 4 ∨ op = 5 ∨ op = 6 ∨ op = 8 ∨ op = 9 ∨ op = 10 ∨ op = 27 ∨ (43 ≤ op ∧ op ≤ 48) ∨ op = 52 ∨ op = 54 ∨ op = 55 then 1 else 0
def leaveR (op : Nat) : Nat := if op = 5 ∨ (20 ≤ op ∧ op ≤ 26) ∨ (32 ≤ op ∧ op ≤ 48) ∨ (50 ≤ op ∧ op ≤ 57) then 1 else 0
def takesI (x : Ins) : Int := if akI x.op = 3 then x.a else takesR x.op
def endsI (op : Nat) : Bool := op == 8 || op == 9 || op == 28
def nextI (x : Ins) (d : Int) : Int := d - takesI x + leaveR x.op
def thereI (x : Ins) (d : Int) : Int := if x.op = 53 then 0 else if x.op = 3 ∨ x.op = 4 then d else nextI x d
def aOK (k : Nat) (n : Int) (a : Int) : Bool := if k = 1 then decide (0 ≤ a ∧ a < n) else if k = 2 then decide (0 ≤ a ∧ a < 100) else if k = 3 then decide (0 ≤ a ∧ a ≤ 2048) else decide (a = 0)
def txOK (op : Nat) (s : List UInt8) : Bool := if op = 24 then decide (s.length ≤ 4095) else if nameI op then nameL s else decide (s = [])
def rightI (x : Ins) (n : Int) : Bool := decide (wordI x.op ≠ []) && aOK (akI x.op) n x.a && (decide (x.num = 0) || x.op == 23) && txOK x.op x.text
def inAt (code : List Ins) (p : Nat) : Ins := code.getD p ⟨0, 0, 0, []⟩
def badI (code : List Ins) : Option Nat := code.findIdx? (fun x => !rightI x code.length)
def meetI (d : List Int) (q : Nat) (v : Int) : Option (List Int) := if d.length ≤ q then none else if d.getD q (-1) = -1 then some (d.set q v) else if d.getD q (-1) = v then some d else none
def stepI (code : List Ins) (d : List Int) (p : Nat) : Option (List Int) :=
 let x := inAt code p
 let dp := d.getD p (-1)
 if dp < takesI x then none
 else if endsI x.op then (if dp = takesI x then some d else none)
 else match (if akI x.op = 1 then meetI d x.a.toNat (thereI x dp) else some d) with
   | none => none
   | some d1 => if x.op = 1 then some d1 else meetI d1 (p + 1) (nextI x dp)
def leastI (d : List Int) (g : Nat → Bool) : Option Nat := (List.range d.length).find? (fun p => decide (d.getD p (-1) ≠ -1) && !g p)
def goneI (g : Nat → Bool) (p : Nat) : Nat → Bool := fun q => decide (q = p) || g q
def fitI (code : List Ins) : Nat → List Int → (Nat → Bool) → List Int × Option Nat
 | 0, d, _ => (d, none)
 | f + 1, d, g => match leastI d g with
   | none => (d, none)
   | some p => match stepI code d p with
     | none => (d, some p)
     | some d' => fitI code f d' (goneI g p)
def depth0 (n : Nat) : List Int := (List.replicate n (-1)).set 0 0
def fitsI (code : List Ins) : List Int × Option Nat := fitI code (code.length + 1) (depth0 code.length) (fun _ => false)
def freeI (op : Nat) : Bool := op == 1 || op == 5
def succI (code : List Ins) (p : Nat) : Nat := if (inAt code p).op = 1 then (inAt code p).a.toNat else p + 1
def runI (code : List Ins) : Nat → Nat → Bool
 | 0, _ => true
 | k + 1, p => freeI (inAt code p).op && runI code k (succI code p)
def circI (code : List Ins) (d : List Int) : Option Nat := (List.range d.length).find? (fun p => decide (d.getD p (-1) ≠ -1) && runI code (d.length + 1) p)
end Go.Proofs.YtefijbpbenmbgaaDoor
namespace Go.Proofs.YtefijbpbenmbgaaDoor
open Go.RowKit
theorem lookK_pair : ∀ {L : List (Nat × Kind)} {op : Nat} {k : Kind}, lookK L op = some k → (op, k) ∈ L
 | [], _, _, h => by cases h
 | p :: r, op, k, h => by
   unfold lookK at h;split at h
   · rename_i e
     cases h
     subst e;exact List.mem_cons_self ..
   · exact List.mem_cons_of_mem _ (lookK_pair h)
theorem kind_parts {up : Nat} {k : Kind} (h : kindOf up = some k) : k.part = 0 ∨ (k.part = 1 ∧ up ≠ 1 ∧ up ≠ 3 ∧ up ≠ 6 ∧ up ≠ 7 ∧ up ≠ 53) ∨ (k.part = 2 ∧ up = 1) ∨ (k.part = 3 ∧ up = 3) ∨ (k.part = 4 ∧ (up = 6 ∨ up = 7)) ∨ (k.part = 5 ∧ up = 53) := by
 have a : ∀ p ∈ kindsL, p.2.part = 0 ∨ (p.2.part = 1 ∧ p.1 ≠ 1 ∧ p.1 ≠ 3 ∧ p.1 ≠ 6 ∧ p.1 ≠ 7 ∧ p.1 ≠ 53) ∨ (p.2.part = 2 ∧ p.1 = 1) ∨ (p.2.part = 3 ∧ p.1 = 3) ∨ (p.2.part = 4 ∧ (p.1 = 6 ∨ p.1 = 7)) ∨ (p.2.part = 5 ∧ p.1 = 53) := by decide
 exact a _ (lookK_pair h)
end Go.Proofs.YtefijbpbenmbgaaDoor
namespace Go.Proofs.YtefijbpbenmbgaaDoor
open Go.RowKit Go.Shelf
def mkI (op : Nat) (a : Int) : Ins := ⟨op, a, 0, []⟩
def opI (op : Nat) : Nat := if op = 11 then 6 else op
def loneOps : List Nat := [8, 9, 10, 11, 20, 21, 22, 23, 24, 25, 32, 33, 34, 35, 36, 37, 38, 39, 40, 41, 42, 43, 44, 45, 46, 47, 48, 50, 51, 52, 54, 55, 56, 57]
def loneI (x : Tw) : Ins := ⟨opI x.op, if x.op = 25 ∨ x.op = 50 ∨ x.op = 51 then x.kids else 0, x.num, x.text⟩
def SlotFit (x : Tw) (s : Int) : Prop := -1 ≤ s ∧ s < 100 ∧ (x.op = 2 ∨ x.op = 4 ∨ x.op = 5 ∨ x.op = 26 → 0 ≤ s)
def SlotsFit : List Tw → List Int → Prop
 | [], [] => True
 | x :: r, s :: t => SlotFit x s ∧ SlotsFit r t
 | _, _ => False
inductive Gens : Fs → Nat → List Ins → Prop
 | nil (p : Nat) : Gens .nil p []
 | seq {x k r p c d} : Gens (.cons x k .nil) p c → Gens r (p + c.length) d → Gens (.cons x k r) p (c ++ d)
 | flow {x k p c} : x.op = 1 → Gens k p c → Gens (.cons x k .nil) p (c ++ [mkI 28 0])
 | block {x k p c} : x.op = 2 ∨ x.op = 3 → Gens k p c → Gens (.cons x k .nil) p c
 | store {x k p c s} : x.op = 4 ∨ x.op = 5 → 0 ≤ s → s < 100 → Gens k p c → Gens (.cons x k .nil) p (c ++ [mkI 27 s])
 | load {x p s} : x.op = 26 → 0 ≤ s → s < 100 → Gens (.cons x .nil .nil) p [mkI 26 s]
 | if2 {x a ka b kb p c d} : x.op = 6 → Gens (.cons a ka .nil) p c → Gens (.cons b kb .nil) (p + c.length + 1) d →
     Gens (.cons x (.cons a ka (.cons b kb .nil)) .nil) p (c ++ mkI 2 ((p + c.length + 1 + d.length : Nat) : Int) :: d)
 | if3 {x a ka b kb f kf p c d e} : x.op = 6 → Gens (.cons a ka .nil) p c → Gens (.cons b kb .nil) (p + c.length + 1) d → Gens (.cons f kf .nil) (p + c.length + 1 + d.length + 1) e →
     Gens (.cons x (.cons a ka (.cons b kb (.cons f kf .nil))) .nil) p (c ++ mkI 2 ((p + c.length + 1 + d.length + 1 : Nat) : Int) :: (d ++ mkI 1 ((p + c.length + 1 + d.length + 1 + e.length : Nat) : Int) :: e))
 | loop {x a ka b kb p c d} : x.op = 7 → Gens (.cons a ka .nil) p c → Gens (.cons b kb .nil) (p + c.length + 1) d →
     Gens (.cons x (.cons a ka (.cons b kb .nil)) .nil) p (c ++ mkI 2 ((p + c.length + 1 + d.length + 1 : Nat) : Int) :: (d ++ [mkI 1 (p : Int)]))
 | either {x a ka b kb p c d} : x.op = 30 ∨ x.op = 31 → Gens (.cons a ka .nil) p c → Gens (.cons b kb .nil) (p + c.length + 1) d →
     Gens (.cons x (.cons a ka (.cons b kb .nil)) .nil) p (c ++ mkI (x.op - 27) ((p + c.length + 1 + d.length + 1 : Nat) : Int) :: (d ++ [mkI 5 0]))
 | fork {x a ka p c} : x.op = 53 → Gens (.cons a ka .nil) (p + 2) c →
     Gens (.cons x (.cons a ka .nil) .nil) p (mkI 53 ((p + 2 : Nat) : Int) :: mkI 1 ((p + 2 + c.length + 1 : Nat) : Int) :: (c ++ [mkI 28 0]))
 | lone {x k p c} : x.op ∈ loneOps → Gens k p c → Gens (.cons x k .nil) p (c ++ [loneI x])
theorem flat_one (x : Tw) (k : Fs) : (Fs.cons x k .nil).flat = x :: k.flat := by
 show x :: (k.flat ++ []) = _
 rw [List.append_nil]
theorem gens_len {F : Fs} {p : Nat} {c : List Ins} (h : Gens F p c) : c.length ≤ 3 * F.flat.length := by
 induction h with
 | nil => simp
 | @seq x k r p c d _ _ h1 h2 =>
   rw [flat_one, List.length_cons] at h1;show _ ≤ 3 * (x :: (k.flat ++ r.flat)).length
   simp only [List.length_append, List.length_cons] at *;omega
 | @flow x k p c _ _ h =>
   simp only [Fs.flat, List.length_append, List.length_cons, List.length_nil] at *;omega
 | @block x k p c _ _ h =>
   simp only [Fs.flat, List.length_append, List.length_cons, List.length_nil] at *;omega
 | @store x k p c s _ _ _ _ h =>
   simp only [Fs.flat, List.length_append, List.length_cons, List.length_nil] at *;omega
 | @lone x k p c _ _ h =>
   simp only [Fs.flat, List.length_append, List.length_cons, List.length_nil] at *;omega
 | @load x p s _ _ _ => simp [Fs.flat]
 | @if2 x a ka b kb p c d _ _ _ h1 h2 =>
   simp only [Fs.flat, List.length_append, List.length_cons, List.length_nil] at *;omega
 | @loop x a ka b kb p c d _ _ _ h1 h2 =>
   simp only [Fs.flat, List.length_append, List.length_cons, List.length_nil] at *;omega
 | @either x a ka b kb p c d _ _ _ h1 h2 =>
   simp only [Fs.flat, List.length_append, List.length_cons, List.length_nil] at *;omega
 | @if3 x a ka b kb f kf p c d e _ _ _ _ h1 h2 h3 =>
   simp only [Fs.flat, List.length_append, List.length_cons, List.length_nil] at *;omega
 | @fork x a ka p c _ _ h =>
   simp only [Fs.flat, List.length_append, List.length_cons, List.length_nil] at *;omega
theorem lone_facts {op : Nat} (h : op ∈ loneOps) : op < 58 ∧ op ≠ 1 ∧ op ≠ 2 ∧ op ≠ 3 ∧ op ≠ 4 ∧ op ≠ 5 ∧ op ≠ 6 ∧ op ≠ 7 ∧ op ≠ 26 ∧ op ≠ 28 ∧ op ≠ 30 ∧ op ≠ 31 ∧ op ≠ 53 := by
 have : ∀ o ∈ loneOps, o < 58 ∧ o ≠ 1 ∧ o ≠ 2 ∧ o ≠ 3 ∧ o ≠ 4 ∧ o ≠ 5 ∧ o ≠ 6 ∧ o ≠ 7 ∧ o ≠ 26 ∧ o ≠ 28 ∧ o ≠ 30 ∧ o ≠ 31 ∧ o ≠ 53 := by decide
 exact this op h
theorem kind_ops {op : Nat} {k : Kind} (h : kindOf op = some k) : op ∈ loneOps ∨ op = 1 ∨ op = 2 ∨ op = 3 ∨ ((op = 4 ∨ op = 5) ∧ k.least = 1 ∧ k.most = 1) ∨ (op = 26 ∧ k.most = 0) ∨ (op = 6 ∧ k.least = 2 ∧ k.most = 3) ∨ ((op = 7 ∨ op = 30 ∨ op = 31) ∧ k.least = 2 ∧ k.most = 2) ∨ (op = 53 ∧ k.least = 1 ∧ k.most = 1) := by
 have a : ∀ p ∈ kindsL, p.1 ∈ loneOps ∨ p.1 = 1 ∨ p.1 = 2 ∨ p.1 = 3 ∨ ((p.1 = 4 ∨ p.1 = 5) ∧ p.2.least = 1 ∧ p.2.most = 1) ∨ (p.1 = 26 ∧ p.2.most = 0) ∨ (p.1 = 6 ∧ p.2.least = 2 ∧ p.2.most = 3) ∨ ((p.1 = 7 ∨ p.1 = 30 ∨ p.1 = 31) ∧ p.2.least = 2 ∧ p.2.most = 2) ∨ (p.1 = 53 ∧ p.2.least = 1 ∧ p.2.most = 1) := by decide
 exact a _ (lookK_pair h)
theorem forest0 {k : Fs} (h : k.count = 0) : k = .nil := by
 cases k with
 | nil => rfl
 | cons x k r => simp [Fs.count] at h
theorem forestS {k : Fs} {n : Nat} (h : k.count = n + 1) : ∃ a ka r, k = .cons a ka r ∧ r.count = n := by
 cases k with
 | nil => simp [Fs.count] at h
 | cons x k r => exact ⟨x, k, r, rfl, by simp only [Fs.count] at h; omega⟩
inductive Shape (x : Tw) : Fs → Prop
 | lone {k} : x.op ∈ loneOps → Shape x k
 | flow {k} : x.op = 1 → Shape x k
 | block {k} : x.op = 2 ∨ x.op = 3 → Shape x k
 | store {a ka} : x.op = 4 ∨ x.op = 5 → Shape x (.cons a ka .nil)
 | load : x.op = 26 → Shape x .nil
 | if2 {a ka b kb} : x.op = 6 → x.kids = 2 → Shape x (.cons a ka (.cons b kb .nil))
 | if3 {a ka b kb c kc} : x.op = 6 → x.kids = 3 → Shape x (.cons a ka (.cons b kb (.cons c kc .nil)))
 | loop {a ka b kb} : x.op = 7 → Shape x (.cons a ka (.cons b kb .nil))
 | either {a ka b kb} : x.op = 30 ∨ x.op = 31 → Shape x (.cons a ka (.cons b kb .nil))
 | fork {a ka} : x.op = 53 → Shape x (.cons a ka .nil)
theorem shape_of {x : Tw} {k : Fs} (h : (Fs.cons x k .nil).ok) : Shape x k := by
 obtain ⟨⟨kd, hk, ha, _⟩, hn, _, _⟩ := h;have hlm : (kd.least : Int) ≤ x.kids ∧ x.kids ≤ (kd.most : Int) := by
   unfold allowsB at ha;simp only [Bool.and_eq_true, decide_eq_true_eq] at ha;exact ⟨ha.1.1.2, ha.1.2⟩
 rcases kind_ops hk with c | c | c | c | ⟨c, l, m⟩ | ⟨c, m⟩ | ⟨c, l, m⟩ | ⟨c, l, m⟩ | ⟨c, l, m⟩
 · exact .lone c
 · exact .flow c
 · exact .block (.inl c)
 · exact .block (.inr c)
 · obtain ⟨a, ka, r, rfl, hr⟩ := forestS (n := 0) (show k.count = 0 + 1 by omega)
   rw [forest0 hr];exact .store c
 · rw [forest0 (show k.count = 0 by omega)]
   exact .load c
 · rcases (show k.count = 2 ∨ k.count = 3 by omega) with e | e
   · obtain ⟨a, ka, r, rfl, hr⟩ := forestS (n := 1) e
     obtain ⟨b, kb, r, rfl, hr2⟩ := forestS (n := 0) hr;rw [forest0 hr2];exact .if2 c (by simp only [Fs.count] at *; omega)
   · obtain ⟨a, ka, r, rfl, hr⟩ := forestS (n := 2) e
     obtain ⟨b, kb, r, rfl, hr2⟩ := forestS (n := 1) hr;obtain ⟨f, kf, r, rfl, hr3⟩ := forestS (n := 0) hr2;rw [forest0 hr3];exact .if3 c (by simp only [Fs.count] at *; omega)
 · obtain ⟨a, ka, r, rfl, hr⟩ := forestS (n := 1) (show k.count = 1 + 1 by omega)
   obtain ⟨b, kb, r, rfl, hr2⟩ := forestS (n := 0) hr;rw [forest0 hr2];rcases c with c | c
   · exact .loop c
   · exact .either c
 · obtain ⟨a, ka, r, rfl, hr⟩ := forestS (n := 0) (show k.count = 0 + 1 by omega)
   rw [forest0 hr];exact .fork c
end Go.Proofs.YtefijbpbenmbgaaDoor
namespace Go.Proofs.YtefijbpbenmbgaaDoor
open Go.RowKit
def insC (x : Ins) : List Value := [.int .u8 x.op, .int .i64 x.a, .int .i64 x.num, .string ⟨x.text.toArray⟩]
def insV (x : Ins) : Value := .agg #[.int .u8 x.op, .int .i64 x.a, .int .i64 x.num, .string ⟨x.text.toArray⟩]
def InsIn (w : World) (v : Value) (ts : List Ins) : Prop :=
 ∃ a cap, v = .slice a ts.length cap ∧ ts.length ≤ cap ∧ cap ≤ 9223372036854775807 ∧ (0 < ts.length → ∃ g off, a = some ⟨g, off, none⟩ ∧ g < w.heap.size ∧ ∀ i (hi : i < ts.length) (c : Nat), c < 4 → w.cell? ⟨g, off + i * 4 + c, none⟩ = (insC ts[i])[c]?)
def FitIns (x : Ins) : Prop := x.text.length ≤ 9223372036854775807 ∧ I64 x.a ∧ I64 x.num ∧ x.op < 256
theorem InsIn.below {w W : World} {v : Value} {ts : List Ins} (h : InsIn w v ts) (hb : Below w.heap.size w W) : InsIn W v ts := by
 obtain ⟨a, cap, rfl, h1, h2, h3⟩ := h;refine ⟨a, cap, rfl, h1, h2, fun h0 => ?_⟩;obtain ⟨g, off, rfl, hg, hc⟩ := h3 h0;exact ⟨g, off, rfl, Nat.lt_of_lt_of_le hg hb.size, fun i hi c hc' => (hb.cell (p := ⟨g, off + i * 4 + c, none⟩) hg).trans (hc i hi c hc')⟩
theorem ins_cells {w W : World} {g off : Nat} {ts : List Ins} (hg : g < w.heap.size) (hc : ∀ i (hi : i < ts.length) (c : Nat), c < 4 → w.cell? ⟨g, off + i * 4 + c, none⟩ = (insC ts[i])[c]?) (hb : Below w.heap.size w W) {i : Nat} (hi : i < ts.length) {op : Nat} {a x : Int} {tx : List UInt8} (ht : ts[i] = ⟨op, a, x, tx⟩) :
   W.cell? ⟨g, off + i * 4, none⟩ = some (.int .u8 op) ∧ W.cell? ⟨g, off + i * 4 + 1, none⟩ = some (.int .i64 a) ∧ W.cell? ⟨g, off + i * 4 + 2, none⟩ = some (.int .i64 x) ∧ W.cell? ⟨g, off + i * 4 + 3, none⟩ = some (.string ⟨tx.toArray⟩) := by
 have h0 := (hb.cell (p := ⟨g, off + i * 4 + 0, none⟩) hg).trans (hc i hi 0 (by omega));have h1 := (hb.cell (p := ⟨g, off + i * 4 + 1, none⟩) hg).trans (hc i hi 1 (by omega));have h2 := (hb.cell (p := ⟨g, off + i * 4 + 2, none⟩) hg).trans (hc i hi 2 (by omega));have h3 := (hb.cell (p := ⟨g, off + i * 4 + 3, none⟩) hg).trans (hc i hi 3 (by omega));rw [ht] at h0 h1 h2 h3;exact ⟨h0, h1, h2, h3⟩
theorem inAt_get {code : List Ins} {i : Nat} (hi : i < code.length) : inAt code i = code[i] := by
 unfold inAt;rw [List.getD_eq_getElem?_getD, List.getElem?_eq_getElem hi]; rfl
theorem InsIn.cells {w W : World} {v : Value} {ts : List Ins} (h : InsIn w v ts) (hb : Below w.heap.size w W) {i : Nat} (hi : i < ts.length) {op : Nat} {a x : Int} {tx : List UInt8} (ht : inAt ts i = ⟨op, a, x, tx⟩) : ∃ g off cap, v = .slice (some ⟨g, off, none⟩) ts.length cap ∧ g < w.heap.size ∧
   W.cell? ⟨g, off + i * 4, none⟩ = some (.int .u8 op) ∧ W.cell? ⟨g, off + i * 4 + 1, none⟩ = some (.int .i64 a) ∧ W.cell? ⟨g, off + i * 4 + 2, none⟩ = some (.int .i64 x) ∧ W.cell? ⟨g, off + i * 4 + 3, none⟩ = some (.string ⟨tx.toArray⟩) := by
 obtain ⟨ad, cap, rfl, _, _, h3⟩ := h;obtain ⟨g, off, rfl, hg, hc⟩ := h3 (by omega);exact ⟨g, off, cap, rfl, hg, ins_cells hg hc hb hi (by rw [← inAt_get hi]; exact ht)⟩
end Go.Proofs.YtefijbpbenmbgaaDoor
namespace Go.Proofs.YtefijbpbenmbgaaDoor
open Go.RowKit
theorem insC_len (t : Ins) : (insC t).length = 4 := rfl
theorem insC_one (t : Ins) : ∀ u ∈ insC t, u.oneCell' = true := by
 intro u hu;simp only [insC, List.mem_cons, List.not_mem_nil, or_false] at hu;rcases hu with rfl | rfl | rfl | rfl <;> rfl
theorem ins_info : (Tryd.prog.info? 36).map (fun i => (i.zero, i.size, i.bytes)) = some (some (.agg #[.int .u8 0, .int .i64 0, .int .i64 0, .string ⟨#[]⟩]), 4, 40) := by kernel_rfl
theorem ins_parts : ∃ i0, Tryd.prog.info? 36 = some i0 ∧ i0.zero = some (.agg #[.int .u8 0, .int .i64 0, .int .i64 0, .string ⟨#[]⟩]) ∧ i0.size = 4 ∧ i0.bytes = 40 := by
 have h := ins_info;cases hi : Tryd.prog.info? 36 with
 | none => rw [hi] at h; simp at h
 | some i0 =>
   rw [hi] at h;simp at h
   exact ⟨i0, rfl, h.1, h.2.1, h.2.2⟩
def InsAt (w : World) (base : Nat) (v : Value) (ts : List Ins) : Prop := w.ownsRow base 36 4 v ts.length (rowOf insC ts)
section
variable {w W : World} {base : Nat} {v : Value} {ts : List Ins}
theorem InsAt.below (h : InsAt w base v ts) (hb : Below w.heap.size w W) : InsAt W base v ts := ownsRow_only (F := fun _ => False) h (Only.of_below hb) (fun _ _ h => h)
theorem InsAt.shape (h : InsAt w base v ts) : ∃ a cap, v = .slice a ts.length cap ∧ ts.length ≤ cap ∧ cap ≤ 9223372036854775807 := ownsRow_shape h
theorem InsAt.insIn (h : InsAt w base v ts) : InsIn w v ts := by
 rcases h.2 with ⟨hv, h0⟩ | ⟨g, cap, cur, hv, hb, hg, hnc, hcm, hsz, ht⟩
 · exact ⟨none, 0, by rw [hv, h0], by omega, by omega, fun h => by omega⟩
 · refine ⟨_, cap, hv, hnc, by unfold maxLen at hcm; omega, fun h0 => ⟨g, 0, rfl, (Array.getElem?_eq_some_iff.1 hg).1, fun i hi c hc => ?_⟩⟩
   have hh := h;unfold InsAt at hh;rw [hv] at hh;have := World.ownsRow.cellAt (g := g) (cap := cap) hh (i * 4 + c) (by omega);rw [Nat.zero_add, this];exact rowOf_get insC_len ts i c hi hc
end
end Go.Proofs.YtefijbpbenmbgaaDoor
