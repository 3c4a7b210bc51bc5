/- A part of the proof: RLook, Fs, ShV, ShP. No condition. -/
import Derived.OwnWalk
import Derived.Test.YtjiemkidmlgbeaaDoorQ03
import Derived.Test.YtjiemkidmlgbeaaDoorQ04
set_option linter.unusedVariables false
set_option linter.unusedSimpArgs false
namespace Go.Proofs.YtjiemkidmlgbeaaDoor
open Go.RowKit Go.Shelf
def lookF (ts : List Tw) : Nat × Nat × Int :=
 if 2048 < ts.length then (0, 0, 2) else if ts.length = 0 then (0, 0, 3) else
   if (passF ts.length ts 1 ⟨0, 0, 0⟩).1 = false ∨ (passF ts.length ts 1 ⟨0, 0, 0⟩).2.gone < ts.length then ((passF ts.length ts 1 ⟨0, 0, 0⟩).2.gone, 0, 3)
   else if 0 < (passF ts.length ts 1 ⟨0, 0, 0⟩).2.tooDeep then ((passF ts.length ts 1 ⟨0, 0, 0⟩).2.tooDeep, 0, 2) else (0, (passF ts.length ts 1 ⟨0, 0, 0⟩).2.deepest, 0)
def Held (w : World) (p : Addr) (v : Value) : Prop := w.cell? p = some v ∧ w.frozen? p = false
theorem Held.up {w : World} {p : Addr} {v : Value} (h : Held w p v) (o : Obj) : Held (w.alloc o) p v :=
 ⟨cell_on h.1 ((Below.refl _ w).alloc (Nat.le_refl _) o), frozen_on h.1 h.2 ((Below.refl _ w).alloc (Nat.le_refl _) o)⟩
theorem held_new {w : World} {n : Nat} (hn : w.heap.size = n) (v : Value) (t : TypeId) : Held (w.alloc (.cells #[v] t)) ⟨n, 0, none⟩ v := by
 subst hn;exact ⟨one_cell w #[v] t 0, by have h := heap_alloc_new w (.cells #[v] t); unfold World.frozen?; dsimp only; rw [h]; rfl⟩
theorem look_mem (w : World) {v : Value} {ts : List Tw} {b : Nat} (hT : TwIn w v ts) (hK : KMap w b tabL) (t0 t1 t2 t3 t4 t5 : TypeId) (W : World) (hW : W = ((((((w.alloc (.cells #[.map (some b)] t0)).alloc (.cells #[v] t1)).alloc (.cells #[.int .i64 0] t2)).alloc (.cells #[.int .i64 0] t3)).alloc (.cells #[.int .i64 0] t4)).alloc (.cells #[.func (.func 57) #[] #[.pointer (some ⟨w.heap.size + 1, 0, none⟩), .pointer (some ⟨w.heap.size + 1 + 1, 0, none⟩), .pointer (some ⟨w.heap.size, 0, none⟩), .pointer (some ⟨w.heap.size + 1 + 1 + 1 + 1, 0, none⟩), .pointer (some ⟨w.heap.size + 1 + 1 + 1, 0, none⟩), .pointer (some ⟨w.heap.size + 1 + 1 + 1 + 1 + 1, 0, none⟩)]] t5))) :
   PMem W (w.heap.size + 1) w.heap.size (w.heap.size + 1 + 1) (w.heap.size + 1 + 1 + 1) (w.heap.size + 1 + 1 + 1 + 1) (w.heap.size + 1 + 1 + 1 + 1 + 1) v ts ⟨0, 0, 0⟩ ∧ Below w.heap.size w W := by
 have hB : Below w.heap.size w W := by
   rw [hW];refine ((((((Below.refl _ w).alloc ?_ _).alloc ?_ _).alloc ?_ _).alloc ?_ _).alloc ?_ _).alloc ?_ _ <;> (simp; try omega)
 refine ⟨⟨?_, ⟨b, ?_, hK.below hB hK.lt⟩, ?_, ?_, ?_, ?_, hT.below hB⟩, hB⟩ <;> rw [hW]
 · exact (((((held_new (by simp) v t1).up _).up _).up _).up _).1
 · exact ((((((held_new rfl _ t0).up _).up _).up _).up _).up _).1
 · exact ((((held_new (by simp) _ t2).up _).up _).up _)
 · exact (((held_new (by simp) _ t3).up _).up _)
 · exact ((held_new (by simp) _ t4).up _)
 · exact (held_new (by simp) _ t5).1
set_option maxRecDepth 20000 in
set_option maxHeartbeats 4000000 in
theorem look_any {v : Value} {ts : List Tw} {b : Nat} (w : World) (hT : TwIn w v ts) (hf : ∀ x ∈ ts, FitT x) (hK : KMap w b tabL) :
   Calls Tryd.prog 27 #[.map (some b), v] w fun e w' => e = .returned (.tuple #[.int .i64 (lookF ts).1, .int .i64 (lookF ts).2.1, .int .i64 (lookF ts).2.2]) ∧ Below w.heap.size w w' := by
 obtain ⟨Z, hZ⟩ := exHid (lookF ts);rw [hZ.out];have hT' := Lib.hid hT;have hsf := fun c => sv_any (v := .func (.func 57) #[] c) rfl
 obtain ⟨a, cap, rfl, htc, htm, hcells⟩ := id hT;have hz := hZ.out;unfold lookF at hz;clear hZ;by_cases h1 : 2048 < ts.length
 · rw [if_pos h1] at hz
   have h1i : (2048 : Int) < (ts.length : Int) := by omega
   replace hz := Lib.hid hz;clear hcells hT;go_enter Tryd.func27, Tryd.ntmps27
   go_wp2_with fail
   refine bodyPost_ret (results_tmp3 rfl _ _ _) rfl ?_;rw [← hz.out];exact ⟨rfl, by go_grown⟩
 · rw [if_neg h1] at hz
   have h1i : ¬ (2048 : Int) < (ts.length : Int) := by omega
   by_cases h0 : ts.length = 0
   · rw [if_pos h0] at hz
     have h0i : ((ts.length : Int) == 0) = true := by rw [h0]; rfl
     replace hz := Lib.hid hz;replace h0 := Lib.hid h0;clear hcells hT;go_enter Tryd.func27, Tryd.ntmps27
     go_wp2_with fail
     refine bodyPost_ret (results_tmp3 rfl _ _ _) rfl ?_;rw [← hz.out];exact ⟨rfl, by go_grown⟩
   · rw [if_neg h0] at hz
     have h0i : ((ts.length : Int) == 0) = false := beq_eq_false_iff_ne.2 (by omega);obtain ⟨g, off, rfl, hg, hc⟩ := hcells (by omega);clear hc;replace hz := Lib.hid hz;replace h0 := Lib.hid h0;replace hT := Lib.hid hT;go_enter Tryd.func27, Tryd.ntmps27
     go_wp2_with fail
     generalize hW : (World.alloc _ _) = W;have hM := look_mem w hT.out hK _ _ _ _ _ _ W hW.symm;clear hW;obtain ⟨hP, hB⟩ := hM;have hne : PNe (w.heap.size + 1) w.heap.size (w.heap.size + 1 + 1) (w.heap.size + 1 + 1 + 1) (w.heap.size + 1 + 1 + 1 + 1) (w.heap.size + 1 + 1 + 1 + 1 + 1) (.slice (some ⟨g, off, none⟩) ts.length cap) := by
       refine ⟨by omega, by omega, by omega, by omega, by omega, by omega, ?_⟩;intro g' off' l c e;cases e
       omega
     have kP := pass_any hne hf (by omega) ts.length 1 ⟨0, 0, 0⟩ W (by show 0 < _; have := h0.out; omega) (Nat.sub_le _ _) (by omega) (Nat.zero_le _) hP;have mono := pass_mono_at ts ts.length 1 1000000 ⟨0, 0, 0⟩ (by show 0 < _; have := h0.out; omega) (Nat.zero_le _) (by omega);replace hz := hz.out;generalize passF ts.length ts 1 ⟨0, 0, 0⟩ = R at kP mono hz;obtain ⟨rb, s5⟩ := R;dsimp only at kP mono hz;have hBs := hB.size;refine kP.mono ?_;rintro e w5 ⟨rfl, hP5, hO5⟩;have hB5 : Below w.heap.size w w5 := hB.trans (hO5.below hB.size (by intro k hk; omega));clear kP hP hO5;have pg := hP5.g.1;have pt := hP5.t;have pd := hP5.d.1;have px := hP5.x.1;rcases rb with _ | _
     · rw [if_pos (Or.inl rfl)] at hz
       replace hz := Lib.hid hz;replace hP5 := Lib.hid hP5;replace hB5 := Lib.hid hB5;go_wp2_with fail
       refine bodyPost_ret (results_tmp3 rfl _ _ _) rfl ?_;rw [← hz.out];exact ⟨rfl, hB5.out⟩
     · by_cases hgo : s5.gone < ts.length
       · rw [if_pos (Or.inr hgo)] at hz
         have hgi : (s5.gone : Int) < (ts.length : Int) := by omega
         replace hz := Lib.hid hz;replace hP5 := Lib.hid hP5;replace hB5 := Lib.hid hB5;go_wp2_with fail
         refine bodyPost_ret (results_tmp3 rfl _ _ _) rfl ?_;rw [← hz.out];exact ⟨rfl, hB5.out⟩
       · rw [if_neg (by simp; omega)] at hz
         have hgi : ¬ (s5.gone : Int) < (ts.length : Int) := by omega
         by_cases hx : 0 < s5.tooDeep
         · rw [if_pos hx] at hz
           have hxi : (0 : Int) < (s5.tooDeep : Int) := by omega
           replace hz := Lib.hid hz;replace hP5 := Lib.hid hP5;replace hB5 := Lib.hid hB5;go_wp2_with fail
           refine bodyPost_ret (results_tmp3 rfl _ _ _) rfl ?_;rw [← hz.out];exact ⟨rfl, hB5.out⟩
         · rw [if_neg hx] at hz
           have hxi : ¬ (0 : Int) < (s5.tooDeep : Int) := by omega
           replace hz := Lib.hid hz;replace hP5 := Lib.hid hP5;replace hB5 := Lib.hid hB5;replace hx := Lib.hid hx;go_wp2_with fail
           go_quiet (fail)
           go_wp2_with fail
           refine bodyPost_ret (results_tmp3 rfl _ _ _) rfl ?_;rw [← hz.out];exact ⟨rfl, below_drewN hB5.out _⟩
end Go.Proofs.YtjiemkidmlgbeaaDoor
namespace Go.Proofs.YtjiemkidmlgbeaaDoor
open Go.RowKit Go.Shelf
inductive Fs where
 | nil
 | cons (x : Tw) (k r : Fs)
def Fs.flat : Fs → List Tw
 | .nil => []
 | .cons x k r => x :: (k.flat ++ r.flat)
def Fs.count : Fs → Nat
 | .nil => 0
 | .cons _ _ r => r.count + 1
def Fs.part (pk : Nat) (n : Int) : Fs → Nat → Prop
 | .nil, _ => True
 | .cons x _ r, p => partOK pk (x.op : Int) (p : Int) n = true ∧ r.part pk n (p + 1)
def Fs.ok : Fs → Prop
 | .nil => True
 | .cons x k r => (∃ kd, kindOf x.op = some kd ∧ allowsB kd x = true ∧ k.part kd.part x.kids 0) ∧ x.kids = (k.count : Int) ∧ k.ok ∧ r.ok
theorem drop_at {ts : List Tw} {i : Nat} (h : i < ts.length) : ts.drop i = twAt ts i :: ts.drop (i + 1) := by
 rw [List.drop_eq_getElem_cons h];simp [twAt, List.getD_eq_getElem?_getD, List.getElem?_eq_getElem h]
theorem kids_forest (ts : List Tw) (k : Kind) (kids : Int) (f : PSt → Bool × PSt)
   (hf : ∀ s s', f s = (true, s') → s.gone < ts.length → s'.gone ≤ ts.length ∧ ∃ x K, (Fs.cons x K .nil).ok ∧ x = twAt ts s.gone ∧ ts.drop s.gone = x :: (K.flat ++ ts.drop s'.gone)) :
   ∀ (n p : Nat) (s s' : PSt), kidsF f ts k kids n p s = (true, s') → s.gone ≤ ts.length → s'.gone ≤ ts.length ∧ ∃ F : Fs, F.count = n ∧ F.ok ∧ F.part k.part kids p ∧ ts.drop s.gone = F.flat ++ ts.drop s'.gone
 | 0, _, s, s', h, hl => by
   cases h
   exact ⟨hl, .nil, rfl, trivial, trivial, rfl⟩
 | n + 1, p, s, s', h, hl => by
   unfold kidsF at h;split at h
   · cases h
   · rename_i h1
     split at h
     · cases h
     · rename_i h2
       split at h
       · cases h
       · rename_i h3
         rcases hq : f s with ⟨b, s2⟩
         rw [hq] at h h3;have hb : b = true := by cases b; exact absurd rfl h3; rfl
         subst hb;obtain ⟨a1, x, K, ⟨a2, a3, a4, _⟩, a5, a6⟩ := hf s s2 hq (by omega);obtain ⟨b1, F, b2, b3, b4, b5⟩ := kids_forest ts k kids f hf n (p + 1) s2 s' h a1;refine ⟨b1, .cons x K F, ?_, ⟨a2, a3, a4, b3⟩, ⟨?_, b4⟩, ?_⟩
         · show F.count + 1 = n + 1
           rw [b2]
         · rw [a5]
           cases hc : partOK k.part ((twAt ts s.gone).op : Int) (p : Int) kids with
           | true => rfl
           | false => exact absurd hc h2
         · show ts.drop s.gone = x :: (K.flat ++ F.flat) ++ ts.drop s'.gone
           rw [a6, b5];simp
theorem allows_least {k : Kind} {x : Tw} (h : allowsB k x = true) : 0 ≤ x.kids := by
 unfold allowsB at h;simp only [Bool.and_eq_true, decide_eq_true_eq] at h;omega
theorem pass_forest (ts : List Tw) : ∀ (fuel lies : Nat) (s s' : PSt), passF fuel ts lies s = (true, s') → s.gone < ts.length → s'.gone ≤ ts.length ∧ ∃ x K, (Fs.cons x K .nil).ok ∧ x = twAt ts s.gone ∧ ts.drop s.gone = x :: (K.flat ++ ts.drop s'.gone)
 | 0, _, s, s', h, _ => by cases h
 | fuel + 1, lies, s, s', h, hl => by
   unfold passF at h;split at h
   · cases h
   · rename_i k hk
     split at h
     · cases h
     · rename_i ha
       have ha' : allowsB k (twAt ts s.gone) = true := by
         cases hc : allowsB k (twAt ts s.gone) with
         | true => rfl
         | false => exact absurd hc ha
       obtain ⟨b1, F, b2, b3, b4, b5⟩ := kids_forest ts k (twAt ts s.gone).kids _ (fun t t' ht htl => pass_forest ts fuel (lies + 1) t t' ht htl) _ 0 (nextS s lies) s' h hl;refine ⟨b1, twAt ts s.gone, F, ⟨⟨k, hk, ha', b4⟩, ?_, b3, trivial⟩, rfl, ?_⟩
       · rw [b2]
         have := allows_least ha';omega
       · rw [drop_at hl]
         congr 1
theorem right_forest {ts : List Tw} (h : (lookF ts).2.2 = 0) : ∃ x K, (Fs.cons x K .nil).ok ∧ ts = x :: K.flat ∧ ts.length ≤ 2048 := by
 unfold lookF at h;split at h
 · cases h
 · split at h
   · cases h
   · split at h
     · cases h
     · rename_i h1 h0 h2
       rcases hq : passF ts.length ts 1 ⟨0, 0, 0⟩ with ⟨b, s'⟩
       rw [hq] at h2;have hb : b = true := by
         cases b
         · exact absurd (.inl rfl) h2
         · rfl
       subst hb;obtain ⟨a1, x, K, a2, _, a3⟩ := pass_forest ts _ _ _ _ hq (by show 0 < ts.length; omega);have hg : s'.gone = ts.length := by
         have : ¬ s'.gone < ts.length := fun h => h2 (.inr h)
         omega
       refine ⟨x, K, a2, ?_, by omega⟩;have e : ts.drop 0 = x :: (K.flat ++ ts.drop s'.gone) := a3;rw [hg, List.drop_length, List.append_nil, List.drop_zero] at e;exact e
end Go.Proofs.YtjiemkidmlgbeaaDoor
namespace Go.Proofs.YtjiemkidmlgbeaaDoor
open Go.RowKit Go.Shelf
def Fs.exprs : Fs → Prop
 | .nil => True
 | .cons x _ r => exprB x.op = true ∧ r.exprs
def Fs.stmts : Fs → Prop
 | .nil => True
 | .cons x _ r => stmtB x.op = true ∧ r.stmts
def Fs.params : Fs → Prop
 | .nil => False
 | .cons x _ .nil => x.op = 3
 | .cons x _ (.cons y k r) => x.op = 2 ∧ Fs.params (.cons y k r)
inductive View : Tw → Fs → Prop where
 | bare (op : Nat) (ho : op = 20 ∨ op = 21 ∨ op = 22 ∨ op = 57) : View ⟨op, 0, 0, []⟩ .nil
 | int (n : Nat) : View ⟨23, 0, (n : Int), []⟩ .nil
 | text (s : List UInt8) (h : s.length ≤ 4095) : View ⟨24, 0, 0, s⟩ .nil
 | own (op : Nat) (s : List UInt8) (ho : op = 26 ∨ op = 56 ∨ op = 2) (h : ownL s = true) : View ⟨op, 0, 0, s⟩ .nil
 | one (op : Nat) (a : Tw) (ka : Fs) (ho : (43 ≤ op ∧ op ≤ 48) ∨ op = 52 ∨ op = 54 ∨ op = 55 ∨ (8 ≤ op ∧ op ≤ 11)) (ha : exprB a.op = true) : View ⟨op, 1, 0, []⟩ (.cons a ka .nil)
 | set (op : Nat) (s : List UInt8) (a : Tw) (ka : Fs) (ho : op = 4 ∨ op = 5) (h : ownL s = true) (ha : exprB a.op = true) : View ⟨op, 1, 0, s⟩ (.cons a ka .nil)
 | two (op : Nat) (a : Tw) (ka : Fs) (b : Tw) (kb : Fs) (h1 : 30 ≤ op) (h2 : op ≤ 42) (ha : exprB a.op = true) (hb : exprB b.op = true) : View ⟨op, 2, 0, []⟩ (.cons a ka (.cons b kb .nil))
 | list (k : Fs) (hk : k.exprs) (hn : k.count ≤ 2048) : View ⟨25, (k.count : Int), 0, []⟩ k
 | call (op : Nat) (s : List UInt8) (k : Fs) (ho : op = 50 ∨ op = 51) (h : ownL s = true) (hk : k.exprs) (hn : k.count ≤ 2048) : View ⟨op, (k.count : Int), 0, s⟩ k
 | fork (b : Tw) (kb : Fs) (hb : b.op = 3) : View ⟨53, 1, 0, []⟩ (.cons b kb .nil)
 | block (k : Fs) (hk : k.stmts) (hn : k.count ≤ 2048) : View ⟨3, (k.count : Int), 0, []⟩ k
 | cond2 (op : Nat) (a : Tw) (ka : Fs) (b : Tw) (kb : Fs) (ho : op = 6 ∨ op = 7) (ha : exprB a.op = true) (hb : b.op = 3) : View ⟨op, 2, 0, []⟩ (.cons a ka (.cons b kb .nil))
 | cond3 (a : Tw) (ka : Fs) (b : Tw) (kb : Fs) (c : Tw) (kc : Fs) (ha : exprB a.op = true) (hb : b.op = 3) (hc : c.op = 3) : View ⟨6, 3, 0, []⟩ (.cons a ka (.cons b kb (.cons c kc .nil)))
 | flow (s : List UInt8) (k : Fs) (h : ownL s = true) (hk : k.params) (hn : k.count ≤ 2048) : View ⟨1, (k.count : Int), 0, s⟩ k
theorem parts_exprs (n : Int) : ∀ (F : Fs) (p : Nat), F.part 1 n p → F.exprs
 | .nil, _, _ => trivial
 | .cons x k r, p, ⟨a, b⟩ => by
   refine ⟨?_, parts_exprs n r (p + 1) b⟩;unfold partOK at a;rw [if_pos rfl, Int.toNat_natCast] at a;exact a
theorem parts_stmts (n : Int) : ∀ (F : Fs) (p : Nat), F.part 3 n p → F.stmts
 | .nil, _, _ => trivial
 | .cons x k r, p, ⟨a, b⟩ => by
   refine ⟨?_, parts_stmts n r (p + 1) b⟩;unfold partOK at a;rw [if_neg (by decide), if_neg (by decide), if_pos rfl, Int.toNat_natCast] at a;exact a
theorem op_is {op k : Nat} (h : ((op : Int) == (k : Int)) = true) : op = k := by
 have : (op : Int) = k := by simpa using h
 omega
theorem parts_params (n : Nat) : ∀ (F : Fs) (p : Nat), p + F.count = n → 0 < F.count → F.part 2 (n : Int) p → F.params
 | .nil, _, _, h, _ => absurd h (by decide)
 | .cons x k .nil, p, hn, _, ⟨a, _⟩ => by
   have e : (Fs.cons x k .nil).count = 1 := rfl;unfold partOK at a;rw [if_neg (by decide), if_pos rfl, if_neg (by omega)] at a;exact op_is a
 | .cons x k (.cons y k' r'), p, hn, _, ⟨a, b⟩ => by
   have e : (Fs.cons x k (.cons y k' r')).count = (Fs.cons y k' r').count + 1 := rfl;have e2 : (Fs.cons y k' r').count = r'.count + 1 := rfl;unfold partOK at a;rw [if_neg (by decide), if_pos rfl, if_pos (by omega)] at a;exact ⟨op_is a, parts_params n (.cons y k' r') (p + 1) (by omega) (by omega) b⟩
def kindV' (p : Nat × Kind) : Bool :=
 (p.2.text == 0 && p.2.least == 0 && p.2.most == 0 && (p.1 == 20 || p.1 == 21 || p.1 == 22 || p.1 == 57 || p.1 == 23)) ||
 (p.2.text == 2 && p.2.least == 0 && p.2.most == 0 && p.1 == 24) ||
 (p.2.text == 1 && p.2.least == 0 && p.2.most == 0 && (p.1 == 26 || p.1 == 56 || p.1 == 2)) ||
 (p.2.text == 0 && p.2.least == 1 && p.2.most == 1 && p.2.part == 1 && (decide (43 ≤ p.1 ∧ p.1 ≤ 48) || p.1 == 52 || p.1 == 54 || p.1 == 55 || decide (8 ≤ p.1 ∧ p.1 ≤ 11))) ||
 (p.2.text == 1 && p.2.least == 1 && p.2.most == 1 && p.2.part == 1 && (p.1 == 4 || p.1 == 5)) ||
 (p.2.text == 0 && p.2.least == 2 && p.2.most == 2 && p.2.part == 1 && decide (30 ≤ p.1 ∧ p.1 ≤ 42)) ||
 (p.2.text == 0 && p.2.least == 0 && p.2.most == 2048 && p.2.part == 1 && p.1 == 25) ||
 (p.2.text == 1 && p.2.least == 0 && p.2.most == 2048 && p.2.part == 1 && (p.1 == 50 || p.1 == 51)) ||
 (p.2.text == 0 && p.2.least == 1 && p.2.most == 1 && p.2.part == 5 && p.1 == 53) ||
 (p.2.text == 0 && p.2.least == 0 && p.2.most == 2048 && p.2.part == 3 && p.1 == 3) ||
 (p.2.text == 0 && p.2.least == 2 && p.2.most == 3 && p.2.part == 4 && p.1 == 6) ||
 (p.2.text == 0 && p.2.least == 2 && p.2.most == 2 && p.2.part == 4 && p.1 == 7) ||
 (p.2.text == 1 && p.2.least == 1 && p.2.most == 2048 && p.2.part == 2 && p.1 == 1)
theorem kind_in : ∀ {L : List (Nat × Kind)} {op : Nat} {k : Kind}, lookK L op = some k → (op, k) ∈ L
 | [], _, _, h => by cases h
 | p :: r, op, k, h => by
   unfold lookK at h;split at h
   · rename_i e
     cases h
     subst e;exact List.mem_cons_self ..
   · exact List.mem_cons_of_mem _ (kind_in h)
theorem kinds_all : ∀ p ∈ kindsL, kindV' p = true := by decide
theorem txt0 {s : List UInt8} (h : textOK 0 s = true) : s = [] := by
 unfold textOK at h;rw [if_pos rfl] at h
 simpa using h
theorem cnt0 {F : Fs} (h : F.count = 0) : F = .nil := by
 cases F with
 | nil => rfl
 | cons x k r => exact absurd h (by show r.count + 1 ≠ 0; omega)
theorem cnt1 {F : Fs} (h : F.count = 1) : ∃ a ka, F = .cons a ka .nil := by
 cases F with
 | nil => exact absurd h (by decide)
 | cons x k r =>
   have e : (Fs.cons x k r).count = r.count + 1 := rfl;exact ⟨x, k, by rw [cnt0 (F := r) (by omega)]⟩
theorem cnt2 {F : Fs} (h : F.count = 2) : ∃ a ka b kb, F = .cons a ka (.cons b kb .nil) := by
 cases F with
 | nil => exact absurd h (by decide)
 | cons x k r =>
   have e : (Fs.cons x k r).count = r.count + 1 := rfl;obtain ⟨b, kb, hb⟩ := cnt1 (F := r) (by omega);exact ⟨x, k, b, kb, by rw [hb]⟩
theorem cnt3 {F : Fs} (h : F.count = 3) : ∃ a ka b kb c kc, F = .cons a ka (.cons b kb (.cons c kc .nil)) := by
 cases F with
 | nil => exact absurd h (by decide)
 | cons x k r =>
   have e : (Fs.cons x k r).count = r.count + 1 := rfl;obtain ⟨b, kb, c, kc, hb⟩ := cnt2 (F := r) (by omega);exact ⟨x, k, b, kb, c, kc, by rw [hb]⟩
theorem cond_parts {n : Int} {a b : Tw} {ka kb r : Fs} (h : (Fs.cons a ka (.cons b kb r)).part 4 n 0) : exprB a.op = true ∧ b.op = 3 ∧ r.part 4 n 2 := by
 obtain ⟨h1, h2, h3⟩ := h;unfold partOK at h1 h2;rw [if_neg (by decide), if_neg (by decide), if_neg (by decide), if_pos rfl, if_pos (by decide), Int.toNat_natCast] at h1;rw [if_neg (by decide), if_neg (by decide), if_neg (by decide), if_pos rfl, if_neg (by decide)] at h2;exact ⟨h1, op_is h2, h3⟩
theorem view {x : Tw} {k r : Fs} (h : (Fs.cons x k r).ok) : View x k := by
 obtain ⟨⟨kd, hk, ha, hp⟩, hn, -, -⟩ := h;obtain ⟨op, kids, num, text⟩ := x;dsimp only at hk hp hn;subst hn;have hv := kinds_all _ (kind_in hk);unfold allowsB at ha;simp only [Bool.and_eq_true, decide_eq_true_eq] at ha;obtain ⟨⟨⟨h0, h1⟩, h2⟩, h3⟩ := ha;have hnum : op ≠ 23 → num = 0 := by
   intro h;simp only [Bool.or_eq_true, Bool.and_eq_true, beq_iff_eq, decide_eq_true_eq] at h0;omega
 obtain ⟨kt, kl, km, kp⟩ := kd;dsimp only at *;unfold kindV' at hv;simp only [Bool.or_eq_true, Bool.and_eq_true, beq_iff_eq, decide_eq_true_eq] at hv;rcases hv with (((((((((((⟨⟨⟨rfl, rfl⟩, rfl⟩, ho⟩ | ⟨⟨⟨rfl, rfl⟩, rfl⟩, ho⟩) | ⟨⟨⟨rfl, rfl⟩, rfl⟩, ho⟩) | ⟨⟨⟨⟨rfl, rfl⟩, rfl⟩, rfl⟩, ho⟩) | ⟨⟨⟨⟨rfl, rfl⟩, rfl⟩, rfl⟩, ho⟩) | ⟨⟨⟨⟨rfl, rfl⟩, rfl⟩, rfl⟩, ho⟩) | ⟨⟨⟨⟨rfl, rfl⟩, rfl⟩, rfl⟩, ho⟩) | ⟨⟨⟨⟨rfl, rfl⟩, rfl⟩, rfl⟩, ho⟩) | ⟨⟨⟨⟨rfl, rfl⟩, rfl⟩, rfl⟩, ho⟩) | ⟨⟨⟨⟨rfl, rfl⟩, rfl⟩, rfl⟩, ho⟩) | ⟨⟨⟨⟨rfl, rfl⟩, rfl⟩, rfl⟩, ho⟩) | ⟨⟨⟨⟨rfl, rfl⟩, rfl⟩, rfl⟩, ho⟩) | ⟨⟨⟨⟨rfl, rfl⟩, rfl⟩, rfl⟩, ho⟩
 · obtain rfl := cnt0 (F := k) (by omega)
   obtain rfl := txt0 h3;by_cases e : op = 23
   · subst e
     simp only [Bool.or_eq_true, Bool.and_eq_true, beq_iff_eq, decide_eq_true_eq] at h0;obtain ⟨n, rfl⟩ : ∃ n : Nat, num = (n : Int) := ⟨num.toNat, by omega⟩;exact .int n
   · rw [hnum e]
     exact .bare op (by omega)
 · obtain rfl := cnt0 (F := k) (by omega)
   subst ho;rw [hnum (by decide)];exact .text text (of_decide_eq_true h3)
 · obtain rfl := cnt0 (F := k) (by omega)
   rw [hnum (by omega)];exact .own op text (by omega) h3
 · obtain ⟨a, ka, rfl⟩ := cnt1 (F := k) (by omega)
   obtain rfl := txt0 h3;rw [hnum (by omega)];exact .one op a ka (by omega) (parts_exprs _ _ _ hp).1
 · obtain ⟨a, ka, rfl⟩ := cnt1 (F := k) (by omega)
   rw [hnum (by omega)];exact .set op text a ka ho h3 (parts_exprs _ _ _ hp).1
 · obtain ⟨a, ka, b, kb, rfl⟩ := cnt2 (F := k) (by omega)
   obtain rfl := txt0 h3;rw [hnum (by omega)];exact .two op a ka b kb ho.1 ho.2 (parts_exprs _ _ _ hp).1 (parts_exprs _ _ _ hp).2.1
 · obtain rfl := txt0 h3
   subst ho;rw [hnum (by omega)];exact .list k (parts_exprs _ _ _ hp) (by omega)
 · rw [hnum (by omega)]
   exact .call op text k ho h3 (parts_exprs _ _ _ hp) (by omega)
 · obtain ⟨a, ka, rfl⟩ := cnt1 (F := k) (by omega)
   obtain rfl := txt0 h3;subst ho;rw [hnum (by omega)];exact .fork a ka (op_is hp.1)
 · obtain rfl := txt0 h3
   subst ho;rw [hnum (by omega)];exact .block k (parts_stmts _ _ _ hp) (by omega)
 · obtain rfl := txt0 h3
   subst ho;rw [hnum (by omega)];rcases (show k.count = 2 ∨ k.count = 3 by omega) with e | e
   · obtain ⟨a, ka, b, kb, rfl⟩ := cnt2 e
     obtain ⟨g1, g2, -⟩ := cond_parts hp;exact .cond2 6 a ka b kb (.inl rfl) g1 g2
   · obtain ⟨a, ka, b, kb, c, kc, rfl⟩ := cnt3 e
     obtain ⟨g1, g2, g3, -⟩ := cond_parts hp;unfold partOK at g3;rw [if_neg (by decide), if_neg (by decide), if_neg (by decide), if_pos rfl, if_neg (by decide)] at g3;exact .cond3 a ka b kb c kc g1 g2 (op_is g3)
 · obtain rfl := txt0 h3
   subst ho;rw [hnum (by omega)];obtain ⟨a, ka, b, kb, rfl⟩ := cnt2 (F := k) (by omega);obtain ⟨g1, g2, -⟩ := cond_parts hp;exact .cond2 7 a ka b kb (.inr rfl) g1 g2
 · subst ho
   rw [hnum (by omega)];exact .flow text k h3 (parts_params _ k 0 (by omega) (by omega) hp) (by omega)
end Go.Proofs.YtjiemkidmlgbeaaDoor
namespace Go.Proofs.YtjiemkidmlgbeaaDoor
def widthN (op : Nat) : Nat :=
 if op = 30 then 1 else if op = 31 then 2 else if op = 43 then 3 else if 32 ≤ op ∧ op ≤ 35 then 4 else if op = 36 ∨ op = 37 then 5
 else if op = 38 ∨ op = 39 ∨ op = 40 then 6 else if op = 44 ∨ op = 54 ∨ op = 55 then 7 else if op = 42 then 8 else 9
def wordTg (s : List UInt8) : Tg := ⟨1, s, 0, 0⟩
def signTg (s : List UInt8) : Tg := ⟨4, s, 0, 0⟩
def marksL : List (Nat × Nat × List UInt8) := [
 (8, 1, B.ret), (9, 1, B.fail), (10, 1, B.sleep), (11, 1, B.doW),
 (20, 1, B.none), (21, 1, B.tru), (22, 1, B.fls), (57, 1, B.version),
 (30, 1, B.or), (31, 1, B.and), (43, 1, B.not),
 (32, 4, B.eqq), (33, 4, B.neq), (34, 4, B.les), (35, 4, B.leq),
 (36, 4, B.add), (37, 4, B.sub), (38, 4, B.mul), (39, 4, B.div), (40, 4, B.rem),
 (44, 4, B.sub), (54, 1, B.await), (55, 1, B.settle),
 (41, 1, B.num), (45, 1, B.len), (46, 1, B.re), (47, 1, B.im), (48, 1, B.conj),
 (52, 1, B.timer), (50, 1, B.call), (51, 1, B.child), (56, 1, B.take)]
def markGo (op : Nat) : List (Nat × Nat × List UInt8) → List Tg
 | [] => []
 | m :: r => if m.1 = op then ⟨m.2.1, m.2.2, 0, 0⟩ :: markGo op r else markGo op r
def markTg (op : Nat) : List Tg := markGo op marksL
structure Lay where
 head : List Tg
 part : Nat → List Tg × Nat
 tail : List Tg
def comma (p : Nat) : List Tg × Nat := (if p = 0 then [] else [signTg B.com], 1)
def noneL (_ : Nat) : List Tg × Nat := ([], 1)
def elseL (p : Nat) : List Tg × Nat := (if p = 2 then [wordTg B.elseW] else [], 1)
def flowL (n : Int) (p : Nat) : List Tg × Nat := if (p : Int) + 1 = n then ((if p = 0 then [signTg B.opn] else []) ++ [signTg B.cls], 1) else (if p = 0 then [signTg B.opn] else [signTg B.com], 1)
def atL (p : Nat) : List Tg × Nat := if p = 0 then ([], 8) else ([signTg B.lsq], 1)
def layT (x : Tw) : Lay :=
 if x.op = 1 then ⟨[wordTg B.flow, wordTg x.text], flowL x.kids, []⟩
 else if x.op = 2 then ⟨[wordTg x.text], noneL, []⟩
 else if x.op = 3 then ⟨[signTg B.lbr], noneL, [signTg B.rbr]⟩
 else if x.op = 4 then ⟨[wordTg B.letW, wordTg x.text, signTg B.eq], noneL, []⟩
 else if x.op = 5 then ⟨[wordTg x.text, signTg B.eq], noneL, []⟩
 else if x.op = 6 then ⟨[wordTg B.ifW], elseL, []⟩
 else if x.op = 7 then ⟨[wordTg B.whileW], elseL, []⟩
 else if x.op = 23 then ⟨[⟨2, [], x.num, 0⟩], noneL, []⟩
 else if x.op = 24 then ⟨[⟨3, x.text, 0, 0⟩], noneL, []⟩
 else if x.op = 26 then ⟨[wordTg x.text], noneL, []⟩
 else if x.op = 56 then ⟨[wordTg B.take, wordTg x.text], noneL, []⟩
 else if x.op = 25 then ⟨[signTg B.lsq], comma, [signTg B.rsq]⟩
 else if x.op = 50 ∨ x.op = 51 then ⟨markTg x.op ++ [wordTg x.text, signTg B.opn], comma, [signTg B.cls]⟩
 else if x.op = 53 then ⟨[wordTg B.fork], noneL, []⟩
 else if x.op = 42 then ⟨[], atL, [signTg B.rsq]⟩
 else if (8 ≤ x.op ∧ x.op ≤ 11) ∨ x.op = 20 ∨ x.op = 21 ∨ x.op = 22 ∨ x.op = 57 then ⟨markTg x.op, noneL, []⟩
 else if widthN x.op = 9 then ⟨markTg x.op ++ [signTg B.opn], comma, [signTg B.cls]⟩
 else if widthN x.op = 3 ∨ widthN x.op = 7 then ⟨markTg x.op, fun _ => ([], widthN x.op), []⟩
 else if widthN x.op = 4 then ⟨[], fun p => (if p = 0 then [] else markTg x.op, 5), []⟩
 else ⟨[], fun p => if p = 0 then ([], widthN x.op) else (markTg x.op, widthN x.op + 1), []⟩
def wrapT (b : Bool) (l : List Tg) : List Tg := if b then signTg B.opn :: (l ++ [signTg B.cls]) else l
def toksF (ask : Nat → List Tg × Nat) : Nat → Fs → List Tg
 | _, .nil => []
 | p, .cons x k r => (ask p).1 ++ wrapT (decide (widthN x.op < (ask p).2)) ((layT x).head ++ toksF (layT x).part 0 k ++ (layT x).tail) ++ toksF ask (p + 1) r
def bareS (x : Tw) (k : Fs) : List Tg := (layT x).head ++ toksF (layT x).part 0 k ++ (layT x).tail
def atS (a : Nat) (x : Tw) (k : Fs) : List Tg := wrapT (decide (widthN x.op < a)) (bareS x k)
def showL (x : Tw) (k : Fs) : List Tg := atS 1 x k
theorem toksF_nil (ask : Nat → List Tg × Nat) (p : Nat) : toksF ask p .nil = [] := rfl
theorem toksF_cons (ask : Nat → List Tg × Nat) (p : Nat) (x : Tw) (k r : Fs) : toksF ask p (.cons x k r) = (ask p).1 ++ atS (ask p).2 x k ++ toksF ask (p + 1) r := rfl
theorem width_pos (op : Nat) : 1 ≤ widthN op ∧ widthN op ≤ 9 := by
 unfold widthN
 repeat' split
 all_goals omega
theorem atS_wide {a : Nat} {x : Tw} {k : Fs} (h : a ≤ widthN x.op) : atS a x k = bareS x k := by
 unfold atS wrapT;rw [decide_eq_false (by omega)];rfl
theorem atS_narrow {a : Nat} {x : Tw} {k : Fs} (h : widthN x.op < a) : atS a x k = signTg B.opn :: (bareS x k ++ [signTg B.cls]) := by
 unfold atS wrapT;rw [decide_eq_true h];rfl
theorem atS_one (x : Tw) (k : Fs) : atS 1 x k = bareS x k := atS_wide (width_pos _).1
def commaS : Nat → Fs → List Tg
 | _, .nil => []
 | p, .cons x k r => (comma p).1 ++ bareS x k ++ commaS (p + 1) r
theorem comma_toks : ∀ (F : Fs) (p : Nat), toksF comma p F = commaS p F
 | .nil, _ => rfl
 | .cons x k r, p => by
   rw [toksF_cons, comma_toks r (p + 1)];show _ ++ atS 1 x k ++ _ = _
   rw [atS_one];rfl
def rowS : Fs → List Tg
 | .nil => []
 | .cons x k r => bareS x k ++ rowS r
theorem row_toks : ∀ (F : Fs) (p : Nat), toksF noneL p F = rowS F
 | .nil, _ => rfl
 | .cons x k r, p => by
   rw [toksF_cons, row_toks r (p + 1)];show [] ++ atS 1 x k ++ _ = _
   rw [atS_one, List.nil_append];rfl
section
variable {a b c : Tw} {ka kb kc k : Fs} {op : Nat} {s : List UInt8}
theorem bare_bare (ho : op = 20 ∨ op = 21 ∨ op = 22 ∨ op = 57) : bareS ⟨op, 0, 0, []⟩ .nil = markTg op := by
 rcases ho with rfl | rfl | rfl | rfl <;> rfl
theorem bare_int (n : Nat) : bareS ⟨23, 0, (n : Int), []⟩ .nil = [⟨2, [], (n : Int), 0⟩] := rfl
theorem bare_text : bareS ⟨24, 0, 0, s⟩ .nil = [⟨3, s, 0, 0⟩] := rfl
theorem bare_name : bareS ⟨26, 0, 0, s⟩ .nil = [wordTg s] := rfl
theorem bare_param : bareS ⟨2, 0, 0, s⟩ .nil = [wordTg s] := rfl
theorem bare_take : bareS ⟨56, 0, 0, s⟩ .nil = [wordTg B.take, wordTg s] := rfl
theorem bare_let : bareS ⟨4, 1, 0, s⟩ (.cons a ka .nil) = [wordTg B.letW, wordTg s, signTg B.eq] ++ bareS a ka := by
 show [wordTg B.letW, wordTg s, signTg B.eq] ++ toksF noneL 0 _ ++ [] = _
 rw [row_toks];simp [rowS]
theorem bare_set : bareS ⟨5, 1, 0, s⟩ (.cons a ka .nil) = [wordTg s, signTg B.eq] ++ bareS a ka := by
 show [wordTg s, signTg B.eq] ++ toksF noneL 0 _ ++ [] = _
 rw [row_toks];simp [rowS]
theorem bare_block {n : Int} : bareS ⟨3, n, 0, []⟩ k = signTg B.lbr :: (rowS k ++ [signTg B.rbr]) := by
 show [signTg B.lbr] ++ toksF noneL 0 _ ++ [signTg B.rbr] = _
 rw [row_toks];simp
theorem bare_stmt (h : 8 ≤ op ∧ op ≤ 11) : bareS ⟨op, 1, 0, []⟩ (.cons a ka .nil) = markTg op ++ bareS a ka := by
 have e : layT ⟨op, 1, 0, []⟩ = ⟨markTg op, noneL, []⟩ := by
   rcases (show op = 8 ∨ op = 9 ∨ op = 10 ∨ op = 11 by omega) with rfl | rfl | rfl | rfl <;> rfl
 unfold bareS;rw [e];show _ ++ toksF noneL 0 _ ++ [] = _
 rw [row_toks];simp [rowS, bareS]
theorem bare_cond2 (ho : op = 6 ∨ op = 7) : bareS ⟨op, 2, 0, []⟩ (.cons a ka (.cons b kb .nil)) = wordTg (if op = 6 then B.ifW else B.whileW) :: (bareS a ka ++ bareS b kb) := by
 rcases ho with rfl | rfl
 · show [wordTg B.ifW] ++ toksF elseL 0 _ ++ [] = _
   rw [toksF_cons, toksF_cons, toksF_nil];show [_] ++ ([] ++ atS 1 a ka ++ ([] ++ atS 1 b kb ++ [])) ++ [] = _
   simp [atS_one]
 · show [wordTg B.whileW] ++ toksF elseL 0 _ ++ [] = _
   rw [toksF_cons, toksF_cons, toksF_nil];show [_] ++ ([] ++ atS 1 a ka ++ ([] ++ atS 1 b kb ++ [])) ++ [] = _
   simp [atS_one]
theorem bare_cond3 : bareS ⟨6, 3, 0, []⟩ (.cons a ka (.cons b kb (.cons c kc .nil))) = wordTg B.ifW :: (bareS a ka ++ (bareS b kb ++ (wordTg B.elseW :: bareS c kc))) := by
 show [wordTg B.ifW] ++ toksF elseL 0 _ ++ [] = _
 rw [toksF_cons, toksF_cons, toksF_cons, toksF_nil];show [_] ++ ([] ++ atS 1 a ka ++ ([] ++ atS 1 b kb ++ ([wordTg B.elseW] ++ atS 1 c kc ++ []))) ++ [] = _
 simp [atS_one]
theorem bare_list {n : Int} : bareS ⟨25, n, 0, []⟩ k = signTg B.lsq :: (commaS 0 k ++ [signTg B.rsq]) := by
 show [signTg B.lsq] ++ toksF comma 0 _ ++ [signTg B.rsq] = _
 rw [comma_toks];simp
theorem bare_call (ho : op = 50 ∨ op = 51) {n : Int} : bareS ⟨op, n, 0, s⟩ k = markTg op ++ (wordTg s :: signTg B.opn :: (commaS 0 k ++ [signTg B.cls])) := by
 rcases ho with rfl | rfl
 · show (markTg 50 ++ [wordTg s, signTg B.opn]) ++ toksF comma 0 _ ++ [signTg B.cls] = _
   rw [comma_toks];simp
 · show (markTg 51 ++ [wordTg s, signTg B.opn]) ++ toksF comma 0 _ ++ [signTg B.cls] = _
   rw [comma_toks];simp
theorem bare_fork : bareS ⟨53, 1, 0, []⟩ (.cons b kb .nil) = wordTg B.fork :: bareS b kb := by
 show [wordTg B.fork] ++ toksF noneL 0 _ ++ [] = _
 rw [row_toks];simp [rowS]
theorem bare_at : bareS ⟨42, 2, 0, []⟩ (.cons a ka (.cons b kb .nil)) = atS 8 a ka ++ (signTg B.lsq :: (bareS b kb ++ [signTg B.rsq])) := by
 show [] ++ toksF atL 0 _ ++ [signTg B.rsq] = _
 rw [toksF_cons, toksF_cons, toksF_nil];show [] ++ ([] ++ atS 8 a ka ++ ([signTg B.lsq] ++ atS 1 b kb ++ [])) ++ [signTg B.rsq] = _
 simp [atS_one]
def asksW (op : Nat) : Prop := (45 ≤ op ∧ op ≤ 48) ∨ op = 52
theorem bare_asks (ho : asksW op) : bareS ⟨op, 1, 0, []⟩ (.cons a ka .nil) = markTg op ++ (signTg B.opn :: (bareS a ka ++ [signTg B.cls])) := by
 have e : layT ⟨op, 1, 0, []⟩ = ⟨markTg op ++ [signTg B.opn], comma, [signTg B.cls]⟩ := by
   unfold asksW at ho;rcases (show op = 45 ∨ op = 46 ∨ op = 47 ∨ op = 48 ∨ op = 52 by omega) with rfl | rfl | rfl | rfl | rfl <;> rfl
 unfold bareS;rw [e];show (markTg op ++ [signTg B.opn]) ++ toksF comma 0 _ ++ [signTg B.cls] = _
 rw [comma_toks];simp [commaS, comma, bareS]
theorem bare_num : bareS ⟨41, 2, 0, []⟩ (.cons a ka (.cons b kb .nil)) = wordTg B.num :: signTg B.opn :: (bareS a ka ++ (signTg B.com :: (bareS b kb ++ [signTg B.cls]))) := by
 show [wordTg B.num, signTg B.opn] ++ toksF comma 0 _ ++ [signTg B.cls] = _
 rw [comma_toks];simp [commaS, comma]
theorem bare_pre (ho : op = 43 ∨ op = 44 ∨ op = 54 ∨ op = 55) : bareS ⟨op, 1, 0, []⟩ (.cons a ka .nil) = markTg op ++ atS (widthN op) a ka := by
 have e : layT ⟨op, 1, 0, []⟩ = ⟨markTg op, fun _ => ([], widthN op), []⟩ := by
   rcases ho with rfl | rfl | rfl | rfl <;> rfl
 unfold bareS;rw [e];show _ ++ toksF (fun _ => ([], widthN op)) 0 _ ++ [] = _
 rw [toksF_cons, toksF_nil];simp
theorem bare_cmp (h1 : 32 ≤ op) (h2 : op ≤ 35) : bareS ⟨op, 2, 0, []⟩ (.cons a ka (.cons b kb .nil)) = atS 5 a ka ++ (markTg op ++ atS 5 b kb) := by
 have e : layT ⟨op, 2, 0, []⟩ = ⟨[], fun p => (if p = 0 then [] else markTg op, 5), []⟩ := by
   rcases (show op = 32 ∨ op = 33 ∨ op = 34 ∨ op = 35 by omega) with rfl | rfl | rfl | rfl <;> rfl
 unfold bareS;rw [e];show [] ++ toksF (fun p => (if p = 0 then [] else markTg op, 5)) 0 _ ++ [] = _
 rw [toksF_cons, toksF_cons, toksF_nil];simp
def leftW (op : Nat) : Prop := op = 30 ∨ op = 31 ∨ (36 ≤ op ∧ op ≤ 40)
theorem bare_left (ho : leftW op) : bareS ⟨op, 2, 0, []⟩ (.cons a ka (.cons b kb .nil)) = atS (widthN op) a ka ++ (markTg op ++ atS (widthN op + 1) b kb) := by
 have e : layT ⟨op, 2, 0, []⟩ = ⟨[], fun p => if p = 0 then ([], widthN op) else (markTg op, widthN op + 1), []⟩ := by
   unfold leftW at ho;rcases (show op = 30 ∨ op = 31 ∨ op = 36 ∨ op = 37 ∨ op = 38 ∨ op = 39 ∨ op = 40 by omega) with rfl | rfl | rfl | rfl | rfl | rfl | rfl <;> rfl
 unfold bareS;rw [e];show [] ++ toksF (fun p => if p = 0 then ([], widthN op) else (markTg op, widthN op + 1)) 0 _ ++ [] = _
 rw [toksF_cons, toksF_cons, toksF_nil];simp
def paramS : Nat → Fs → List Tg
 | _, .nil => []
 | _, .cons b kb .nil => signTg B.cls :: bareS b kb
 | p, .cons x k (.cons y k' r) => (comma p).1 ++ bareS x k ++ paramS (p + 1) (.cons y k' r)
theorem flow_rest (n : Nat) : ∀ (F : Fs) (p : Nat), 0 < p → p + F.count = n → toksF (flowL (n : Int)) p F = paramS p F
 | .nil, _, _, _ => rfl
 | .cons b kb .nil, p, h, hn => by
   have e : (Fs.cons b kb .nil).count = 1 := rfl;rw [toksF_cons, toksF_nil];have e2 : flowL (n : Int) p = ([signTg B.cls], 1) := by
     unfold flowL;rw [if_pos (by omega), if_neg (by omega)];rfl
   rw [e2];show [_] ++ atS 1 b kb ++ [] = _
   rw [atS_one, List.append_nil];rfl
 | .cons x k (.cons y k' r), p, h, hn => by
   have e : (Fs.cons x k (.cons y k' r)).count = r.count + 1 + 1 := rfl;have e3 : (Fs.cons y k' r).count = r.count + 1 := rfl;rw [toksF_cons, flow_rest n (.cons y k' r) (p + 1) (by omega) (by omega)];have e2 : flowL (n : Int) p = ([signTg B.com], 1) := by
     unfold flowL;rw [if_neg (by omega), if_neg (by omega)]
   rw [e2];show [_] ++ atS 1 x k ++ _ = _
   rw [atS_one];show _ = (comma p).1 ++ bareS x k ++ paramS (p + 1) (.cons y k' r)
   unfold comma;rw [if_neg (by omega)]
theorem bare_flow (h : 0 < k.count) : bareS ⟨1, (k.count : Int), 0, s⟩ k = wordTg B.flow :: wordTg s :: signTg B.opn :: paramS 0 k := by
 show [wordTg B.flow, wordTg s] ++ toksF (flowL (k.count : Int)) 0 k ++ [] = _
 match k, h with
 | .cons b kb .nil, _ =>
   rw [toksF_cons, toksF_nil];show [_, _] ++ ([_, _] ++ atS 1 b kb ++ []) ++ [] = _
   simp [atS_one, paramS]
 | .cons x k (.cons y k' r), _ =>
   have e : (Fs.cons x k (.cons y k' r)).count = r.count + 1 + 1 := rfl;have e3 : (Fs.cons y k' r).count = r.count + 1 := rfl;rw [toksF_cons, flow_rest _ (.cons y k' r) (0 + 1) (by omega) (by omega)];have e2 : flowL ((Fs.cons x k (.cons y k' r)).count : Int) 0 = ([signTg B.opn], 1) := by
     unfold flowL;rw [if_neg (by omega), if_pos rfl]
   rw [e2];show [_, _] ++ ([_] ++ atS 1 x k ++ _) ++ [] = _
   rw [atS_one];simp [paramS, comma]
end
end Go.Proofs.YtjiemkidmlgbeaaDoor
