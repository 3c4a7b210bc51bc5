/- A part of the proof: TPut3, TSpell, ShO, ROpen, TLaidS, SLaid, TPow. No condition. -/
import Derived.Lib.AppendStr
import Derived.Lib.ItoaLen
import Derived.Lib.ItoaMem
import Derived.Deep.Slices
import Derived.Deep.Fields
import Derived.ChangeSame
import Derived.ProofKit
import Derived.OpenShut
import Derived.SizedLaws
import Derived.Carry
import Derived.Stop.LaidErr
import Derived.Lib.LaidTab
import Derived.Deep.Strs
import Derived.Test.YtjiemkidmlgbeaaDoorQ01
import Derived.Test.YtjiemkidmlgbeaaDoorQ06
import Derived.Test.YtjiemkidmlgbeaaDoorQ12
import Derived.Test.YtjiemkidmlgbeaaDoorQ13
import Derived.Test.YtjiemkidmlgbeaaDoorQ24
set_option linter.unusedVariables false
set_option linter.unusedSimpArgs false
namespace Go.Proofs.YtjiemkidmlgbeaaDoor
open Go.RowKit Tok
def spellL (t : Tg) : List UInt8 := if t.kind = 2 then Lib.itoa t.num else if t.kind = 3 then textL t.text else t.text
abbrev PowOK (base : Nat) (w : World) : Prop := Lib.TabBelow Tryd.prog base w "internal/strconv.uint64pow10" .u64 Lib.pow10Tab
section
variable {w W : World} {base : Nat} {v : Value} {l : List UInt8}
theorem strCells_eq (m : List UInt8) : Lib.strCells ⟨m.toArray⟩ = Lib.byteCells m := by
 simp [Lib.strCells, Lib.byteCells]
theorem wpList_append_ustr {ops : Array Oper} {rest : List Oper} {o : Oper} {a : Act} {Q : Exit → Act → World → Prop} (hgd : o.guard = none) (s x : Operand)
   (ho : o.op = .call { callee := .builtin .append, args := #[s, x], argTypes := #[47, 9] })
   (hs : a.eval s = v) (hown : BufU w base v l) (m : List UInt8) (hx : a.eval x = .string ⟨m.toArray⟩)
   (hk : l.length + m.length ≤ 1000000000) (hbase : base ≤ w.heap.size)
   (h : ∀ a' cap w', BufU w' base (.slice a' (l.length + m.length) cap) (l ++ m) → Below base w w' → wpList Tryd.prog ops Q rest (a.put o.dst (.slice a' (l.length + m.length) cap)) w') : wpList Tryd.prog ops Q (o :: rest) a w := by
 obtain ⟨i0, hi, hz0, hz1, hz2⟩ := u8_parts;have hsz : (⟨m.toArray⟩ : ByteArray).size = m.length := by simp [ByteArray.size]
 refine Lib.wpList_append_own_string w hgd s x 47 9 ho base 5 i0 Tryd.underlying47 Tryd.underlying9 hi hz0 hz1 hz2 v l.length (Lib.byteCells l) hs hown ⟨m.toArray⟩ hx (by rw [hsz]; unfold maxLen; omega) (by rw [hsz]; omega) hbase ?_;intro v' w' h2 h3 _;rw [hsz, strCells_eq] at h2;obtain ⟨a', cap, rfl, _⟩ := ownsRow_shape h2;refine h a' cap w' ?_ ((Below.refl base _).grown h3 hbase (fun k hk => (World.ownsRow.lt hown k hk).1));unfold BufU;rw [List.length_append, show Lib.byteCells (l ++ m) = Lib.byteCells l ++ Lib.byteCells m by simp [Lib.byteCells]];exact h2
theorem append_int (h : BufU w base v l) (hb : base ≤ w.heap.size) (hl : l.length ≤ 1000000000) {x : Int} (hx : I64 x) (hT : PowOK base w) :
   Calls Tryd.prog 43 #[v, .int .i64 x, .int .i64 10] w (PutU w base (l ++ Lib.itoa x)) := by
 refine (Tryd.strconv_AppendInt_10 base l.length x hx.1 hx.2 v (Lib.byteCells l) w h hb (by omega) hT).mono ?_;rintro e w2 ⟨v', rfl, h2, h3, _⟩;refine ⟨v', rfl, ?_, h3⟩;unfold BufU;rw [List.length_append, show Lib.byteCells (l ++ Lib.itoa x) = Lib.byteCells l ++ Lib.byteCells (Lib.itoa x) by simp [Lib.byteCells]];exact h2
set_option maxRecDepth 20000 in
set_option maxHeartbeats 2000000 in
theorem putToken_any (h : BufU w base v l) (hb : base ≤ w.heap.size) (t : Tg) (hx : I64 t.num) (hl : l.length + 4 * t.text.length ≤ 80000000) (hT : PowOK base w) :
   Calls Tryd.prog 22 #[v, tgV t] w (PutU w base (l ++ spellL t)) := by
 obtain ⟨kd, tx, x, at_⟩ := t;unfold tgV; dsimp only at *;have hB := Lib.hid (BufU.below h ((Below.refl w.heap.size w).alloc (Nat.le_refl _) (.cells #[.int .u8 kd, .string ⟨tx.toArray⟩, .int .i64 x, .int .i64 at_] 35)));have hO := Lib.hid ((Below.refl base w).alloc hb (.cells #[.int .u8 kd, .string ⟨tx.toArray⟩, .int .i64 x, .int .i64 at_] 35));have hb' : base ≤ (w.alloc (.cells #[.int .u8 kd, .string ⟨tx.toArray⟩, .int .i64 x, .int .i64 at_] 35)).heap.size := Nat.le_trans hb hO.out.size;have hsz : (⟨tx.toArray⟩ : ByteArray).size = tx.length := by simp [ByteArray.size]
 by_cases c2 : kd = 2
 · subst c2
   have he : spellL ⟨2, tx, x, at_⟩ = Lib.itoa x := rfl;rw [he];have k := Lib.hid (append_int hB.out hb' (by omega) hx (hT.on hO.out));clear hT he hb';go_enter Tryd.func22, Tryd.ntmps22
   go_wp2_with fail
   refine k.out.mono ?_;rintro e w2 ⟨v2, rfl, hB2, hO2⟩;go_wp2
   go_ret
   exact ⟨v2, rfl, hB2, hO.out.trans hO2⟩
 · have n2 : ((kd : Int) == 2) = false := beq_eq_false_iff_ne.2 (by omega)
   by_cases c3 : kd = 3
   · subst c3
     have he : spellL ⟨3, tx, x, at_⟩ = textL tx := rfl;rw [he];have k := Lib.hid (putText_any hB.out hb' ⟨tx.toArray⟩ (by rw [hsz]; omega));clear hT he hb' hsz;go_enter Tryd.func22, Tryd.ntmps22
     go_wp2_with fail
     refine k.out.mono ?_;rintro e w2 ⟨v2, rfl, hB2, hO2⟩;go_wp2
     go_ret
     exact ⟨v2, rfl, by simpa using hB2, hO.out.trans hO2⟩
   · have n3 : ((kd : Int) == 3) = false := beq_eq_false_iff_ne.2 (by omega)
     have he : spellL ⟨kd, tx, x, at_⟩ = tx := by
       unfold spellL;rw [if_neg c2, if_neg c3]
     rw [he];clear hT he hsz;go_enter Tryd.func22, Tryd.ntmps22
     go_wp2_with (at_builtin; (refine wpList_append_ustr rfl _ _ rfl rfl hB.out tx rfl (by omega) hb' ?_; intro a' cap' w3 hB3 hO3))
     go_ret
     exact ⟨_, rfl, hB3, hO.out.trans hO3⟩
end
end Go.Proofs.YtjiemkidmlgbeaaDoor
namespace Go.Proofs.YtjiemkidmlgbeaaDoor
open Go.RowKit Tok
def joinL : List Tg → List UInt8
 | [] => []
 | t :: r => spellL t ++ r.flatMap fun u => 32 :: spellL u
theorem joinL_snoc (ts : List Tg) (t : Tg) : joinL (ts ++ [t]) = if ts = [] then spellL t else joinL ts ++ 32 :: spellL t := by
 match ts with
 | [] => simp [joinL]
 | u :: r => simp [joinL]
theorem joinL_take {ts : List Tg} {i : Nat} (h : i < ts.length) : joinL (ts.take (i + 1)) = if i = 0 then spellL ts[i] else joinL (ts.take i) ++ 32 :: spellL ts[i] := by
 rw [List.take_succ_eq_append_getElem h, joinL_snoc];by_cases h0 : i = 0
 · subst h0; rw [if_pos (by simp), if_pos rfl]
 · have hne : ts.take i ≠ [] := fun he => h0 (by have := congrArg List.length he; rw [List.length_take, Nat.min_eq_left (by omega)] at this; simpa using this)
   rw [if_neg hne, if_neg h0]
theorem joinL_len (ts us : List Tg) : (joinL ts).length ≤ (joinL (ts ++ us)).length := by
 match ts with
 | [] => simp [joinL]
 | t :: r => simp [joinL] <;> omega
theorem joinL_le (ts : List Tg) (i : Nat) : (joinL (ts.take i)).length ≤ (joinL ts).length := by
 have := joinL_len (ts.take i) (ts.drop i)
 rwa [List.take_append_drop] at this
def spellR (ts : List Tg) : List UInt8 × Nat := if ts.all told then (if 16384 < (joinL ts).length then ([], 2) else (joinL ts, 0)) else ([], 3)
def spellV (r : List UInt8 × Nat) : Value := .tuple #[.string ⟨r.1.toArray⟩, .int .i64 r.2]
theorem spellR_bad {ts : List Tg} {i : Nat} (hi : i < ts.length) (h : told ts[i] = false) : spellR ts = ([], 3) := by
 unfold spellR;rw [if_neg];intro hall;have := List.all_eq_true.1 hall ts[i] (List.getElem_mem hi);rw [h] at this;cases this
theorem all_more {ts : List Tg} {i : Nat} (hi : i < ts.length) (ha : (ts.take i).all told = true) (h : told ts[i] = true) : (ts.take (i + 1)).all told = true := by
 rw [List.take_succ_eq_append_getElem hi, List.all_append, ha];simp [h]
theorem told_len {t : Tg} (h : told t = true) : t.text.length ≤ 4095 := by
 unfold told at h;by_cases c1 : t.kind = 1
 · rw [if_pos c1, Bool.and_eq_true] at h
   have h1 := h.1;unfold nameL at h1;cases ht : t.text with
   | nil => simp
   | cons c r => rw [ht] at h1; simp at h1; simp; omega
 · rw [if_neg c1] at h
   by_cases c2 : t.kind = 2
   · rw [if_pos c2, Bool.and_eq_true] at h
     rw [of_decide_eq_true h.2]; simp
   · rw [if_neg c2] at h
     by_cases c3 : t.kind = 3
     · rw [if_pos c3, Bool.and_eq_true] at h
       exact of_decide_eq_true h.1
     · rw [if_neg c3] at h
       by_cases c4 : t.kind = 4
       · rw [if_pos c4, Bool.and_eq_true] at h
         have h1 : t.text ∈ signs := of_decide_eq_true h.1;have : ∀ s ∈ signs, s.length ≤ 4095 := by decide
         exact this _ h1
       · rw [if_neg c4] at h; cases h
section
variable {w W : World} {base : Nat} {v : Value} {l : List UInt8}
theorem wpList_append_us2 {ops : Array Oper} {rest : List Oper} {o : Oper} {a : Act} {Q : Exit → Act → World → Prop} (hgd : o.guard = none) (s x : Operand)
   (ho : o.op = .call { callee := .builtin .append, args := #[s, x], argTypes := #[47, 47] })
   (hs : a.eval s = v) (hown : BufU w base v l) (m : List UInt8) {w2 : World} (hw : w = w2.alloc (.cells (Lib.byteCells m).toArray 5)) {q : Nat} (hx : a.eval x = .slice (some ⟨q, 0, none⟩) m.length m.length) (hq : q = w2.heap.size)
   (hk : l.length + m.length ≤ 1000000000) (hbase : base ≤ w.heap.size)
   (h : ∀ a' cap w', BufU w' base (.slice a' (l.length + m.length) cap) (l ++ m) → Below base w w' → (∀ p : Addr, p.block < w.heap.size → some p.block ≠ v.ownBlock → w'.cell? p = w.cell? p) → wpList Tryd.prog ops Q rest (a.put o.dst (.slice a' (l.length + m.length) cap)) w') : wpList Tryd.prog ops Q (o :: rest) a w := by
 obtain ⟨i0, hi, hz0, hz1, hz2⟩ := u8_parts;subst hw;subst hq;refine wpList_append_own_at _ hgd s x 47 ho base 5 i0 (.int .u8 0) 1 1 Tryd.underlying47 hi hz0 hz1 hz2 rfl (by decide) v l.length (Lib.byteCells l) hs hown ⟨w2.heap.size, 0, none⟩ m.length m.length (Lib.byteCells m) hx (by rw [Lib.byteCells_length]; omega) (fun j u hj => cells_new w2 (Lib.byteCells m) _ j u hj) (byteCells_one m) (by unfold maxLen; omega) (by omega) hbase ?_;intro v' w' h2 h3 _ _;obtain ⟨a', cap, rfl, _⟩ := ownsRow_shape h2;refine h a' cap w' ?_ ((Below.refl base _).grown h3 hbase (fun k hk => (World.ownsRow.lt hown k hk).1)) (fun p hp hne => h3.cell_far p hp hne);unfold BufU;rw [List.length_append, show Lib.byteCells (l ++ m) = Lib.byteCells l ++ Lib.byteCells m by simp [Lib.byteCells]];exact h2
end
theorem ttwo_cells (w : World) (cs : Array Value) (t : TypeId) (o : Obj) (j : Nat) : ((w.alloc (.cells cs t)).alloc o).cell? ⟨w.heap.size, j, none⟩ = cs[j]? := by
 have h := ((Below.refl (w.alloc (.cells cs t)).heap.size (w.alloc (.cells cs t))).alloc (Nat.le_refl _) o).block w.heap.size (by simp);rw [heap_alloc_new] at h;simp [World.cell?, h]
set_option maxRecDepth 20000 in
set_option maxHeartbeats 4000000 in
theorem Spell_any {w : World} {v : Value} {ts : List Tg} (h : TgIn w v ts) (hf : ∀ t ∈ ts, Fit t) (hS : SignsOK w) (hT : PowOK w.heap.size w) :
   Calls Tryd.prog 12 #[v] w fun e w' => e = .returned (spellV (spellR ts)) ∧ Below w.heap.size w w' := by
 obtain ⟨a0, cap0, rfl, hl1, hl2, h3⟩ := h;obtain ⟨R, hR⟩ := exHid (spellR ts);rw [hR.out];replace h3 := Lib.hid h3;replace hf := Lib.hid hf;replace hS := Lib.hid hS;replace hT := Lib.hid hT;go_enter Tryd.func12, Tryd.ntmps12
 go_wp2
 go_loopw [5, 11] (fun _ t11 wr => ∃ i : Nat, i ≤ ts.length ∧ t11 = .int .i64 i ∧ Hid (Below w.heap.size w wr) ∧ Hid ((ts.take i).all told = true)) (fun _ t11 _ => ts.length - (intOf t11).toNat)
 case atStart => exact ⟨0, by omega, rfl, Below.refl _ _, rfl⟩
 case round =>
   obtain ⟨i, hi, rfl, hb, hall⟩ := hrel;rcases Nat.lt_or_ge i ts.length with hlt | hge
   · have hlti : (i : Int) < (ts.length : Int) := by omega
     obtain ⟨g, off, rfl, hg, hc⟩ := h3.out (by omega);have hfit := hf.out ts[i] (List.getElem_mem hlt);have hbad := Lib.hid (fun h => spellR_bad hlt h);have hmore := Lib.hid (fun h => all_more hlt hall.out h);rcases hti : ts[i] with ⟨kd, tx, x, at_⟩
     obtain ⟨c0, c1, c2, c3⟩ := tg_cells hg hc hb.out hlt hti;rw [hti] at hfit hbad hmore;clear hc;have k := Lib.hid (fun W (hW : Below w.heap.size w W) => isTold_any ⟨kd, tx, x, at_⟩ W (hS.out.below hW) hfit.1);unfold tgV at k;dsimp only at k;replace hfit := Lib.hid hfit;replace hti := Lib.hid hti;rcases hB : told ⟨kd, tx, x, at_⟩ with _ | _
     · rw [hB] at k
       have hv := Lib.hid (hbad.out hB);clear hB hbad hmore;go_wp2_with fail
       refine (k.out _ (by exact hb.out.alloc hb.out.size _)).mono ?_;rintro e w2 ⟨rfl, hb2⟩;go_wp2
       go_ret2
       refine ⟨?_, below_next (hb.out.alloc hb.out.size _) hb2⟩;rw [← hR.out, hv.out]; rfl
     · rw [hB] at k
       have hv := Lib.hid (hmore.out hB);clear hB hbad hmore;go_wp2_with fail
       refine (k.out _ (by exact hb.out.alloc hb.out.size _)).mono ?_;rintro e w2 ⟨rfl, hb2⟩;go_wp2
       go_roundw
       case rel => exact ⟨i + 1, by omega, by go_num, below_next (hb.out.alloc hb.out.size _) hb2, hv⟩
       case measure => simp [intOf]; omega
   · obtain rfl : i = ts.length := by omega
     have hlti : ¬ ((ts.length : Int) < (ts.length : Int)) := by omega
     rw [List.take_length] at hall;go_wp2
     clear hlti;generalize hq0 : wr = wq0 at *;replace hq0 := Lib.hid hq0;go_loopw [6, 7, 8, 21] (fun t6 _ _ t21 wq => ∃ i : Nat, i ≤ ts.length ∧ t21 = .int .i64 i ∧ (joinL (ts.take i)).length ≤ 16384 ∧ Hid (BufU wq w.heap.size t6 (joinL (ts.take i))) ∧ Hid (Below w.heap.size w wq)) (fun _ _ _ t21 _ => ts.length - (intOf t21).toNat)
     case atStart => exact ⟨0, by omega, rfl, by simp [joinL], World.ownsRow_nil _ _ _ _, hb⟩
     case round =>
       obtain ⟨i, hi, rfl, hlen, hB, hbq⟩ := hrel;have hsz := hbq.out.size;obtain ⟨a6, cap6, rfl, _, _⟩ := hB.out.shape;rcases Nat.lt_or_ge i ts.length with hlt | hge
       · have hlti : (i : Int) < (ts.length : Int) := by omega
         obtain ⟨g, off, rfl, hg, hc⟩ := h3.out (by omega);have hfit := (hf.out ts[i] (List.getElem_mem hlt)).2;have htl := told_len (List.all_eq_true.1 hall.out ts[i] (List.getElem_mem hlt));have hnx := joinL_take hlt;have hle := joinL_le ts (i + 1);rcases hti : ts[i] with ⟨kd, tx, x, at_⟩
         obtain ⟨c0, c1, c2, c3⟩ := tg_cells hg hc hbq.out hlt hti;rw [hti] at hfit htl hnx;dsimp only at htl hfit;replace hti := Lib.hid hti;clear hc;have hB1 := BufU.below hB.out ((Below.refl wr.heap.size wr).alloc (Nat.le_refl _) (.cells #[.int .u8 kd, .string ⟨tx.toArray⟩, .int .i64 x, .int .i64 at_] 35));have hb1 := hbq.out.alloc hsz (.cells #[.int .u8 kd, .string ⟨tx.toArray⟩, .int .i64 x, .int .i64 at_] 35);have hown1 : some wr.heap.size ≠ (Value.slice a6 (joinL (ts.take i)).length cap6).ownBlock := fun he => by
           have := (World.ownsRow.lt hB.out wr.heap.size he.symm).2;omega
         rcases Nat.eq_zero_or_pos i with h0 | h0
         · rw [if_pos h0] at hnx
           have hi0 : ¬ (0 : Int) < (i : Int) := by omega
           have hL0 : joinL (ts.take i) = [] := by rw [h0]; rfl
           have hnx' : joinL (ts.take i) ++ spellL ⟨kd, tx, x, at_⟩ = joinL (ts.take (i + 1)) := by rw [hnx, hL0]; rfl
           obtain ⟨X, hXe⟩ := exHid (joinL (ts.take (i + 1)));rw [hXe.out] at hnx' hle;have k := Lib.hid (putToken_any hB1 (Nat.le_trans hsz (by simp)) ⟨kd, tx, x, at_⟩ hfit (by dsimp only; omega) (hT.out.on hb1));rw [hnx'] at k;unfold tgV at k; dsimp only at k;generalize joinL (ts.take i) = L at *;replace hb1 := Lib.hid hb1;clear hnx hnx' hB1 hL0 h0;rcases Nat.lt_or_ge 16384 X.length with hX | hX
           · have hXi : (16384 : Int) < (X.length : Int) := by omega
             have hv : R = ([], 2) := by
               rw [← hR.out]; unfold spellR;rw [if_pos hall.out, if_pos (by omega)]
             replace hv := Lib.hid hv;go_wp2_with fail
             refine k.out.mono ?_;rintro e w4 ⟨v4, rfl, hB4, hO4⟩;obtain ⟨a4, cap4, rfl, _, _⟩ := hB4.shape;replace hB4 := Lib.hid hB4;go_wp2
             go_ret2
             exact ⟨by rw [hv.out]; rfl, hb1.out.trans hO4⟩
           · have hXi : ¬ (16384 : Int) < (X.length : Int) := by omega
             go_wp2_with fail
             refine k.out.mono ?_;rintro e w4 ⟨v4, rfl, hB4, hO4⟩;obtain ⟨a4, cap4, rfl, _, _⟩ := hB4.shape;replace hB4 := Lib.hid hB4;go_wp2
             go_roundw
             case rel => exact ⟨i + 1, by omega, by go_num, by rw [hXe.out]; exact hX, by rw [hXe.out]; exact hB4, hb1.out.trans hO4⟩
             case measure => simp [intOf]; omega
         · rw [if_neg (by omega)] at hnx
           have hi0 : (0 : Int) < (i : Int) := by omega
           have hnx' : (joinL (ts.take i) ++ [32]) ++ spellL ⟨kd, tx, x, at_⟩ = joinL (ts.take (i + 1)) := by rw [hnx]; simp
           obtain ⟨X, hXe⟩ := exHid (joinL (ts.take (i + 1)));rw [hXe.out] at hnx' hle;have hs1 : w.heap.size ≤ ((wr.alloc (.cells #[.int .u8 kd, .string ⟨tx.toArray⟩, .int .i64 x, .int .i64 at_] 35)).alloc (.cells (Lib.byteCells [32]).toArray 5)).heap.size := by simp; omega
           have hB2 := Lib.hid (BufU.below hB1 ((Below.refl _ _).alloc (Nat.le_refl _) (.cells (Lib.byteCells [32]).toArray 5)));have hb2 := Lib.hid (hb1.alloc (Nat.le_trans hsz (by simp)) (.cells (Lib.byteCells [32]).toArray 5));have e0 := ttwo_cells wr #[.int .u8 kd, .string ⟨tx.toArray⟩, .int .i64 x, .int .i64 at_] 35 (.cells (Lib.byteCells [32]).toArray 5);have hlt2 : wr.heap.size < ((wr.alloc (.cells #[.int .u8 kd, .string ⟨tx.toArray⟩, .int .i64 x, .int .i64 at_] 35)).alloc (.cells (Lib.byteCells [32]).toArray 5)).heap.size := by simp; omega
           have k := Lib.hid (fun W (V : Value) (hBW : BufU W w.heap.size V (joinL (ts.take i) ++ [32])) (hbW : Below w.heap.size w W) => putToken_any hBW hbW.size ⟨kd, tx, x, at_⟩ hfit (by dsimp only; rw [List.length_append]; simp; omega) (hT.out.on hbW));rw [hnx'] at k;unfold tgV at k; dsimp only at k;generalize joinL (ts.take i) = L at *;replace hb1 := Lib.hid hb1;clear hnx hnx' hB1;rcases Nat.lt_or_ge 16384 X.length with hX | hX
           · have hXi : (16384 : Int) < (X.length : Int) := by omega
             have hv : R = ([], 2) := by
               rw [← hR.out]; unfold spellR;rw [if_pos hall.out, if_pos (by omega)]
             replace hv := Lib.hid hv;go_wp2_with (at_builtin; (refine wpList_append_us2 rfl _ _ rfl rfl hB2.out [32] rfl rfl (by simp) (by simp; omega) hs1 ?_; intro a' cap' w3 hB3 hO3 hkp; have d0 := (hkp ⟨wr.heap.size, 0, none⟩ hlt2 hown1).trans (e0 0); have d1 := (hkp ⟨wr.heap.size, 1, none⟩ hlt2 hown1).trans (e0 1); have d2 := (hkp ⟨wr.heap.size, 2, none⟩ hlt2 hown1).trans (e0 2); have d3 := (hkp ⟨wr.heap.size, 3, none⟩ hlt2 hown1).trans (e0 3); simp only [List.getElem?_toArray, List.getElem?_cons_succ, List.getElem?_cons_zero] at d0 d1 d2 d3; clear hkp; replace hB3 := Lib.hid hB3; have hb3 := Lib.hid (hb2.out.trans hO3)))
             refine (k.out _ _ hB3.out hb3.out).mono ?_;rintro e w4 ⟨v4, rfl, hB4, hO4⟩;obtain ⟨a4, cap4, rfl, _, _⟩ := hB4.shape;replace hB4 := Lib.hid hB4;go_wp2
             go_ret2
             exact ⟨by rw [hv.out]; rfl, hb3.out.trans hO4⟩
           · have hXi : ¬ (16384 : Int) < (X.length : Int) := by omega
             go_wp2_with (at_builtin; (refine wpList_append_us2 rfl _ _ rfl rfl hB2.out [32] rfl rfl (by simp) (by simp; omega) hs1 ?_; intro a' cap' w3 hB3 hO3 hkp; have d0 := (hkp ⟨wr.heap.size, 0, none⟩ hlt2 hown1).trans (e0 0); have d1 := (hkp ⟨wr.heap.size, 1, none⟩ hlt2 hown1).trans (e0 1); have d2 := (hkp ⟨wr.heap.size, 2, none⟩ hlt2 hown1).trans (e0 2); have d3 := (hkp ⟨wr.heap.size, 3, none⟩ hlt2 hown1).trans (e0 3); simp only [List.getElem?_toArray, List.getElem?_cons_succ, List.getElem?_cons_zero] at d0 d1 d2 d3; clear hkp; replace hB3 := Lib.hid hB3; have hb3 := Lib.hid (hb2.out.trans hO3)))
             refine (k.out _ _ hB3.out hb3.out).mono ?_;rintro e w4 ⟨v4, rfl, hB4, hO4⟩;obtain ⟨a4, cap4, rfl, _, _⟩ := hB4.shape;replace hB4 := Lib.hid hB4;go_wp2
             go_roundw
             case rel => exact ⟨i + 1, by omega, by go_num, by rw [hXe.out]; exact hX, by rw [hXe.out]; exact hB4, hb3.out.trans hO4⟩
             case measure => simp [intOf]; omega
       · obtain rfl : i = ts.length := by omega
         have hlti : ¬ ((ts.length : Int) < (ts.length : Int)) := by omega
         rw [List.take_length] at hB hlen;have hv : R = (joinL ts, 0) := by
           rw [← hR.out]; unfold spellR;rw [if_pos hall.out, if_neg (by omega)]
         replace hv := Lib.hid hv;have hstr := BufU.string hB.out;go_wp2
         go_ret2
         exact ⟨by rw [hv.out]; rfl, hbq.out⟩
end Go.Proofs.YtjiemkidmlgbeaaDoor
namespace Go.Proofs.YtjiemkidmlgbeaaDoor
open Go.RowKit Go.Shelf Tok
theorem PowOK.next10 {w W : World} (h : PowOK w.heap.size w) (hb : Below w.heap.size w W) : PowOK W.heap.size W := fun w' h' => h w' (below_next hb h')
def wakT : List Tw := [⟨37, 2, 0, []⟩, ⟨23, 0, 1, []⟩, ⟨37, 2, 0, []⟩, ⟨23, 0, 2, []⟩, ⟨23, 0, 3, []⟩]
def wakK : Fs := .cons ⟨23, 0, 1, []⟩ .nil (.cons ⟨37, 2, 0, []⟩ (.cons ⟨23, 0, 2, []⟩ .nil (.cons ⟨23, 0, 3, []⟩ .nil .nil)) .nil)
def wakL : List Tg := [⟨2, [], 1, 0⟩, ⟨4, [45], 0, 0⟩, ⟨4, [40], 0, 0⟩, ⟨2, [], 2, 0⟩, ⟨4, [45], 0, 0⟩, ⟨2, [], 3, 0⟩, ⟨4, [41], 0, 0⟩]
theorem wak_leaf (n : Nat) (r : Fs) (h : r.ok) : (Fs.cons ⟨23, 0, (n : Int), []⟩ .nil r).ok := by
 refine ⟨⟨_, rfl, ?_, trivial⟩, rfl, trivial, h⟩;simp [allowsB]
 exact ⟨Nat.eq_zero_or_pos n, rfl⟩
theorem wak_show : ShowIs wakT wakL 0 := by
 refine .inr (.inr ⟨by decide +kernel, ⟨37, 2, 0, []⟩, wakK, rfl, ?_, by decide, .inr (by decide), rfl, rfl⟩);exact ⟨⟨_, rfl, by decide, by decide, by decide, trivial⟩, rfl, wak_leaf 1 _ ⟨⟨_, rfl, by decide, by decide, by decide, trivial⟩, rfl, wak_leaf 2 _ (wak_leaf 3 _ trivial), trivial⟩, trivial⟩
theorem wak_spell : spellR wakL = ([49, 32, 45, 32, 40, 32, 50, 32, 45, 32, 51, 32, 41], 0) := by
 have h1 : Lib.itoa 1 = [49] := by decide +kernel
 have h2 : Lib.itoa 2 = [50] := by decide +kernel
 have h3 : Lib.itoa 3 = [51] := by decide +kernel
 have hj : joinL wakL = [49, 32, 45, 32, 40, 32, 50, 32, 45, 32, 51, 32, 41] := by
   simp [joinL, wakL, spellL, h1, h2, h3]
 unfold spellR;rw [if_pos (by decide +kernel), if_neg (by rw [hj]; decide), hj]
theorem wak_fit : ∀ t ∈ wakL, Fit t := by
 intro t ht;simp only [wakL, List.mem_cons, List.not_mem_nil, or_false] at ht;rcases ht with rfl | rfl | rfl | rfl | rfl | rfl | rfl <;> exact ⟨by decide, by decide, by decide⟩
set_option maxRecDepth 20000 in
set_option maxHeartbeats 1000000 in
theorem Tree_ok {v : Value} {ts : List Tw} {w : World} {L : List Tg} (hT : TwIn w v ts) (hf : ∀ x ∈ ts, FitT x) (hM : MarksOK w) (hS : SignsOK w) (hP : PowOK w.heap.size w) (h : ShowIs ts L 0) (hL : ∀ t ∈ L, Fit t) :
   Calls Tryd.prog 6 #[v] w fun e w' => e = .returned (spellV (spellR L)) ∧ Below w.heap.size w w' := by
 have kT := Lib.hid (Tokens_is hT hf hM h);have kS := Lib.hid (fun (W : World) (u : Value) (hb : Below w.heap.size w W) (hu : TgIn W u L) => Spell_any hu hL (hS.below hb) (fun w' h' => hP w' (below_next hb h')));generalize spellR L = R at *;obtain ⟨st, cd⟩ := R;unfold spellV at kS ⊢;clear hT hf hM hS hP h hL;go_enter Tryd.func6, Tryd.ntmps6
 go_wp2_with fail
 with_reducible refine kT.out.mono ?_
 rintro e w1 ⟨v1, rfl, h1, hb1⟩;have k1 := Lib.hid (kS.out w1 v1 hb1 h1.tgIn);replace hb1 := Lib.hid hb1;clear kS kT h1;go_wp2_with fail
 with_reducible refine k1.out.mono ?_
 rintro e w2 ⟨rfl, hb2⟩;have hb3 := Lib.hid (below_next hb1.out hb2);clear hb2;go_wp2_with fail
 go_ret2
 exact ⟨rfl, hb3.out⟩
theorem wak_twIn (w : World) {cs : Array Value} (hcs : cs = (rowOf twC wakT).toArray) : TwIn (w.alloc (.cells cs 37)) (.slice (some ⟨w.heap.size, 0, none⟩) 5 5) wakT := by
 subst hcs;refine ⟨_, 5, rfl, Nat.le_refl _, by decide, fun _ => ⟨w.heap.size, 0, rfl, by simp, fun i hi c hc => ?_⟩⟩;have h := rowOf_get (show ∀ t : Tw, (twC t).length = 4 from fun _ => rfl) wakT i c hi hc;rw [← h];have e : (w.alloc (.cells (rowOf twC wakT).toArray 37)).cell? ⟨w.heap.size, 0 + i * 4 + c, none⟩ = (rowOf twC wakT).toArray[0 + i * 4 + c]? := by
   simp only [World.cell?, heap_alloc_new, Option.isSome_none, Bool.false_eq_true, if_false]
 rw [e, Nat.zero_add, List.getElem?_toArray]
set_option maxRecDepth 20000 in
set_option maxHeartbeats 1000000 in
theorem wakes10_any (w : World) (hM : MarksOK w) (hS : SignsOK w) (hP : PowOK w.heap.size w) :
   Calls Tryd.prog 5 #[] w fun e w' => e = .returned (.bool true) ∧ Below w.heap.size w w' := by
 have hal := (Below.refl w.heap.size w).alloc (Nat.le_refl _) (.cells #[.int .u8 37, .int .i64 2, .int .i64 0, .string ⟨#[]⟩, .int .u8 23, .int .i64 0, .int .i64 1, .string ⟨#[]⟩, .int .u8 37, .int .i64 2, .int .i64 0, .string ⟨#[]⟩, .int .u8 23, .int .i64 0, .int .i64 2, .string ⟨#[]⟩, .int .u8 23, .int .i64 0, .int .i64 3, .string ⟨#[]⟩] 37);have kT := Lib.hid (Tree_ok (wak_twIn w (cs := #[.int .u8 37, .int .i64 2, .int .i64 0, .string ⟨#[]⟩, .int .u8 23, .int .i64 0, .int .i64 1, .string ⟨#[]⟩, .int .u8 37, .int .i64 2, .int .i64 0, .string ⟨#[]⟩, .int .u8 23, .int .i64 0, .int .i64 2, .string ⟨#[]⟩, .int .u8 23, .int .i64 0, .int .i64 3, .string ⟨#[]⟩]) rfl) (by
   intro x hx;simp only [wakT, List.mem_cons, List.not_mem_nil, or_false] at hx;rcases hx with rfl | rfl | rfl | rfl | rfl <;> exact ⟨by decide, ⟨by decide, by decide⟩, ⟨by decide, by decide⟩, by decide⟩) (hM.below hM.lt hal) (hS.below hal) (fun w' h' => hP w' (below_next hal h')) wak_show wak_fit)
 rw [wak_spell] at kT;unfold spellV at kT;dsimp only at kT;replace hal := Lib.hid hal;clear hM hS hP;go_enter Tryd.func5, Tryd.ntmps5
 go_wp2_with fail
 refine kT.out.mono ?_;rintro e w1 ⟨rfl, hb⟩;have hb3 := Lib.hid (below_next hal.out hb);clear hb kT hal;go_wp2_with fail
 go_ret
 exact ⟨rfl, hb3.out⟩
end Go.Proofs.YtjiemkidmlgbeaaDoor
namespace Go.Proofs.YtjiemkidmlgbeaaDoor
open Go.RowKit Go.ChangeShapes Go.WideShapes Go.Deep
section
variable {H : Type} {enc : TypeId × Value → H} {P : Program} {w : World} {base : Nat} {spare : Nat → Bool} {held : Bool}
theorem open_slice_fields {t e : TypeId} {fs : Array Field} {fuel : Nat} {cs : List Value} {x : DataW H × List MemPlace} (ht : P.underlying t = some (.slice e)) (he : P.underlying e = some (.struct fs))
   (hone : oneCellFields P fs = true) (hC : P.cellsOf e = fs.size) (h : DataW.trod enc P w base spare held fuel t cs = some x) :
   (cs = [.slice none 0 0] ∧ x = (.nil, [])) ∨
   ∃ (a : Addr) (len cap m : Nat) (D : Nat → DataW H) (Pl : Nat → List MemPlace), cs = [.slice (some a) len cap] ∧ base ≤ a.block ∧ len ≤ cap ∧ cap ≤ maxLen ∧ m = (if spare a.block then cap else len) ∧
     x = (.slice ((List.range len).map D) ((List.range (m - len)).map fun j => D (len + j)), MemPlace.row a (m * fs.size) ++ (List.range m).flatMap Pl) ∧
     ∀ i, i < m → ∃ (ys : List (DataW H × List MemPlace)) (n : Nat), D i = .agg (ys.map (·.1)) ∧ Pl i = ys.flatMap (·.2) ∧ ys.length = fs.size ∧
       ∀ (j : Nat) (f : Field), fs[j]? = some f → ∃ (v : Value) (y : DataW H × List MemPlace), w.cell? (a.add (i * fs.size + j)) = some v ∧ ys[j]? = some y ∧ DataW.trod enc P w base spare held n f.type [v] = some y := by
 rcases open_slice ht h with h0 | ⟨a, len, cap, m, n, D, Pl, hcs, hb, hl, hm, hmm, hx, hi⟩
 · exact .inl h0
 · refine .inr ⟨a, len, cap, m, D, Pl, hcs, hb, hl, hm, hmm, by rw [hC] at hx; exact hx, fun i him => ?_⟩
   obtain ⟨cs', hc, ht'⟩ := hi i him;rw [hC] at hc;obtain ⟨ys, n', hn', hy, hlen, hyl, hf⟩ := DataW.trod_struct he ht';obtain ⟨_, hcl, hat⟩ := World.cells?_some hc;simp only [Prod.mk.injEq] at hy;refine ⟨ys, n', hy.1, hy.2, hyl, fun j f hj => ?_⟩;obtain ⟨ho, hk⟩ := hone_of hone j f hj;have hjl : j < fs.size := (Array.getElem?_eq_some_iff.1 hj).1;have hcell := hat j hjl;have hv : cs'[j]? = some (cs'[j]'(by omega)) := List.getElem?_eq_getElem (by omega);have h1 := hf j f hj;rw [ho, hk] at h1;have hone' : (cs'.drop j).take 1 = [cs'[j]'(by omega)] := by
     rw [List.drop_eq_getElem_cons (by omega)];rfl
   rw [hone'] at h1;have hys : ys[j]? = some (ys[j]'(by omega)) := List.getElem?_eq_getElem (by omega);refine ⟨_, _, ?_, hys, h1.trans hys⟩;rw [← Go.Deep.add_add, hcell, hv]
end
theorem i64_of_wf' {a : Int} (h : (Lit.int .i64 a).wf = true) : I64 a := by
 simp [Lit.wf, IntKind.min, IntKind.max, IntKind.signed, IntKind.bits] at h
 exact ⟨by omega, by omega⟩
def TwsIn (w : World) (v : Value) : Prop := ∃ ts, TwIn w v ts ∧ (∀ t ∈ ts, FitT t) ∧ ∀ len cap, v = .slice none len cap → len = 0 ∧ cap = 0
theorem twsIn_of_trod {H : Type} {enc : TypeId × Value → H} {P : Program} {W : World} {t e : TypeId} {f0 f1 f2 f3 : Field} {v : Value} {d : DataW H} {ps : List MemPlace}
   (ht : P.underlying t = some (.slice e)) (he : P.underlying e = some (.struct #[f0, f1, f2, f3])) (hone : oneCellFields P #[f0, f1, f2, f3] = true) (hc : P.cellsOf e = 4)
   (h0 : P.underlying f0.type = some (.int .u8)) (h1 : P.underlying f1.type = some (.int .i64)) (h2 : P.underlying f2.type = some (.int .i64)) (h3 : P.underlying f3.type = some .string)
   (hv : ∃ a len cap, v = .slice a len cap) (h : DataW.Trod enc P W 0 (fun _ => true) true t v d ps) : TwsIn W v := by
 obtain ⟨a0, len, cap, rfl⟩ := hv;obtain ⟨fuel, hf⟩ := h;rcases open_slice_fields ht he hone hc hf with ⟨hcs, _⟩ | ⟨a, len', cap', m, Dt, Pl, hcs, _, hl, hm, hmm, _, hi⟩
 · simp [Value.cells] at hcs
   obtain ⟨rfl, rfl, rfl⟩ := hcs;exact ⟨[], ⟨none, 0, rfl, by simp, by omega, fun h => by simp at h⟩, by simp, fun len cap h => by cases h; exact ⟨rfl, rfl⟩⟩
 · simp [Value.cells] at hcs
   obtain ⟨rfl, rfl, rfl⟩ := hcs;simp only [if_true] at hmm;have key : ∀ j, ∃ s : Tw, j < len → FitT s ∧ (W.cell? (a.add (j * 4)) = some (.int .u8 s.op) ∧ W.cell? (a.add (j * 4 + 1)) = some (.int .i64 s.kids) ∧ W.cell? (a.add (j * 4 + 2)) = some (.int .i64 s.num) ∧ W.cell? (a.add (j * 4 + 3)) = some (.string ⟨s.text.toArray⟩)) := by
     intro j;by_cases hj : j < len
     · obtain ⟨ys, n, _, _, hyl, hg⟩ := hi j (by omega)
       obtain ⟨v0, y0, c0, _, t0⟩ := hg 0 f0 rfl;obtain ⟨v1, y1, c1, _, t1⟩ := hg 1 f1 rfl;obtain ⟨v2, y2, c2, _, t2⟩ := hg 2 f2 rfl;obtain ⟨v3, y3, c3, _, t3⟩ := hg 3 f3 rfl;obtain ⟨n0, e0, _, w0⟩ := DataW.trod_int h0 t0;obtain ⟨n1, e1, _, w1⟩ := DataW.trod_int h1 t1;obtain ⟨n2, e2, _, w2⟩ := DataW.trod_int h2 t2;obtain ⟨s3, e3, _, w3⟩ := DataW.trod_string h3 t3;simp only [List.cons.injEq, and_true] at e0 e1 e2 e3;subst e0; subst e1; subst e2; subst e3;have hn0 : 0 ≤ n0 := by
         simp only [Lit.wf, Bool.and_eq_true, decide_eq_true_eq] at w0;exact w0.1
       obtain ⟨k0, rfl⟩ := Int.eq_ofNat_of_zero_le hn0;refine ⟨⟨k0, n1, n2, s3.data.toList⟩, fun _ => ⟨⟨?_, i64_of_wf' w1, i64_of_wf' w2, ?_⟩, c0, c1, c2, c3⟩⟩
       · show s3.data.toList.length ≤ _
         rw [Array.length_toList];unfold maxLen at w3;exact w3
       · simp [Lit.wf, IntKind.min, IntKind.max, IntKind.signed, IntKind.bits] at w0
         show k0 < 256
         omega
     · exact ⟨⟨0, 0, 0, []⟩, fun h => absurd h hj⟩
   obtain ⟨f, hf⟩ := Classical.axiomOfChoice key;have hgl : ((List.range len).map f).length = len := by rw [List.length_map, List.length_range]
   refine ⟨(List.range len).map f, ⟨some a, cap, by rw [hgl], by rw [hgl]; exact hl, hm, ?_⟩, ?_, fun len cap h => by cases h⟩
   · intro hpos
     rw [hgl] at hpos;obtain ⟨b, off, spot⟩ := a;have hspot : spot = none := by simpa [Addr.add] using World.cell?_spot (hf 0 hpos).2.1
     subst hspot;refine ⟨b, off, rfl, ?_, fun j hj c hc' => ?_⟩
     · have := (hf 0 hpos).2.1
       rw [add_plain] at this;exact World.block_lt_of_cell? W _ this
     · have hj' : j < len := by simpa using hj
       obtain ⟨g0, g1, g2, g3⟩ := (hf j hj').2;rw [add_plain] at g0 g1 g2 g3;rw [List.getElem_map, List.getElem_range]
       match c, hc' with
       | 0, _ => exact g0
       | 1, _ => rw [Nat.add_assoc]; exact g1
       | 2, _ => rw [Nat.add_assoc]; exact g2
       | 3, _ => rw [Nat.add_assoc]; exact g3
   · intro s hs
     obtain ⟨j, hj, rfl⟩ := List.mem_map.1 hs;exact (hf j (List.mem_range.1 hj)).1
end Go.Proofs.YtjiemkidmlgbeaaDoor
namespace Go.Proofs.YtjiemkidmlgbeaaDoor
open Go.RowKit Go.ChangeShapes Tok
theorem cells_of_strs {H : Type} {enc : TypeId × Value → H} {P : Program} {w : World} {base : Nat} {sp : Nat → Bool} {held : Bool} {fuel : Nat} {t e : TypeId} {n : Nat} {cs : List Value} {zs : List (List UInt8)} {p : List MemPlace}
   (ht : P.underlying t = some (.array n e)) (he : P.underlying e = some .string) (hce : P.cellsOf e = 1) (hct : P.cellsOf t = n)
   (h : DataW.trod enc P w base sp held fuel t cs = some (.agg (zs.map fun z => .lit (.string z)), p)) : cs = zs.map fun z => Value.string ⟨z.toArray⟩ := by
 cases fuel with
 | zero => simp [DataW.trod] at h
 | succ fuel =>
   simp only [DataW.trod, ht, hce, hct, Nat.mul_one] at h;split at h
   · rename_i hl
     obtain ⟨xs, hm, hx⟩ := Option.map_eq_some_iff.1 h;have hxs : xs.map (·.1) = zs.map fun z => (DataW.lit (.string z) : DataW H) := by
       have := congrArg Prod.fst hx
       simpa using this
     have hxl : xs.length = n := by simpa using Lib.mapM_length hm
     have hzl : zs.length = n := by
       have := congrArg List.length hxs;simp at this
       omega
     apply List.ext_getElem?
     intro i;by_cases hi : i < n
     · obtain ⟨b, hb, hf⟩ := Lib.mapM_at hm i i (by simp [hi])
       obtain ⟨z, hc, rfl, _⟩ := DataW.trod_string he hf;have h1 : cs[i]? = some (.string z) := by
         have := congrArg (·[0]?) hc
         simpa [List.getElem?_take, List.getElem?_drop] using this
       have h2 : (xs.map (·.1))[i]? = some (DataW.lit (.string z.data.toList) : DataW H) := by simp [hb]
       rw [hxs] at h2;simp only [List.getElem?_map, Option.map_eq_some_iff, DataW.lit.injEq, Lit.string.injEq] at h2;obtain ⟨z', hz', h3⟩ := h2;subst h3;simp [h1, hz']
     · rw [List.getElem?_eq_none (by omega), List.getElem?_eq_none (by simp; omega)]
   · cases h
theorem signs_num : Tryd.prog.globalNamed "prompter/token.signs" = some 0 := by kernel_rfl
theorem signsOK_of {r : List (String × DataW Unit)} {W : World} (h : laidMet Tryd.prog (("prompter/token.signs", .agg (signs.map fun z => .lit (.string z))) :: r) W) : SignsOK W := by
 obtain ⟨ps, ⟨g', t', cs, fuel, p, q, hg', ht', hvar, hd, _, _⟩, _⟩ := h;obtain rfl := Option.some.inj (signs_num.symm.trans hg');obtain rfl := Option.some.inj ((show (Tryd.prog.globals[0]?).map (·.type) = some 89 by kernel_rfl).symm.trans ht');have hcs := cells_of_strs Tryd.underlying89 Tryd.underlying9 (by kernel_rfl) (by kernel_rfl) hd;intro i hi;have h1 := World.var?_cell signs_num hvar i;have h2 : cs[i]? = cs.toList[i]? := by simp
 rw [h1, h2, hcs];have hl : i < signs.length := hi;simp [List.getElem?_map, List.getElem?_eq_getElem hl, List.getD_eq_getElem?_getD]
end Go.Proofs.YtjiemkidmlgbeaaDoor
namespace Go.Proofs.YtjiemkidmlgbeaaDoor
open Go.RowKit Go.ChangeShapes Go.Deep Tok
theorem chunks3_of {α β : Type} {g : α → List β} : ∀ (zs : List α) (cs : List β), (∀ z, (g z).length = 3) → cs.length = zs.length * 3 → (∀ k (h : k < zs.length), (cs.drop (k * 3)).take 3 = g zs[k]) → cs = zs.flatMap g
 | [], cs, _, hl, _ => by simpa using hl
 | z :: zs, cs, hg, hl, h => by
   have h0 := h 0 (by simp);rw [List.length_cons] at hl;rw [List.flatMap_cons, ← chunks3_of zs (cs.drop 3) hg (by rw [List.length_drop]; omega) (fun k hk => by
     have := h (k + 1) (by simpa using hk);rw [List.drop_drop, show 3 + k * 3 = (k + 1) * 3 by omega]
     simpa using this)]
   have h1 : cs.take 3 = g z := by simpa using h0
   rw [← h1, List.take_append_drop]
theorem cells_of_marks {H : Type} {enc : TypeId × Value → H} {P : Program} {w : World} {base : Nat} {sp : Nat → Bool} {held : Bool} {fuel : Nat} {t e : TypeId} {f0 f1 f2 : Field} {n : Nat} {cs : List Value} {zs : List (Nat × Nat × List UInt8)} {p : List MemPlace}
   (ht : P.underlying t = some (.array n e)) (he : P.underlying e = some (.struct #[f0, f1, f2])) (h0 : P.underlying f0.type = some (.int .u8)) (h1 : P.underlying f1.type = some (.int .u8)) (h2 : P.underlying f2.type = some .string) (o0 : f0.offset = 0) (o1 : f1.offset = 1) (o2 : f2.offset = 2)
   (hc0 : P.cellsOf f0.type = 1) (hc1 : P.cellsOf f1.type = 1) (hc2 : P.cellsOf f2.type = 1) (hce : P.cellsOf e = 3) (hct : P.cellsOf t = n * 3)
   (h : DataW.trod enc P w base sp held fuel t cs = some (.agg (zs.map fun z => .agg [.lit (.int .u8 (z.1 : Int)), .lit (.int .u8 (z.2.1 : Int)), .lit (.string z.2.2)]), p)) : cs = zs.flatMap fun z => [Value.int .u8 (z.1 : Int), Value.int .u8 (z.2.1 : Int), Value.string ⟨z.2.2.toArray⟩] := by
 cases fuel with
 | zero => simp [DataW.trod] at h
 | succ fuel =>
   simp only [DataW.trod, ht, hce, hct] at h;split at h
   · rename_i hl
     obtain ⟨xs, hm, hx⟩ := Option.map_eq_some_iff.1 h;have hxs : xs.map (·.1) = zs.map fun z => (DataW.agg [.lit (.int .u8 (z.1 : Int)), .lit (.int .u8 (z.2.1 : Int)), .lit (.string z.2.2)] : DataW H) := by
       have := congrArg Prod.fst hx
       simpa using this
     have hxl : xs.length = n := by simpa using Lib.mapM_length hm
     have hzl : zs.length = n := by
       have := congrArg List.length hxs;simp at this
       omega
     refine chunks3_of zs cs (fun z => rfl) (by rw [hl, hzl]) (fun k hk => ?_);obtain ⟨b, hb, hf⟩ := Lib.mapM_at hm k k (by rw [List.getElem?_range (by omega)]);obtain ⟨y0, y1, y2, m, rfl, hlen, g0, g1, g2⟩ := trod_struct3 he hf;have h3 : (xs.map (·.1))[k]? = some (DataW.agg [y0.1, y1.1, y2.1] : DataW H) := by simp [hb]
     rw [hxs, List.getElem?_map, List.getElem?_eq_getElem hk] at h3;simp only [Option.map_some, Option.some.injEq, DataW.agg.injEq, List.cons.injEq, and_true] at h3;rw [o0, hc0] at g0;rw [o1, hc1] at g1;rw [o2, hc2] at g2;obtain ⟨q0, e0, e0', _⟩ := DataW.trod_int h0 g0;obtain ⟨q1, e1, e1', _⟩ := DataW.trod_int h1 g1;obtain ⟨z, e2, e2', _⟩ := DataW.trod_string h2 g2;rw [hce] at hlen;generalize (cs.drop (k * 3)).take 3 = ch at *
     match ch, hlen with
     | [a, b, c], _ =>
       simp at e0 e1 e2
       subst e0 e1 e2;have k0 : y0.1 = .lit (.int .u8 q0) := by rw [e0']
       have k1 : y1.1 = .lit (.int .u8 q1) := by rw [e1']
       have k2 : y2.1 = .lit (.string z.data.toList) := by rw [e2']
       rw [k0, k1, k2] at h3;simp at h3
       obtain ⟨hq0, hq1, hz⟩ := h3;rw [hz, ← hq0, ← hq1]
   · cases h
theorem marks_num : Tryd.prog.globalNamed "prompter/show.marks" = some 1 := by kernel_rfl
theorem marksOK_of {r : List (String × DataW Unit)} {W : World} (h : laidMet Tryd.prog (("prompter/show.marks", .agg (marksL.map fun z => .agg [.lit (.int .u8 (z.1 : Int)), .lit (.int .u8 (z.2.1 : Int)), .lit (.string z.2.2)])) :: r) W) : MarksOK W := by
 obtain ⟨ps, ⟨g', t', cs, fuel, p, q, hg', ht', hvar, hd, _, _⟩, _⟩ := h;obtain rfl := Option.some.inj (marks_num.symm.trans hg');obtain rfl := Option.some.inj ((show (Tryd.prog.globals[1]?).map (·.type) = some 94 by kernel_rfl).symm.trans ht');have hcs := cells_of_marks Tryd.underlying94 Tryd.underlying93 Tryd.underlying5 Tryd.underlying5 Tryd.underlying9 rfl rfl rfl (by kernel_rfl) (by kernel_rfl) (by kernel_rfl) (by kernel_rfl) (by kernel_rfl) hd;intro j v hv;rw [Nat.zero_add];rw [World.var?_cell marks_num hvar j];have h2 : cs[j]? = cs.toList[j]? := by simp
 rw [h2, hcs];exact hv
end Go.Proofs.YtjiemkidmlgbeaaDoor
namespace Go.Proofs.YtjiemkidmlgbeaaDoor
open Go.RowKit
abbrev PowIs (w : World) : Prop := Lib.TabIs Tryd.prog w "internal/strconv.uint64pow10" .u64 Lib.pow10Tab
theorem tab_num : Tryd.prog.globalNamed "internal/strconv.uint64pow10" = some 2 := by kernel_rfl
end Go.Proofs.YtjiemkidmlgbeaaDoor
