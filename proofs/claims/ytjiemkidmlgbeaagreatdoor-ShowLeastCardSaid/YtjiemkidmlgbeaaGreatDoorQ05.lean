/- A part of the proof: Tgs, TAll, TTk, PRd, PCatch. No condition. -/
import Derived.WalkKit
import Derived.Maps.AppendAt
import Derived.Laws.AppendOwnNone
import Derived.LoopTactic
import Derived.Deep.QuietTactic
import Derived.BigQuiet
import Derived.RegionTactic
import Derived.StillTailTactics
import Derived.Laws.Rows
import Derived.Defers
import Derived.Recover
import Derived.Test.YtjiemkidmlgbeaaGreatDoorQ01
import Derived.Test.YtjiemkidmlgbeaaGreatDoorQ03
import Derived.Test.YtjiemkidmlgbeaaGreatDoorQ04
set_option linter.unusedVariables false
set_option linter.unusedSimpArgs false
namespace Go.Proofs.YtjiemkidmlgbeaaGreatDoor
open Go.RowKit Tok
theorem tk_info : (Tryz.prog.info? 54).map (fun i => (i.zero, i.size, i.bytes)) = some (some (.agg #[.int .u8 0, .string ⟨#[]⟩, .int .i64 0, .int .i64 0]), 4, 40) := by kernel_rfl
theorem tk_parts : ∃ i0, Tryz.prog.info? 54 = some i0 ∧ i0.zero = some (.agg #[.int .u8 0, .string ⟨#[]⟩, .int .i64 0, .int .i64 0]) ∧ i0.size = 4 ∧ i0.bytes = 40 := by
 have h := tk_info;cases hi : Tryz.prog.info? 54 with
 | none => rw [hi] at h; simp at h
 | some i0 =>
   rw [hi] at h;simp at h
   exact ⟨i0, rfl, h.1, h.2.1, h.2.2⟩
theorem cells_new (w : World) (xs : List Value) (t : TypeId) (j : Nat) (u : Value) (h : xs[j]? = some u) : (w.alloc (.cells xs.toArray t)).cell? ((⟨w.heap.size, 0, none⟩ : Addr).add j) = some u := by
 rw [show (⟨w.heap.size, 0, none⟩ : Addr).add j = ⟨w.heap.size, j, none⟩ by simp [Addr.add]; omega];simp only [World.cell?, heap_alloc_new]
 simpa using h
def Fit (t : Tg) : Prop := t.text.length ≤ 9223372036854775807 ∧ I64 t.num
def TgIn (w : World) (v : Value) (ts : List Tg) : Prop :=
 ∃ a cap, v = .slice a ts.length cap ∧ ts.length ≤ cap ∧ cap ≤ 9223372036854775807 ∧ (0 < ts.length → ∃ g off, a = some ⟨g, off, none⟩ ∧ g < w.heap.size ∧ ∀ i (hi : i < ts.length) (c : Nat), c < 4 → w.cell? ⟨g, off + i * 4 + c, none⟩ = (tgC ts[i])[c]?)
theorem TgIn.below {w W : World} {v : Value} {ts : List Tg} (h : TgIn w v ts) (hb : Below w.heap.size w W) : TgIn W v ts := by
 obtain ⟨a, cap, rfl, h1, h2, h3⟩ := h;refine ⟨a, cap, rfl, h1, h2, fun h0 => ?_⟩;obtain ⟨g, off, rfl, hg, hc⟩ := h3 h0;exact ⟨g, off, rfl, Nat.lt_of_lt_of_le hg hb.size, fun i hi c hc' => (hb.cell (p := ⟨g, off + i * 4 + c, none⟩) hg).trans (hc i hi c hc')⟩
theorem tg_cells {w W : World} {g off : Nat} {ts : List Tg} (hg : g < w.heap.size) (hc : ∀ i (hi : i < ts.length) (c : Nat), c < 4 → w.cell? ⟨g, off + i * 4 + c, none⟩ = (tgC ts[i])[c]?) (hb : Below w.heap.size w W) {i : Nat} (hi : i < ts.length) {kd : Nat} {tx : List UInt8} {x at_ : Int} (ht : ts[i] = ⟨kd, tx, x, at_⟩) :
   W.cell? ⟨g, off + i * 4, none⟩ = some (.int .u8 kd) ∧ W.cell? ⟨g, off + i * 4 + 1, none⟩ = some (.string ⟨tx.toArray⟩) ∧ W.cell? ⟨g, off + i * 4 + 2, none⟩ = some (.int .i64 x) ∧ W.cell? ⟨g, off + i * 4 + 3, none⟩ = some (.int .i64 at_) := by
 have h0 := (hb.cell (p := ⟨g, off + i * 4 + 0, none⟩) hg).trans (hc i hi 0 (by omega));have h1 := (hb.cell (p := ⟨g, off + i * 4 + 1, none⟩) hg).trans (hc i hi 1 (by omega));have h2 := (hb.cell (p := ⟨g, off + i * 4 + 2, none⟩) hg).trans (hc i hi 2 (by omega));have h3 := (hb.cell (p := ⟨g, off + i * 4 + 3, none⟩) hg).trans (hc i hi 3 (by omega));rw [ht] at h0 h1 h2 h3;exact ⟨h0, h1, h2, h3⟩
theorem tgC_len (t : Tg) : (tgC t).length = 4 := rfl
theorem tgC_one (t : Tg) : ∀ u ∈ tgC t, u.oneCell' = true := by
 intro u hu;simp only [tgC, List.mem_cons, List.not_mem_nil, or_false] at hu;rcases hu with rfl | rfl | rfl | rfl <;> rfl
def TgsAt (w : World) (base : Nat) (v : Value) (ts : List Tg) : Prop := w.ownsRow base 54 4 v ts.length (rowOf tgC ts)
section
variable {w W : World} {base : Nat} {v : Value} {ts : List Tg}
theorem TgsAt.below (h : TgsAt w base v ts) (hb : Below w.heap.size w W) : TgsAt W base v ts := ownsRow_only (F := fun _ => False) h (Only.of_below hb) (fun _ _ h => h)
theorem TgsAt.shape (h : TgsAt w base v ts) : ∃ a cap, v = .slice a ts.length cap ∧ ts.length ≤ cap ∧ cap ≤ 9223372036854775807 := ownsRow_shape h
theorem TgsAt.tgIn (h : TgsAt w base v ts) : TgIn w v ts := by
 rcases h.2 with ⟨hv, h0⟩ | ⟨g, cap, cur, hv, hb, hg, hnc, hcm, hsz, ht⟩
 · exact ⟨none, 0, by rw [hv, h0], by omega, by omega, fun h => by omega⟩
 · refine ⟨_, cap, hv, hnc, by unfold maxLen at hcm; omega, fun h0 => ⟨g, 0, rfl, (Array.getElem?_eq_some_iff.1 hg).1, fun i hi c hc => ?_⟩⟩
   have hh := h;unfold TgsAt at hh;rw [hv] at hh;have := World.ownsRow.cellAt (g := g) (cap := cap) hh (i * 4 + c) (by omega);rw [Nat.zero_add, this];exact rowOf_get tgC_len ts i c hi hc
end
end Go.Proofs.YtjiemkidmlgbeaaGreatDoor
namespace Go.Proofs.YtjiemkidmlgbeaaGreatDoor
open Go.RowKit Tok
def noV : Res → Value
 | .ok _ _ _ n => .tuple #[.int .i64 n, .int .i64 0]
 | .bad n e => .tuple #[.int .i64 n, .int .i64 e]
set_option maxHeartbeats 400000 in
theorem noToken_any (s : ByteArray) (w : World) (hs : s.size ≤ 16384) (h0 : 0 < s.size) :
   Calls Tryz.prog 76 #[.string s] w fun e w' => e = .returned (noV (noneT s.data.toList)) ∧ w' = w := by
 have e0 : s.data.toList = s[0] :: s.data.toList.drop 1 := by
   have := at_drop (s := s) (i := 0) h0
   rwa [List.drop_zero] at this
 obtain ⟨R, hR⟩ := exHid (noneT s.data.toList);rw [hR.out];have hR' := hR.out;rw [e0] at hR';by_cases c33 : s[0].toNat = 33
 · have q1 : (((s[0].toNat : Nat) : Int) != 33) = false := by rw [c33]; rfl
   rcases Nat.lt_or_ge 1 s.size with h1 | h1
   · have q2 : ((s.size : Int) == 1) = false := beq_eq_false_iff_ne.2 (by omega)
     have hRv : R = .bad 1 9 := by
       rw [← hR', at_drop h1]; simp [noneT, c33]
     replace hRv := Lib.hid hRv;replace c33 := Lib.hid c33;clear hR' e0;go_enter Tryz.func76, Tryz.ntmps76
     go_wp2
     go_ret2
     exact ⟨by rw [hRv.out]; rfl, rfl⟩
   · have q2 : ((s.size : Int) == 1) = true := beq_iff_eq.2 (by omega)
     have hRv : R = .bad 1 4 := by
       rw [← hR', no_drop h1]; simp [noneT, c33]
     replace hRv := Lib.hid hRv;replace c33 := Lib.hid c33;clear hR' e0;go_enter Tryz.func76, Tryz.ntmps76
     go_wp2
     go_ret2
     exact ⟨by rw [hRv.out]; rfl, rfl⟩
 · have q1 : (((s[0].toNat : Nat) : Int) != 33) = true := by simp; omega
   have hRv : R = .bad 0 9 := by
     rw [← hR']; simp [noneT, c33]
   replace hRv := Lib.hid hRv;clear hR' e0;go_enter Tryz.func76, Tryz.ntmps76
   go_wp2
   go_ret2
   exact ⟨by rw [hRv.out]; rfl, rfl⟩
def tkC (t : Tk) : List Value := [.int .u8 t.kind, .string ⟨t.text.toArray⟩, .int .i64 t.num, .int .i64 t.at_]
def TksAt (w : World) (base : Nat) (v : Value) (ts : List Tk) : Prop := w.ownsRow base 54 4 v ts.length (rowOf tkC ts)
section
variable {w W : World} {base : Nat} {v : Value} {ts : List Tk}
theorem TksAt.nil (w : World) (base : Nat) : TksAt w base (.slice none 0 0) [] := World.ownsRow_nil _ _ _ _
theorem TksAt.below (h : TksAt w base v ts) (hb : Below w.heap.size w W) : TksAt W base v ts := ownsRow_only (F := fun _ => False) h (Only.of_below hb) (fun _ _ h => h)
theorem TksAt.shape (h : TksAt w base v ts) : ∃ a cap, v = .slice a ts.length cap ∧ ts.length ≤ cap ∧ cap ≤ 9223372036854775807 := ownsRow_shape h
end
theorem tkC_one (t : Tk) : ∀ u ∈ tkC t, u.oneCell' = true := by
 intro u hu;simp only [tkC, List.mem_cons, List.not_mem_nil, or_false] at hu;rcases hu with rfl | rfl | rfl | rfl <;> rfl
theorem wpList_append_tk {w : World} {base : Nat} {v : Value} {ts : List Tk} {ops : Array Oper} {rest : List Oper} {o : Oper} {a : Act} {Q : Exit → Act → World → Prop} (hgd : o.guard = none) (s x : Operand)
   (ho : o.op = .call { callee := .builtin .append, args := #[s, x], argTypes := #[37, 37] })
   (hs : a.eval s = v) (hown : TksAt w base v ts) {t : Tk} {w2 : World} (hw : w = w2.alloc (.cells (tkC t).toArray 54)) (hx : a.eval x = .slice (some ⟨w2.heap.size, 0, none⟩) 1 1)
   (hk : ts.length ≤ 1000000000) (hbase : base ≤ w.heap.size)
   (h : ∀ a' cap w', TksAt w' base (.slice a' (ts.length + 1) cap) (ts ++ [t]) → Below base w w' → wpList Tryz.prog ops Q rest (a.put o.dst (.slice a' (ts.length + 1) cap)) w') : wpList Tryz.prog ops Q (o :: rest) a w := by
 obtain ⟨i0, hi, hz0, hz1, hz2⟩ := tk_parts;subst hw;refine wpList_append_own_at _ hgd s x 37 ho base 54 i0 (.agg #[.int .u8 0, .string ⟨#[]⟩, .int .i64 0, .int .i64 0]) 4 40 Tryz.underlying37 hi hz0 hz1 hz2 rfl (by decide) v ts.length (rowOf tkC ts) hs hown ⟨w2.heap.size, 0, none⟩ 1 1 (tkC t) hx rfl (fun j u hj => cells_new w2 (tkC t) _ j u hj) (tkC_one t) (by unfold maxLen; omega) (by omega) hbase ?_;intro v' w' h2 h3 _ _;obtain ⟨a', cap, rfl, _⟩ := ownsRow_shape h2;refine h a' cap w' ?_ ((Below.refl base _).grown h3 hbase (fun k hk => (World.ownsRow.lt hown k hk).1));unfold TksAt;rw [rowOf_snoc, List.length_append];exact h2
theorem textGo_le : ∀ (k : Nat) (l acc : List UInt8) (n : Nat), match textGo k l acc n with | .ok _ _ _ i => i ≤ n + l.length | .bad i _ => i ≤ n + l.length + 3
 | 0, l, _, n => by unfold textGo; simp only; omega
 | k + 1, l, acc, n => by
   unfold textGo
   match l with
   | [] => simp only; omega
   | c :: r =>
     dsimp only;split
     · rename_i h
       split at h
       · injection h; simp; omega
       · cases hi : itemT c r with
         | bad j e => rw [hi] at h; cases h
         | ok b j =>
           rw [hi] at h;dsimp only at h;split at h
           · cases h
           · have h1 := itemT_le hi
             have h2 := textGo_le k ((c :: r).drop j) (acc ++ [b]) (n + j);rw [h] at h2;simp only [List.length_drop, List.length_cons] at h2 ⊢;omega
     · rename_i h
       split at h
       · cases h
       · cases hi : itemT c r with
         | bad j e =>
           rw [hi] at h;have := (itemT_code hi).2;injection h;simp; omega
         | ok b j =>
           rw [hi] at h;dsimp only at h;split at h
           · injection h; simp; omega
           · have h1 := itemT_le hi
             have h2 := textGo_le k ((c :: r).drop j) (acc ++ [b]) (n + j);rw [h] at h2;simp only [List.length_drop, List.length_cons] at h2 ⊢;omega
theorem prefix_le : ∀ (a b : List UInt8), a.isPrefixOf b = true → a.length ≤ b.length
 | [], _, _ => by simp
 | _ :: _, [], h => by simp at h
 | x :: a, y :: b, h => by
   simp only [List.isPrefixOf, Bool.and_eq_true] at h;have := prefix_le a b h.2;simp; omega
theorem signGo_le : ∀ (ss : List (List UInt8)) (l : List UInt8), match signGo ss l with | .ok _ _ _ i => i ≤ l.length | .bad i _ => i ≤ 1
 | [], l => by
   show match noneT l with | .ok _ _ _ i => i ≤ l.length | .bad i _ => i ≤ 1
   match l with
   | [] => simp [noneT]
   | c :: r =>
     unfold noneT;dsimp only;by_cases h1 : c.toNat ≠ 33
     · rw [if_pos h1]; simp
     · rw [if_neg h1]
       by_cases h2 : r = []
       · rw [if_pos h2]; simp
       · rw [if_neg h2]; simp
 | s :: ss, l => by
   unfold signGo;by_cases h : s.isPrefixOf l = true
   · rw [if_pos h]; exact prefix_le s l h
   · rw [if_neg h]; exact signGo_le ss l
theorem tokT_le (l : List UInt8) : match tokT l with | .ok _ _ _ i => i ≤ l.length | .bad i _ => i ≤ l.length + 3 := by
 match l with
 | [] => simp [tokT]
 | c :: r =>
   rw [tokT_cons];by_cases h1 : lowC c = true
   · rw [if_pos h1]
     have := span_le (p := wordC) (c :: r);unfold wordT;split
     · rename_i h; split at h
       · cases h
       · injection h; omega
     · rename_i h; split at h
       · injection h; omega
       · cases h
   · rw [if_neg h1]
     by_cases h2 : digC c = true
     · rw [if_pos h2]
       have := numN_le (c :: r);unfold numT
       repeat' split
       all_goals first
         | (rename_i h; repeat' split at h
            all_goals first | (cases h; done) | (injection h; omega) | (cases h; omega))
     · rw [if_neg h2]
       by_cases h3 : c.toNat = 34
       · rw [if_pos h3]
         have := textGo_le (r.length + 1) r [] 1;have e : textT (c :: r) = textGo (r.length + 1) r [] 1 := rfl;rw [e];split <;> rename_i h <;> rw [h] at this <;> simp only [List.length_cons] at * <;> omega
       · rw [if_neg h3]
         have := signGo_le signs (c :: r);have e : signT (c :: r) = signGo signs (c :: r) := rfl;rw [e];split <;> rename_i h <;> rw [h] at this <;> simp only at this <;> omega
def AtEnd (w : World) (base : Nat) (v : Value) (ts : List Tk) (B : Nat) (R : Res) (n k e : Nat) : Prop :=
 TksAt w base v ts ∧ ((R = .bad k e ∧ e ≠ 0) ∨ (e = 0 ∧ ∃ kd tx x, R = .ok kd tx x k ∧ w.heap[B]? = some (.cells #[.int .u8 kd, .string ⟨tx.toArray⟩, .int .i64 x, .int .i64 n] 54 (0, 0))))
theorem sub_list {s : ByteArray} {n : Nat} {l : List UInt8} (h : s.data.toList.drop n = l) : (s.extract n s.size).data.toList = l := by rw [Lib.extract_to_end, h]
theorem word_res {t : ByteArray} {l : List UInt8} (h : t.data.toList = l) : (wordT l = .bad 0 2 ∧ wordV t = .tuple #[.string ⟨#[]⟩, .int .i64 0, .int .i64 2]) ∨ (∃ k : Nat, wordT l = .ok 1 (l.take k) 0 k ∧ wordV t = .tuple #[.string ⟨(l.take k).toArray⟩, .int .i64 k, .int .i64 0]) := by
 subst h;unfold wordT wordV;by_cases h1 : 24 < span wordC t.data.toList
 · rw [if_pos h1, if_pos h1]; exact .inl ⟨rfl, rfl⟩
 · rw [if_neg h1, if_neg h1]
   refine .inr ⟨_, rfl, ?_⟩;rw [Lib.extract_eq];simp
theorem num_res (l : List UInt8) : (∃ k e : Nat, numT l = .bad k e ∧ e ≠ 0 ∧ k ≤ l.length) ∨ ∃ x k : Nat, numT l = .ok 2 [] x k ∧ k ≤ l.length := by
 have := numN_le l;unfold numT;split
 · exact .inl ⟨_, _, rfl, by omega, by omega⟩
 · split
   · exact .inr ⟨_, _, rfl, this⟩
   · split
     · exact .inl ⟨_, _, rfl, by omega, this⟩
     · exact .inr ⟨_, _, rfl, this⟩
theorem textGo_res : ∀ (k : Nat) (l acc : List UInt8) (n : Nat), (∃ i e : Nat, textGo k l acc n = .bad i e ∧ e ≠ 0) ∨ ∃ (tx : List UInt8) (i : Nat), textGo k l acc n = .ok 3 tx 0 i
 | 0, l, _, n => .inl ⟨_, _, rfl, by omega⟩
 | k + 1, l, acc, n => by
   unfold textGo
   match l with
   | [] => exact .inl ⟨_, _, rfl, by omega⟩
   | c :: r =>
     dsimp only;split
     · exact .inr ⟨_, _, rfl⟩
     · cases hi : itemT c r with
       | bad j e => exact .inl ⟨_, _, rfl, by have := (itemT_code hi).1; omega⟩
       | ok b j =>
         dsimp only;split
         · exact .inl ⟨_, _, rfl, by omega⟩
         · exact textGo_res k _ _ _
theorem text_res (l : List UInt8) : (∃ i e : Nat, textT l = .bad i e ∧ e ≠ 0) ∨ ∃ (tx : List UInt8) (i : Nat), textT l = .ok 3 tx 0 i := textGo_res _ _ _ _
theorem none_res (l : List UInt8) : ∃ i e : Nat, noneT l = .bad i e ∧ e ≠ 0 ∧ i ≤ 1 := by
 match l with
 | [] => exact ⟨_, _, rfl, by omega, by omega⟩
 | c :: r =>
   unfold noneT;dsimp only;split
   · exact ⟨_, _, rfl, by omega, by omega⟩
   · split
     · exact ⟨_, _, rfl, by omega, by omega⟩
     · exact ⟨_, _, rfl, by omega, by omega⟩
section
variable {w wr w3 : World} {v : Value} {ts : List Tk} {cs : Array Value} {j : Nat} {x : Value}
theorem end_at (hB : TksAt wr w.heap.size v ts) (hb : Below w.heap.size w wr) (hb3 : Below (wr.alloc (.cells cs 54)).heap.size (wr.alloc (.cells cs 54)) w3) :
   TksAt w3 w.heap.size v ts ∧ w3.heap[wr.heap.size]? = some (.cells cs 54 (0, 0)) ∧ Below w.heap.size w w3 := by
 have hsz := hb.size;have h1 : wr.heap.size < (wr.alloc (.cells cs 54)).heap.size := by simp
 exact ⟨(hB.below ((Below.refl _ wr).alloc (Nat.le_refl _) _)).below hb3, (hb3.block _ h1).trans (heap_alloc_new wr _), (hb.alloc hsz _).trans (hb3.mono (by omega))⟩
theorem end_cell {b : Nat} (h : w3.heap[b]? = some (.cells cs 54 (0, 0))) (j : Nat) : w3.cell? ⟨b, j, none⟩ = cs[j]? ∧ w3.frozen? ⟨b, j, none⟩ = false := by
 simp [World.cell?, World.frozen?, h]
theorem end_set (hB : TksAt w3 w.heap.size v ts) (hBr : TksAt wr w.heap.size v ts) (h : w3.heap[wr.heap.size]? = some (.cells cs 54 (0, 0))) (hb : Below w.heap.size w w3) (hsz : w.heap.size ≤ wr.heap.size) (j : Nat) (x : Value) :
   TksAt (w3.setCell ⟨wr.heap.size, j, none⟩ x) w.heap.size v ts ∧ (w3.setCell ⟨wr.heap.size, j, none⟩ x).heap[wr.heap.size]? = some (.cells (cs.setIfInBounds j x) 54 (0, 0)) ∧ Below w.heap.size w (w3.setCell ⟨wr.heap.size, j, none⟩ x) := by
 refine ⟨ownsRow_only hB ((Only.refl (fun k => k = wr.heap.size) w3).setCell (p := ⟨wr.heap.size, j, none⟩) (.inl rfl) x) (fun g hg e => ?_), heap_setCell_same w3 _ j _ _ x h, hb.setCell (p := ⟨wr.heap.size, j, none⟩) hsz x⟩;have := (World.ownsRow.lt hBr g hg).2;have e' : g = wr.heap.size := e;omega
end
theorem var_below {w W : World} (hb : Below w.heap.size w W) {nm : String} {cs : Array Value} (h : w.var? Tryz.prog nm = some cs) : W.var? Tryz.prog nm = some cs := by
 unfold World.var? at h ⊢;cases hg : Tryz.prog.globalNamed nm with
 | none => simp [hg] at h
 | some g =>
   simp only [hg, Option.bind_some] at h ⊢;have hlt : g < w.heap.size := by
     rcases Nat.lt_or_ge g w.heap.size with h' | h'
     · exact h'
     · simp [Array.getElem?_eq_none h'] at h
   rw [hb.block g hlt];exact h
theorem ErrR.below {w W : World} (h : ErrR w) (hb : Below w.heap.size w W) : ErrR W := by
 obtain ⟨tp, p, h⟩ := h;exact ⟨tp, p, var_below hb h⟩
theorem sign_step {j : Nat} (hj : j < 17) (l : List UInt8) : (signs.getD j []).length ≤ 2 ∧ signGo (signs.drop j) l = if (signs.getD j []).isPrefixOf l then .ok 4 (signs.getD j []) 0 (signs.getD j []).length else signGo (signs.drop (j + 1)) l := by
 have hl : j < signs.length := hj;have e : signs.getD j [] = signs[j] := by rw [List.getD_eq_getElem?_getD, List.getElem?_eq_getElem hl]; rfl
 refine ⟨?_, ?_⟩
 · have : ∀ j, j < 17 → (signs.getD j []).length ≤ 2 := by decide
   exact this j hj
 · rw [List.drop_eq_getElem_cons hl, e]
   rfl
theorem prefix_call (t : ByteArray) (S l : List UInt8) (h : t.data.toList = l) {b : Bool} (hb : S.isPrefixOf l = b) (w : World) :
   Calls Tryz.prog 75 #[.string t, .string ⟨S.toArray⟩] w fun e w' => e = .returned (.bool b) ∧ w' = w := by
 have := Tryz.strings_HasPrefix t ⟨S.toArray⟩ w;have e : Lib.hasPrefix t.data.toList (⟨S.toArray⟩ : ByteArray).data.toList = b := by
   rw [h]; exact hb
 rw [e] at this;exact this
theorem toLine_end {s : ByteArray} {n m : Nat} (h : toLine (s.data.toList.drop (n + 1)) = toLine (s.data.toList.drop m)) (hm : n + 1 ≤ m) (hms : m ≤ s.size) (he : m = s.size ∨ ∃ h : m < s.size, s[m].toNat = 10) {c : UInt8} (hc : c.toNat = 35) (ts : List Tk) :
   allR (c :: s.data.toList.drop (n + 1)) n ts = allR (s.data.toList.drop m) m ts := by
 have h1 : toLine (s.data.toList.drop m) = s.data.toList.drop m := by
   rcases he with rfl | ⟨h, h10⟩
   · rw [no_drop (Nat.le_refl _)]; rfl
   · rw [at_drop h]; exact if_pos h10
 rw [allR_remark _ _ _ hc, h, h1, List.length_drop, List.length_drop, size_list, show n + 1 + (s.size - (n + 1) - (s.size - m)) = m by omega]
theorem toLine_next {s : ByteArray} {m : Nat} (h : m < s.size) (hc : s[m].toNat ≠ 10) : toLine (s.data.toList.drop m) = toLine (s.data.toList.drop (m + 1)) := by
 rw [at_drop h]; exact if_neg hc
end Go.Proofs.YtjiemkidmlgbeaaGreatDoor
namespace Go.Proofs.YtjiemkidmlgbeaaGreatDoor
open Go.RowKit Tok
theorem tkC_len (t : Tk) : (tkC t).length = 4 := rfl
def TkIn (w : World) (v : Value) (ts : List Tk) : Prop :=
 ∃ a cap, v = .slice a ts.length cap ∧ ts.length ≤ cap ∧ cap ≤ 9223372036854775807 ∧ (0 < ts.length → ∃ g off, a = some ⟨g, off, none⟩ ∧ g < w.heap.size ∧ ∀ i (hi : i < ts.length) (c : Nat), c < 4 → w.cell? ⟨g, off + i * 4 + c, none⟩ = (tkC ts[i])[c]?)
section
variable {w W : World} {base : Nat} {v : Value} {ts : List Tk}
theorem TksAt.tkIn (h : TksAt w base v ts) : TkIn w v ts := by
 rcases h.2 with ⟨hv, h0⟩ | ⟨g, cap, cur, hv, hb, hg, hnc, hcm, hsz, ht⟩
 · exact ⟨none, 0, by rw [hv, h0], by omega, by omega, fun h => by omega⟩
 · refine ⟨_, cap, hv, hnc, by unfold maxLen at hcm; omega, fun h0 => ⟨g, 0, rfl, (Array.getElem?_eq_some_iff.1 hg).1, fun i hi c hc => ?_⟩⟩
   have hh := h;unfold TksAt at hh;rw [hv] at hh;have := World.ownsRow.cellAt (g := g) (cap := cap) hh (i * 4 + c) (by omega);rw [Nat.zero_add, this];exact rowOf_get tkC_len ts i c hi hc
end
end Go.Proofs.YtjiemkidmlgbeaaGreatDoor
namespace Go.Proofs.YtjiemkidmlgbeaaGreatDoor
open Go.RowKit Tok
theorem TkIn.kept {w W : World} {v : Value} {ts : List Tk} (h : TkIn w v ts) {F : Nat → Prop} (ho : Only F w W) (hF : ∀ q n c, v = .slice (some q) n c → 0 < ts.length → ¬ F q.block) : TkIn W v ts := by
 obtain ⟨a, cap, rfl, h1, h2, h3⟩ := h;refine ⟨a, cap, rfl, h1, h2, fun h0 => ?_⟩;obtain ⟨g, off, rfl, hg, hc⟩ := h3 h0;exact ⟨g, off, rfl, Nat.lt_of_lt_of_le hg ho.size, fun i hi c hc' => (ho.cell (p := ⟨g, off + i * 4 + c, none⟩) hg (hF (⟨g, off, none⟩ : Addr) _ _ rfl h0)).trans (hc i hi c hc')⟩
structure PR (w : World) (R : Nat) (a : Option Addr) (cap n : Nat) (ks : List Tk) (p : Nat) : Prop where
 st : w.heap[R]? = some (.cells #[.slice a ks.length cap, .int .i64 p, .int .i64 n] 80 (0, 0))
 tk : TkIn w (.slice a ks.length cap) ks
 ne : ∀ q, a = some q → 0 < ks.length → q.block ≠ R
 le : p ≤ ks.length
 kl : ks.length ≤ 1000000
section
variable {w : World} {R cap n p : Nat} {a : Option Addr} {ks : List Tk}
theorem PR.lt (h : PR w R a cap n ks p) : R < w.heap.size := (Array.getElem?_eq_some_iff.1 h.st).1
theorem PR.c0 (h : PR w R a cap n ks p) : w.cell? ⟨R, 0, none⟩ = some (.slice a ks.length cap) := by simp [World.cell?, h.st]
theorem PR.c1 (h : PR w R a cap n ks p) : w.cell? ⟨R, 1, none⟩ = some (.int .i64 p) := by simp [World.cell?, h.st]
theorem PR.c2 (h : PR w R a cap n ks p) : w.cell? ⟨R, 2, none⟩ = some (.int .i64 n) := by simp [World.cell?, h.st]
theorem PR.fz (h : PR w R a cap n ks p) (j : Nat) : w.frozen? ⟨R, j, none⟩ = false := by simp [World.frozen?, h.st]
theorem PR.kept {w' : World} {F : Nat → Prop} (h : PR w R a cap n ks p) (ho : Only F w w') (hR : ¬ F R) (hF : ∀ q, a = some q → 0 < ks.length → ¬ F q.block) : PR w' R a cap n ks p :=
 ⟨(ho.block R h.lt hR).trans h.st, h.tk.kept ho (fun q n c e h0 => by injection e with e _ _; exact hF q e h0), h.ne, h.le, h.kl⟩
theorem PR.below {w' : World} (h : PR w R a cap n ks p) (hb : Below w.heap.size w w') : PR w' R a cap n ks p := h.kept (F := fun _ => False) (Only.of_below hb) (fun h => h) (fun _ _ _ h => h)
theorem PR.moved (h : PR w R a cap n ks p) {q : Nat} (hq : q ≤ ks.length) : PR (w.setCell ⟨R, 1, none⟩ (.int .i64 q)) R a cap n ks q := by
 have ho : Only (fun k => k = R) w (w.setCell ⟨R, 1, none⟩ (.int .i64 q)) := (Only.refl (fun k => k = R) w).setCell (p := ⟨R, 1, none⟩) (.inl rfl) _;refine ⟨?_, h.tk.kept ho (fun q n c e h0 => by injection e with e _ _; exact h.ne q e h0), h.ne, hq, h.kl⟩;have := heap_setCell_same w R 1 _ _ (.int .i64 q) h.st
 simpa using this
end
theorem below_dn {b : Nat} {w w' : World} (hb : Below b w w') (n : Nat) : Below b w (w'.drewN n) := ⟨hb.os, hb.tape, hb.output, hb.size, hb.block⟩
theorem cell_dn {w : World} {p : Addr} {v : Value} (n : Nat) (h : w.cell? p = some v) : (w.drewN n).cell? p = some v := h
def tok0 : Tk := ⟨0, [], 0, 0⟩
def tkAt (ks : List Tk) (i : Nat) : Tk := ks.getD i tok0
def tkV (t : Tk) : Value := .agg #[.int .u8 t.kind, .string ⟨t.text.toArray⟩, .int .i64 t.num, .int .i64 t.at_]
theorem tkAt_get {ks : List Tk} {i : Nat} (h : i < ks.length) : tkAt ks i = ks[i] := by simp [tkAt, List.getD_eq_getElem?_getD, List.getElem?_eq_getElem h]
def faultV (c p : Nat) : Value := .iface 78 (.agg #[.int .i64 c, .int .i64 p])
def faultOf (ks : List Tk) (n j : Nat) : Value := if j = ks.length then faultV 4 n else faultV 9 (tkAt ks j).at_
def GaveP (ks : List Tk) (n j : Nat) (e : Ending) : Prop := e = .panicked [{ v := faultOf ks n j, recovered := false }]
theorem markT_at (ks : List Tk) (i : Nat) : markT ks i = if (tkAt ks i).kind = 1 ∨ (tkAt ks i).kind = 4 then (tkAt ks i).text else [] := by
 unfold markT tkAt;rw [List.getD_eq_getElem?_getD];cases ks[i]? with
 | none => rfl
 | some x => rfl
set_option maxRecDepth 20000 in
set_option maxHeartbeats 1000000 in
theorem giveUp_any {w : World} {R cap n p : Nat} {a : Option Addr} {ks : List Tk} (h : PR w R a cap n ks p) :
   Calls Tryz.prog 50 #[.pointer (some ⟨R, 0, none⟩)] w fun e w' => GaveP ks n p e ∧ Below w.heap.size w w' := by
 have c0 := h.c0;have c1 := h.c1;have c2 := h.c2;have le := h.le;have kl := h.kl;obtain ⟨a', cap', e, lc, cm, hx⟩ := h.tk;injection e with e1 _ e2;subst e1 e2;unfold GaveP faultOf;have hb0 := fun m => Lib.hid (below_dn (Below.refl w.heap.size w) m)
 have hb1 := fun m => Lib.hid (below_dn ((Below.refl w.heap.size w).drew) m)
 by_cases hp : p = ks.length
 · subst hp
   have hpi : ((ks.length : Int) == (ks.length : Int)) = true := beq_self_eq_true _;rw [if_pos rfl];clear hx h;go_enter Tryz.func50, Tryz.ntmps50
   go_wp2_with fail
   go_quiet (fail)
   have d2 := cell_dn nq c2;go_wp2_with fail
   exact ⟨rfl, rfl, (hb0 _).out⟩
 · rw [if_neg hp]
   have hpi : ((p : Int) == (ks.length : Int)) = false := beq_eq_false_iff_ne.2 (by omega);have hlt : p < ks.length := by omega
   have hlti : (p : Int) < (ks.length : Int) := by omega
   obtain ⟨g, off, rfl, hg, hc⟩ := hx (by omega);have y3 := hc p hlt 3 (by omega);rw [tkAt_get hlt];simp only [tkC, List.getElem?_cons_succ, List.getElem?_cons_zero] at y3;clear hx hc h;generalize ks[p] = t at *;obtain ⟨kd, tx, nu, at_⟩ := t;dsimp only at y3 ⊢;generalize ks.length = N at *;go_enter Tryz.func50, Tryz.ntmps50
   go_wp2_with fail
   go_quiet (fail)
   have d0 := cell_dn nq c0; have d1 := cell_dn nq c1; have d3 := cell_dn nq y3;have hb2 := (hb0 nq).out;clear c0 c1 c2 y3 hb0 hb1;generalize w.drewN nq = wq at *;go_wp2_with fail
   go_still_tail 13, (by kernel_rfl)
   change wpList _ _ _ _ _ wq.drew
   have hb3 := hb2.drew;generalize wq.drew = w2 at *;go_wp2_with fail
   exact ⟨rfl, rfl, hb3⟩
theorem stored4 {W : World} {b : Nat} {x0 x1 x2 x3 : Value} {t : TypeId} (h : W.heap[b]? = some (.cells #[x0, x1, x2, x3] t (0, 0))) (a c d e : Value) :
   ((((W.setCell ⟨b, 0, none⟩ a).setCell ⟨b, 1, none⟩ c).setCell ⟨b, 2, none⟩ d).setCell ⟨b, 3, none⟩ e).heap[b]? = some (.cells #[a, c, d, e] t (0, 0)) ∧ Only (fun k => k = b) W ((((W.setCell ⟨b, 0, none⟩ a).setCell ⟨b, 1, none⟩ c).setCell ⟨b, 2, none⟩ d).setCell ⟨b, 3, none⟩ e) := by
 constructor
 · have a1 := heap_setCell_same W b 0 _ _ a h
   have a2 := heap_setCell_same _ b 1 _ _ c a1;have a3 := heap_setCell_same _ b 2 _ _ d a2;have a4 := heap_setCell_same _ b 3 _ _ e a3
   simpa using a4
 · exact ((((Only.refl (fun k => k = b) W).setCell (p := ⟨b, 0, none⟩) (.inl rfl) a).setCell (p := ⟨b, 1, none⟩) (.inl rfl) c).setCell (p := ⟨b, 2, none⟩) (.inl rfl) d).setCell (p := ⟨b, 3, none⟩) (.inl rfl) e
theorem tok_new (w : World) (n : Nat) : ((w.alloc (.cells #[.int .u8 0, .string ⟨#[]⟩, .int .i64 0, .int .i64 0] 54)).drewN n).heap[w.heap.size]? = some (.cells #[.int .u8 0, .string ⟨#[]⟩, .int .i64 0, .int .i64 0] 54 (0, 0)) := heap_alloc_new w _
theorem ret_tok {W : World} {b : Nat} {tmps : Array Value} {cs : Array Value} (h2 : tmps.getD 2 undef = .pointer (some ⟨b, 0, none⟩)) (hc : W.heap[b]? = some (.cells cs 54 (0, 0))) (h4 : cs.size = 4) : (results Tryz.f78 tmps).run Tryz.prog W = .ok (.agg cs) W :=
 results_cell_row Tryz.results78 tmps W b 54 cs (0, 0) _ h2 hc Tryz.underlying54 rfl (by rw [h4]; kernel_rfl)
set_option maxRecDepth 20000 in
set_option maxHeartbeats 1000000 in
theorem ahead_any {w : World} {R cap n p : Nat} {a : Option Addr} {ks : List Tk} (h : PR w R a cap n ks p) :
   Calls Tryz.prog 78 #[.pointer (some ⟨R, 0, none⟩)] w fun e w' => e = .returned (tkV (tkAt ks p)) ∧ Below w.heap.size w w' := by
 have c0 := h.c0;have c1 := h.c1;have le := h.le;have kl := h.kl;have hRl := h.lt;obtain ⟨a', cap', e, lc, cm, hx⟩ := h.tk;injection e with e1 _ e2;subst e1 e2;have hal := (Below.refl w.heap.size w).alloc (Nat.le_refl _) (.cells #[.int .u8 0, .string ⟨#[]⟩, .int .i64 0, .int .i64 0] 54);have d0 := Below.keeps hal c0;have d1 := Below.keeps hal c1;by_cases hp : p = ks.length
 · subst hp
   have ht : tkAt ks ks.length = tok0 := by unfold tkAt; rw [List.getD_eq_getElem?_getD, List.getElem?_eq_none (Nat.le_refl _)]; rfl
   have hpi : ((ks.length : Int) == (ks.length : Int)) = true := beq_self_eq_true _;rw [ht];unfold tkV tok0;dsimp only;clear hx h ht;go_enter Tryz.func78, Tryz.ntmps78
   go_wp2_with fail
   go_quiet (fail)
   have hb2 := below_dn hal nq;go_wp2_with fail
   obtain ⟨s1, s2⟩ := stored4 (tok_new w nq) (.int .u8 0) (.string ⟨#[]⟩) (.int .i64 0) (.int .i64 0);refine bodyPost_ret (ret_tok rfl s1 rfl) rfl ⟨rfl, ?_⟩;exact hb2.trans (s2.below (by show w.heap.size ≤ (w.alloc _).heap.size; simp) (fun k hk e => by omega))
 · have hpi : ((p : Int) == (ks.length : Int)) = false := beq_eq_false_iff_ne.2 (by omega)
   have hlt : p < ks.length := by omega
   have hlti : (p : Int) < (ks.length : Int) := by omega
   obtain ⟨g, off, rfl, hg, hc⟩ := hx (by omega);have y0 := hc p hlt 0 (by omega); have y1 := hc p hlt 1 (by omega); have y2 := hc p hlt 2 (by omega); have y3 := hc p hlt 3 (by omega);rw [tkAt_get hlt];simp only [tkC, List.getElem?_cons_succ, List.getElem?_cons_zero, Nat.add_zero] at y0 y1 y2 y3;clear hx hc h;generalize ks[p] = t at *;obtain ⟨kd, tx, nu, at_⟩ := t;unfold tkV;dsimp only at y0 y1 y2 y3 ⊢;generalize ks.length = N at *;have z0 := Below.keeps hal y0; have z1 := Below.keeps hal y1; have z2 := Below.keeps hal y2; have z3 := Below.keeps hal y3;clear y0 y1 y2 y3 c0 c1;go_enter Tryz.func78, Tryz.ntmps78
   go_wp2_with fail
   go_quiet (fail)
   have hb2 := below_dn hal nq;have x0 := cell_dn nq z0; have x1 := cell_dn nq z1; have x2 := cell_dn nq z2; have x3 := cell_dn nq z3; have e0 := cell_dn nq d0; have e1 := cell_dn nq d1;go_wp2_with fail
   have hb3 := below_dn hal (nq + 1);go_region
   go_wp2_with fail
   obtain ⟨s1, s2⟩ := stored4 (tok_new w (nq + 1)) (.int .u8 (kd : Int)) (.string ⟨tx.toArray⟩) (.int .i64 (nu : Int)) (.int .i64 (at_ : Int));refine bodyPost_ret (ret_tok rfl s1 rfl) rfl ⟨rfl, ?_⟩;exact hb3.trans (s2.below (by show w.heap.size ≤ (w.alloc _).heap.size; simp) (fun k hk e => by omega))
end Go.Proofs.YtjiemkidmlgbeaaGreatDoor
namespace Go.Proofs.YtjiemkidmlgbeaaGreatDoor
open Go.RowKit Tok
theorem eqFaultP (c p : Int) (w : World) : (binOp .eql 20 (.iface 78 (.agg #[.int .i64 c, .int .i64 p])) .nilIface).run Tryz.prog w = .ok (.bool false) w := by kernel_rfl
theorem asFaultP (c p : Int) (w : World) : (Instr.typeAssert (.iface 78 (.agg #[.int .i64 c, .int .i64 p])) 20 78 true).run Tryz.prog w = .ok (.tuple #[.agg #[.int .i64 c, .int .i64 p], .bool true]) w := by kernel_rfl
theorem slots16 (a b d X : Value) : #[a, b, d] ++ (Array.replicate 13 undef).setIfInBounds 3 X = #[a, b, d, undef, undef, undef, X, undef, undef, undef, undef, undef, undef, undef, undef, undef] := rfl
theorem eqNoneP (w : World) : (binOp .eql 20 .nilIface .nilIface).run Tryz.prog w = .ok (.bool true) w := by kernel_rfl
set_option maxHeartbeats 1000000 in
theorem catchP (ta na ea : Nat) (c p : Int) (x y z : Value) (w : World) (ht : w.cell? ⟨ta, 0, none⟩ = some x) (hn : w.cell? ⟨na, 0, none⟩ = some y) (he : w.cell? ⟨ea, 0, none⟩ = some z)
   (ft : w.frozen? ⟨ta, 0, none⟩ = false) (fn : w.frozen? ⟨na, 0, none⟩ = false) (fe : w.frozen? ⟨ea, 0, none⟩ = false) (h1 : ta ≠ na) (h2 : ta ≠ ea) (h3 : na ≠ ea) :
   CallsD Tryz.prog 49 #[.pointer (some ⟨ta, 0, none⟩), .pointer (some ⟨na, 0, none⟩), .pointer (some ⟨ea, 0, none⟩)] (.panicking [{ v := .iface 78 (.agg #[.int .i64 c, .int .i64 p]), recovered := false }]) w
     fun e u' w' => e = .returned (.tuple #[]) ∧ u' = .panicking [{ v := .iface 78 (.agg #[.int .i64 c, .int .i64 p]), recovered := true }] ∧
       w'.cell? ⟨ta, 0, none⟩ = some (.slice none 0 0) ∧ w'.cell? ⟨na, 0, none⟩ = some (.int .i64 p) ∧ w'.cell? ⟨ea, 0, none⟩ = some (.int .i64 c) ∧ Only (fun k => k = ta ∨ k = na ∨ k = ea) w w' := by
 refine callsD_of_wpS Tryz.func49 rfl fun c₀ cs hu => ?_
 apply wpS_seq
 apply wpS_region
 simp [wpOpsS, go_sem, recoverD, hu, Tryz.ntmps49, Exit.thenS]
 refine wpS_of_wp ?_;rw [slots16];have q1 := eqFaultP c p;have q2 := asFaultP c p;clear hu;go_wp2
 have l0 := World.block_lt_of_cell? w _ ht;have l1 := World.block_lt_of_cell? w _ hn;have l2 := World.block_lt_of_cell? w _ he;simp only at l0 l1 l2;have g0 : ta ≠ w.heap.size := by omega
 have g1 : na ≠ w.heap.size := by omega
 have g2 : ea ≠ w.heap.size := by omega
 have hA := below_cells ((Below.refl w.heap.size w).alloc (Nat.le_refl _) (.cells #[.int .i64 c, .int .i64 p] 78));replace ht := (hA.1 ta 0 l0).trans ht;replace hn := (hA.1 na 0 l1).trans hn;replace he := (hA.1 ea 0 l2).trans he;replace ft := (hA.2 ta 0 l0).trans ft;replace fn := (hA.2 na 0 l1).trans fn;replace fe := (hA.2 ea 0 l2).trans fe;have k0 : (w.alloc (.cells #[.int .i64 c, .int .i64 p] 78)).cell? ⟨w.heap.size, 0, none⟩ = some (.int .i64 c) := by rw [World.cell?_alloc_new]; rfl
 have k1 : (w.alloc (.cells #[.int .i64 c, .int .i64 p] 78)).cell? ⟨w.heap.size, 1, none⟩ = some (.int .i64 p) := by rw [World.cell?_alloc_new]; rfl
 have hO : Only (fun k => k = ta ∨ k = na ∨ k = ea) w (w.alloc (.cells #[.int .i64 c, .int .i64 p] 78)) := (Only.refl _ w).alloc _;generalize w.alloc (.cells #[.int .i64 c, .int .i64 p] 78) = W at ht hn he ft fn fe k0 k1 hO ⊢;generalize w.heap.size = z at g0 g1 g2 k0 k1 ⊢;clear hA l0 l1 l2 q1 q2;go_region
 have d0 := World.cell?_setCell_same _ _ (.slice none 0 0) ht;have e0 : ∀ (W : World) (b b' : Nat) (v : Value), b ≠ b' → (W.setCell ⟨b, 0, none⟩ v).cell? ⟨b', 0, none⟩ = W.cell? ⟨b', 0, none⟩ := fun W b b' v h => World.cell?_setCell_other _ _ _ _ (by intro e; simp only [Addr.mk.injEq] at e; omega);refine ⟨rfl, _, rfl, _, results_none rfl _ _ _, rfl, rfl, ?_, ?_, ?_, (((hO.setCell (p := ⟨ta, 0, none⟩) (.inl (.inl rfl)) _).setCell (p := ⟨na, 0, none⟩) (.inl (.inr (.inl rfl))) _).setCell (p := ⟨ea, 0, none⟩) (.inl (.inr (.inr rfl))) _).drew⟩
 · show ((((W.setCell ⟨ta, 0, none⟩ (.slice none 0 0)).setCell ⟨na, 0, none⟩ (.int .i64 p)).setCell ⟨ea, 0, none⟩ (.int .i64 c))).cell? ⟨ta, 0, none⟩ = _
   rw [e0 _ _ _ _ (by omega), e0 _ _ _ _ (by omega)];exact d0
 · show ((((W.setCell ⟨ta, 0, none⟩ (.slice none 0 0)).setCell ⟨na, 0, none⟩ (.int .i64 p)).setCell ⟨ea, 0, none⟩ (.int .i64 c))).cell? ⟨na, 0, none⟩ = _
   rw [e0 _ _ _ _ (by omega)];exact World.cell?_setCell_same _ _ _ ((e0 _ _ _ _ h1).trans hn)
 · show ((((W.setCell ⟨ta, 0, none⟩ (.slice none 0 0)).setCell ⟨na, 0, none⟩ (.int .i64 p)).setCell ⟨ea, 0, none⟩ (.int .i64 c))).cell? ⟨ea, 0, none⟩ = _
   exact World.cell?_setCell_same _ _ _ ((e0 _ _ _ _ h3).trans ((e0 _ _ _ _ h2).trans he))
set_option maxHeartbeats 400000 in
theorem idleP (ta na ea : Nat) (w : World) :
   CallsD Tryz.prog 49 #[.pointer (some ⟨ta, 0, none⟩), .pointer (some ⟨na, 0, none⟩), .pointer (some ⟨ea, 0, none⟩)] .returning w fun e u' w' => e = .returned (.tuple #[]) ∧ u' = .returning ∧ w' = w := by
 refine callsD_of_wpS Tryz.func49 rfl fun c₀ cs hu => ?_
 apply wpS_seq
 apply wpS_region
 simp [wpOpsS, go_sem, recoverD, hu, Tryz.ntmps49, Exit.thenS]
 refine wpS_of_wp ?_;rw [slots16];have h1 := eqNoneP;go_wp2
 cases c₀
 simp only at hu;subst hu;exact ⟨rfl, _, rfl, _, results_none rfl _ _ _, rfl, rfl, rfl⟩
end Go.Proofs.YtjiemkidmlgbeaaGreatDoor
