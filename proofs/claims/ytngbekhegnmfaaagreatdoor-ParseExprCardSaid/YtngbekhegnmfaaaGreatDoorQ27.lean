/- A part of the proof: ROpn, RFine. No condition. -/
import Derived.Laws.OwnMore
import Derived.Deep.AppendSrc
import Derived.Lib.SliceRun
import Derived.Deep.CutRange
import Derived.Test.YtngbekhegnmfaaaGreatDoorQ08
import Derived.Test.YtngbekhegnmfaaaGreatDoorQ21
import Derived.Test.YtngbekhegnmfaaaGreatDoorQ22
set_option linter.unusedVariables false
set_option linter.unusedSimpArgs false
namespace Go.Proofs.YtngbekhegnmfaaaGreatDoor
open Go.RowKit Go.Shelf
def opC (u : Op3) : List Value := [.int .u8 u.op, .int .i64 u.came, .int .i64 u.n]
theorem opC_len (u : Op3) : (opC u).length = 3 := rfl
theorem opC_one (u : Op3) : ∀ x ∈ opC u, x.oneCell' = true := by
 intro x hx;simp only [opC, List.mem_cons, List.not_mem_nil, or_false] at hx;rcases hx with rfl | rfl | rfl <;> rfl
theorem op_info : (Tryz.prog.info? 113).map (fun i => (i.zero, i.size, i.bytes)) = some (some (.agg #[.int .u8 0, .int .i64 0, .int .i64 0]), 3, 24) := by kernel_rfl
theorem op_parts : ∃ i0, Tryz.prog.info? 113 = some i0 ∧ i0.zero = some (.agg #[.int .u8 0, .int .i64 0, .int .i64 0]) ∧ i0.size = 3 ∧ i0.bytes = 24 := by
 have h := op_info;cases hi : Tryz.prog.info? 113 with
 | none => rw [hi] at h; simp at h
 | some i0 =>
   rw [hi] at h;simp at h
   exact ⟨i0, rfl, h.1, h.2.1, h.2.2⟩
def OpsAt (w : World) (base : Nat) (v : Value) (L : List Op3) : Prop := w.ownsRow base 113 3 v L.length (rowOf opC L.reverse)
theorem rowOf_top (u : Op3) (r : List Op3) : rowOf opC (u :: r).reverse = rowOf opC r.reverse ++ opC u := by rw [List.reverse_cons, rowOf_snoc]
theorem rowOf_rev (r : List Op3) : (rowOf opC r.reverse).length = r.length * 3 := by rw [rowOf_length opC_len, List.length_reverse]
section
variable {w W : World} {base g cap k : Nat} {v : Value} {u : Op3} {r L : List Op3}
theorem OpsAt.below (h : OpsAt w base v L) (hb : Below w.heap.size w W) : OpsAt W base v L := ownsRow_only (F := fun _ => False) h (Only.of_below hb) (fun _ _ h => h)
theorem OpsAt.shape (h : OpsAt w base v L) : ∃ a cap, v = .slice a L.length cap ∧ L.length ≤ cap ∧ cap ≤ 9223372036854775807 := ownsRow_shape h
theorem OpsAt.head (h : OpsAt w base v (u :: r)) : ∃ g cap, v = .slice (some ⟨g, 0, none⟩) (r.length + 1) cap ∧ base ≤ g ∧ g < w.heap.size ∧ r.length + 1 ≤ cap ∧ cap ≤ 9223372036854775807 := by
 obtain ⟨g, cap, e, h1, h2, h3, h4, _⟩ := ownsRow_head h (by simp);exact ⟨g, cap, e, h1, h2, h3, h4⟩
theorem OpsAt.cell (h : OpsAt w base (.slice (some ⟨g, 0, none⟩) (k + 1) cap) (u :: r)) (hk : k = r.length) (j : Nat) (hj : j < 3) : w.cell? ⟨g, k * 3 + j, none⟩ = (opC u)[j]? := by
 subst hk;have hh := h;unfold OpsAt at hh;rw [World.ownsRow.cellAt (g := g) (cap := cap) hh (r.length * 3 + j) (by omega), rowOf_top, List.getElem?_append_right (by rw [rowOf_rev]; omega), rowOf_rev]
 congr 1
 omega
theorem OpsAt.frozen (h : OpsAt w base (.slice (some ⟨g, 0, none⟩) (k + 1) cap) (u :: r)) (hk : k = r.length) (j : Nat) : w.frozen? ⟨g, j, none⟩ = false := by
 subst hk;exact World.ownsRow.frozenAt (n := (u :: r).length) h j
theorem OpsAt.pop (h : OpsAt w base (.slice (some ⟨g, 0, none⟩) (k + 1) cap) (u :: r)) (hk : k = r.length) : OpsAt w base (.slice (some ⟨g, 0, none⟩) k cap) r := by
 subst hk;have := ownsRow_cut (m := r.length) (n := (u :: r).length) h (by simp);rw [rowOf_top, ← rowOf_rev, List.take_left] at this;exact this
theorem OpsAt.came (h : OpsAt w base (.slice (some ⟨g, 0, none⟩) (k + 1) cap) (u :: r)) (hk : k = r.length) (z : Int) (hz : z = ((u.came + 1 : Nat) : Int)) :
   OpsAt (w.setCell ⟨g, k * 3 + 1, none⟩ (.int .i64 z)) base (.slice (some ⟨g, 0, none⟩) (k + 1) cap) (⟨u.op, u.came + 1, u.n⟩ :: r) := by
 subst hk hz;have := World.ownsRow.stored (n := (u :: r).length) h (r.length * 3 + 1) (.int .i64 ((u.came + 1 : Nat) : Int));unfold OpsAt;rw [rowOf_top] at this ⊢;rw [List.set_append_right _ _ (by rw [rowOf_rev]; omega), rowOf_rev, show r.length * 3 + 1 - r.length * 3 = 1 by omega] at this;exact this.1
end
theorem wpList_append_op {w : World} {base : Nat} {v : Value} {L : List Op3} {u : Op3} {ops : Array Oper} {rest : List Oper} {o : Oper} {a : Act} {Q : Exit → Act → World → Prop} (hgd : o.guard = none) (s x : Operand)
   (ho : o.op = .call { callee := .builtin .append, args := #[s, x], argTypes := #[111, 111] })
   (hs : a.eval s = v) (hown : OpsAt w base v L) {G : Nat} (hx : a.eval x = .slice (some ⟨G, 0, none⟩) 1 1) (hc : ∀ j, j < 3 → w.cell? ⟨G, j, none⟩ = (opC u)[j]?)
   (hk : L.length ≤ 1000000000) (hbase : base ≤ w.heap.size)
   (h : ∀ g cap w', OpsAt w' base (.slice (some ⟨g, 0, none⟩) (L.length + 1) cap) (u :: L) → Below base w w' → wpList Tryz.prog ops Q rest (a.put o.dst (.slice (some ⟨g, 0, none⟩) (L.length + 1) cap)) w') : wpList Tryz.prog ops Q (o :: rest) a w := by
 obtain ⟨i0, hi, hz0, hz1, hz2⟩ := op_parts;refine wpList_append_own_at _ hgd s x 111 ho base 113 i0 (.agg #[.int .u8 0, .int .i64 0, .int .i64 0]) 3 24 Tryz.underlying111 hi hz0 hz1 hz2 rfl (by decide) v L.length (rowOf opC L.reverse) hs hown ⟨G, 0, none⟩ 1 1 (opC u) hx rfl ?_ (opC_one u) (by unfold maxLen; omega) (by omega) hbase ?_
 · intro j y hj
   have hj3 : j < 3 := (List.getElem?_eq_some_iff.1 hj).1;rw [show (⟨G, 0, none⟩ : Addr).add j = ⟨G, j, none⟩ by simp [Addr.add]; omega, hc j hj3];exact hj
 · intro v' w' h2 h3 _ _
   rw [← rowOf_top] at h2;obtain ⟨g, cap, e, _⟩ := ownsRow_head h2 (by omega);subst e;exact h g cap w' h2 ((Below.refl base _).grown h3 hbase (fun k hk => (World.ownsRow.lt hown k hk).1))
def GoodI (L : List Op3) : Prop := (∀ u ∈ L, u.op < 256 ∧ u.n ≤ 2048 ∧ u.came ≤ u.n) ∧ ∀ u ∈ L.tail, u.came < u.n
def GoodO (L : List Op3) : Prop := ∀ u ∈ L, u.op < 256 ∧ u.n ≤ 2048 ∧ u.came < u.n
theorem GoodO.push {L : List Op3} (h : GoodO L) (op n : Nat) (h1 : op < 256) (h2 : n ≤ 2048) : GoodI (⟨op, 0, n⟩ :: L) := by
 refine ⟨fun u hu => ?_, fun u hu => (h u hu).2.2⟩;rcases List.mem_cons.1 hu with rfl | hu
 · exact ⟨h1, h2, Nat.zero_le _⟩
 · have := h u hu
   exact ⟨this.1, this.2.1, by omega⟩
theorem GoodI.out_nil : GoodO [] := fun _ h => by cases h
theorem GoodI.out {u : Op3} {r : List Op3} (h : GoodI (u :: r)) (hne : u.came ≠ u.n) : GoodO (u :: r) := by
 intro x hx;have h1 := h.1 x hx;rcases List.mem_cons.1 hx with rfl | hx
 · exact ⟨h1.1, h1.2.1, by omega⟩
 · exact ⟨h1.1, h1.2.1, h.2 x hx⟩
theorem GoodI.next {u v : Op3} {r : List Op3} (h : GoodI (u :: v :: r)) : GoodI (⟨v.op, v.came + 1, v.n⟩ :: r) := by
 have hv := h.2 v (by simp);have hv2 := h.1 v (by simp);refine ⟨fun x hx => ?_, fun x hx => h.2 x (by simp at hx ⊢; exact .inr hx)⟩;rcases List.mem_cons.1 hx with rfl | hx
 · exact ⟨hv2.1, hv2.2.1, hv⟩
 · exact h.1 x (by simp [hx])
set_option maxRecDepth 20000 in
theorem run_headO (g n m cap : Nat) (h : n ≤ m) (hm : m ≤ cap) (hn : 0 < cap) : ∀ W, (Instr.slice 111 (.slice (some ⟨g, 0, none⟩) m cap) none (some (.int .i64 (n : Int))) none).run Tryz.prog W = .ok (.slice (some ⟨g, 0, none⟩) n cap) W := by
 intro W;rw [run_slice_h (P := Tryz.prog) (w := W) 111 (some ⟨g, 0, none⟩) m cap Tryz.underlying111 .i64 n (by omega) (by omega)];obtain ⟨i0, hi, _, hz1, _⟩ := op_parts;have he : Tryz.prog.elem 111 = 113 := by kernel_rfl
 have hs : (sizeOf (Tryz.prog.elem 111)).run Tryz.prog W = .ok 3 W := by rw [he]; simp [sizeOf, typeInfo, hi, hz1, Sem.run_bind, Result.andThen]
 rw [hs];simp only [Result.andThen, sliced, Int.toNat_natCast];rw [if_neg (by omega)];simp [Addr.add]
end Go.Proofs.YtngbekhegnmfaaaGreatDoor
namespace Go.Proofs.YtngbekhegnmfaaaGreatDoor
open Go.RowKit Go.Shelf
theorem rExpr_at {op : Nat} {b : Bool} (h : exprB op = b) (w : World) : Calls Tryz.prog 122 #[.int .u8 (op : Int)] w fun e w' => e = .returned (.bool b) ∧ w' = w := by
 subst h;exact refExpression_any op w
theorem rStmt_at {op : Nat} {b : Bool} (h : stmtB op = b) (w : World) : Calls Tryz.prog 123 #[.int .u8 (op : Int)] w fun e w' => e = .returned (.bool b) ∧ w' = w := by
 subst h;exact refStatement_any op w
theorem rNamed_at {op : Nat} {b : Bool} (h : namedB op = b) (w : World) : Calls Tryz.prog 124 #[.int .u8 (op : Int)] w fun e w' => e = .returned (.bool b) ∧ w' = w := by
 subst h;exact refNamed_any op w
theorem rOwn_at {s : List UInt8} {b : Bool} (h : textOK 1 s = b) (hl : s.length ≤ 9223372036854775807) (w : World) : Calls Tryz.prog 125 #[.string ⟨s.toArray⟩] w fun e w' => e = .returned (.bool b) ∧ Below w.heap.size w w' := by
 subst h;exact refOwn_any s w hl
theorem two0 (w : World) (op kids num : Int) (s : ByteArray) (t : TypeId) (j : Nat) : (w.alloc (.cells #[.int .u8 op, .int .i64 kids, .int .i64 num, .string s] t)).cell? ⟨w.heap.size, j, none⟩ = #[Value.int .u8 op, .int .i64 kids, .int .i64 num, .string s][j]? := one_cell w _ t j
set_option maxRecDepth 20000 in
set_option maxHeartbeats 4000000 in
theorem refFine_text (x : Tw) (w : World) (hxt : x.text.length ≤ 9223372036854775807) :
   Calls Tryz.prog 90 #[twV x] w fun e w' => e = .returned (.bool (fineB x)) ∧ Below w.heap.size w w' := by
 obtain ⟨op, kids, num, text⟩ := x;dsimp only at hxt;obtain ⟨Z, hZ⟩ := exHid (fineB ⟨op, kids, num, text⟩);rw [hZ.out];unfold twV;dsimp only;have hz := hZ.out;unfold fineB at hz;dsimp only at hz;clear hZ;have hB0 := Lib.hid ((Below.refl w.heap.size w).alloc (Nat.le_refl _) (.cells #[.int .u8 op, .int .i64 kids, .int .i64 num, .string ⟨text.toArray⟩] 29));by_cases hany : exprB op = true ∨ (exprB op = false ∧ stmtB op = true) ∨ (exprB op = false ∧ stmtB op = false ∧ 1 ≤ op ∧ op ≤ 3)
 · have ha : (exprB op || stmtB op || (decide (1 ≤ op) && decide (op ≤ 3))) = true := by
     rcases hany with h | ⟨h, h2⟩ | ⟨h, h2, h3, h4⟩ <;> simp [*]
   rw [ha, Bool.true_and] at hz;replace hany : Hid (exprB op = true ∨ (exprB op = false ∧ stmtB op = true) ∨ (exprB op = false ∧ stmtB op = false ∧ (¬ (op : Int) < 1) ∧ ¬ (3 : Int) < (op : Int))) := Lib.hid (by
     rcases hany with h | h | ⟨h, h2, h3, h4⟩
     · exact .inl h
     · exact .inr (.inl h)
     · exact .inr (.inr ⟨h, h2, by omega, by omega⟩))
   clear ha;replace hz := Lib.hid hz;go_enter Tryz.func90, Tryz.ntmps90
   go_upto_region 1 with (fail)
   go_cut [22] from 3 to 22 (fun s22 wc => s22 = .bool false ∧ wc = (w.alloc (.cells #[.int .u8 op, .int .i64 kids, .int .i64 num, .string ⟨text.toArray⟩] 29)))
   case first =>
     rcases hany.out with h | ⟨h, h2⟩ | ⟨h, h2, h3, h4⟩
     · have kE := Lib.hid (fun W => rExpr_at h W)
       clear h;go_wp2_with fail
       refine (kE.out _).mono ?_;rintro e w2 ⟨rfl, rfl⟩;go_wp2_with fail
       go_meet
       exact ⟨rfl, rfl⟩
     · have kE := Lib.hid (fun W => rExpr_at h W)
       have kS := Lib.hid (fun W => rStmt_at h2 W);clear h h2;go_wp2_with fail
       refine (kE.out _).mono ?_;rintro e w2 ⟨rfl, rfl⟩;go_wp2_with fail
       refine (kS.out _).mono ?_;rintro e w2 ⟨rfl, rfl⟩;go_wp2_with fail
       go_meet
       exact ⟨rfl, rfl⟩
     · have kE := Lib.hid (fun W => rExpr_at h W)
       have kS := Lib.hid (fun W => rStmt_at h2 W);clear h h2;go_wp2_with fail
       refine (kE.out _).mono ?_;rintro e w2 ⟨rfl, rfl⟩;go_wp2_with fail
       refine (kS.out _).mono ?_;rintro e w2 ⟨rfl, rfl⟩;go_wp2_with fail
       go_meet
       exact ⟨by rw [decide_eq_false (p := (op : Int) < 1) (by omega), decide_eq_false (p := (3 : Int) < (op : Int)) (by omega)]; rfl, rfl⟩
   case rest =>
     obtain ⟨rfl, rfl⟩ := hcut;obtain ⟨T, hT⟩ : ∃ T, (if namedB op = true then textOK 1 text else if op = 24 then textOK 2 text else textOK 0 text) = T := ⟨_, rfl⟩;replace hz := hz.out;rw [hT] at hz;rcases T with _ | _
     · rw [Bool.false_and, Bool.false_and] at hz
       subst hz;rcases hn : namedB op with _ | _
       · have kN := Lib.hid (fun W => rNamed_at hn W)
         rw [hn, if_neg (by decide)] at hT;by_cases h24 : op = 24
         · rw [if_pos h24] at hT
           have q24 : ((op : Int) == 24) = true := beq_iff_eq.2 (by omega);replace hT := Lib.hid hT;clear hn h24;have hl : (4095 : Int) < (text.length : Int) := by have := of_decide_eq_false hT.out; omega
           go_wp2_with fail
           refine (kN.out _).mono ?_;rintro e w3 ⟨rfl, rfl⟩;go_wp2_with fail
           go_ret
           exact ⟨rfl, hB0.out⟩
         · rw [if_neg h24] at hT
           have q24 : ((op : Int) == 24) = false := beq_eq_false_iff_ne.2 (by omega);replace hT := Lib.hid hT;clear hn h24;have he : (text == []) = false := hT.out;go_wp2_with fail
           refine (kN.out _).mono ?_;rintro e w3 ⟨rfl, rfl⟩;go_wp2_with fail
           go_ret
           exact ⟨rfl, hB0.out⟩
       · have kN := Lib.hid (fun W => rNamed_at hn W)
         rw [hn, if_pos rfl] at hT;have kO := Lib.hid (fun W => rOwn_at hT hxt W);clear hn;go_wp2_with fail
         refine (kN.out _).mono ?_;rintro e w3 ⟨rfl, rfl⟩;go_wp2_with fail
         refine (kO.out _).mono ?_;rintro e w4 ⟨rfl, hb4⟩;have hB4 := Lib.hid (hB0.out.trans (hb4.mono hB0.out.size));replace hb4 := Lib.hid hb4;go_wp2_with fail
         go_ret
         exact ⟨rfl, hB4.out⟩
     · rw [Bool.true_and] at hz
       replace hz := Lib.hid hz;have kN := Lib.hid (fun W => refNamed_any op W);go_upto_if 25 with ((go_at_call 124; refine (kN.out _).mono ?_; rintro e w3 ⟨rfl, rfl⟩))
       go_cut [25] from 26 to 39 (fun _ wc => Below w.heap.size w wc ∧ wc.cell? ⟨w.heap.size, 0, none⟩ = some (.int .u8 op) ∧ wc.cell? ⟨w.heap.size, 1, none⟩ = some (.int .i64 kids) ∧ wc.cell? ⟨w.heap.size, 2, none⟩ = some (.int .i64 num))
       case first =>
         rcases hn : namedB op with _ | _
         · rw [hn, if_neg (by decide)] at hT
           by_cases h24 : op = 24
           · rw [if_pos h24] at hT
             have q24 : ((op : Int) == 24) = true := beq_iff_eq.2 (by omega);have hl : ¬ (4095 : Int) < (text.length : Int) := by have := of_decide_eq_true hT; omega
             replace hT := Lib.hid hT;clear hn h24;go_wp2_with fail
             go_meet
             exact ⟨hB0.out, two0 _ _ _ _ _ _ 0, two0 _ _ _ _ _ _ 1, two0 _ _ _ _ _ _ 2⟩
           · rw [if_neg h24] at hT
             have q24 : ((op : Int) == 24) = false := beq_eq_false_iff_ne.2 (by omega);have he : (text == []) = true := hT;replace hT := Lib.hid hT;clear hn h24;go_wp2_with fail
             go_meet
             exact ⟨hB0.out, two0 _ _ _ _ _ _ 0, two0 _ _ _ _ _ _ 1, two0 _ _ _ _ _ _ 2⟩
         · rw [hn, if_pos rfl] at hT
           have kO := Lib.hid (fun W => rOwn_at hT hxt W);clear hn;go_wp2_with fail
           refine (kO.out _).mono ?_;rintro e w4 ⟨rfl, hb4⟩;have hB4 := Lib.hid (hB0.out.trans (hb4.mono hB0.out.size));replace hb4 := Lib.hid hb4;go_wp2_with fail
           go_meet
           exact ⟨hB4.out, cell_on (two0 _ _ _ _ _ _ 0) hb4.out, cell_on (two0 _ _ _ _ _ _ 1) hb4.out, cell_on (two0 _ _ _ _ _ _ 2) hb4.out⟩
       case rest =>
         obtain ⟨hBc, c0, c1, c2⟩ := hcut;replace hBc := Lib.hid hBc;clear kN hB0;by_cases hn0 : num < 0
         · replace hz := hz.out
           rw [decide_eq_true hn0] at hz;have hZ : Z = false := hz.symm;subst hZ;clear hz;go_wp2_with fail
           go_ret
           exact ⟨rfl, hBc.out⟩
         · by_cases hbad : 0 < num ∧ op ≠ 23
           · replace hz := hz.out
             obtain ⟨hb1, hb2⟩ := hbad;have o1 : (op != 23) = true := bne_iff_ne.2 hb2;rw [decide_eq_false hn0, decide_eq_true hb1, o1] at hz;have hZ : Z = false := hz.symm;subst hZ;have o2 : ((op : Int) != 23) = true := bne_iff_ne.2 (by omega);have o3 : ((op : Int) == 23) = false := beq_eq_false_iff_ne.2 (by omega);clear hz o1 hb2;go_wp2_with fail
             go_ret
             exact ⟨rfl, hBc.out⟩
           · replace hz := hz.out
             have hnn : (decide (num < 0) || (decide (0 < num) && op != 23)) = false := by
               rw [decide_eq_false hn0];by_cases hb1 : 0 < num
               · have : op = 23 := by
                   by_cases c : op = 23
                   · exact c
                   · exact absurd ⟨hb1, c⟩ hbad
                 subst this;rw [decide_eq_true hb1];rfl
               · rw [decide_eq_false hb1]
                 rfl
             rw [hnn] at hz;replace hz : (decide (leastN op ≤ kids) && ((decide (mostN op < 0) && decide (kids ≤ 2048)) || decide (kids ≤ mostN op))) = Z := hz;replace hz := Lib.hid hz;clear hnn;go_upto_region 11 with (fail)
             go_cut [52] from 40 to 52 (fun s52 wd => s52 = .bool false ∧ wd = wc)
             case first =>
               by_cases hb1 : 0 < num
               · have h23 : op = 23 := by
                   by_cases c : op = 23
                   · exact c
                   · exact absurd ⟨hb1, c⟩ hbad
                 have o2 : ((op : Int) != 23) = false := by rw [h23]; rfl
                 have o3 : ((op : Int) == 23) = true := by rw [h23]; rfl
                 clear h23 hbad;go_wp2_with fail
                 go_meet
                 exact ⟨rfl, rfl⟩
               · clear hbad
                 go_wp2_with fail
                 go_meet
                 exact ⟨rfl, rfl⟩
             case rest =>
               obtain ⟨rfl, rfl⟩ := hcut;have cN := True.intro;clear cN;have cL := Lib.hid (fun W => refLeast_any op W);have cM := Lib.hid (fun W => refMost_any op W);replace hz := hz.out;generalize leastN op = L at cL hz;generalize mostN op = M at cM hz;by_cases hL : L ≤ kids
               · by_cases hM : M < 0
                 · by_cases h20 : kids ≤ 2048
                   · have hZ : Z = true := by rw [← hz, decide_eq_true hL, decide_eq_true hM, decide_eq_true h20]; rfl
                     subst hZ;clear hz;go_wp2_with fail
                     go_quiet ((first | (go_at_call 126; exact Calls.quiet_of_same (cL.out _)) | (go_at_call 127; exact Calls.quiet_of_same (cM.out _))))
                     go_wp2_with fail
                     go_ret
                     exact ⟨rfl, below_drewN hBc.out _⟩
                   · have hkM : ¬ kids ≤ M := by omega
                     have d1 : decide (kids ≤ 2048) = false := decide_eq_false h20;have d2 : decide (kids ≤ M) = false := decide_eq_false hkM;have hZ : Z = false := by rw [← hz, d1, d2, Bool.and_false, Bool.or_self, Bool.and_false]
                     subst hZ;clear hz;go_wp2_with fail
                     go_quiet ((first | (go_at_call 126; exact Calls.quiet_of_same (cL.out _)) | (go_at_call 127; exact Calls.quiet_of_same (cM.out _))))
                     go_wp2_with fail
                     go_ret
                     exact ⟨rfl, below_drewN hBc.out _⟩
                 · have d0 : decide (M < 0) = false := decide_eq_false hM
                   by_cases hkM : kids ≤ M
                   · have hZ : Z = true := by rw [← hz, decide_eq_true hL, d0, decide_eq_true hkM]; rfl
                     subst hZ;clear hz;go_wp2_with fail
                     go_quiet ((first | (go_at_call 126; exact Calls.quiet_of_same (cL.out _)) | (go_at_call 127; exact Calls.quiet_of_same (cM.out _))))
                     go_wp2_with fail
                     go_ret
                     exact ⟨rfl, below_drewN hBc.out _⟩
                   · have d2 : decide (kids ≤ M) = false := decide_eq_false hkM
                     have hZ : Z = false := by rw [← hz, d0, d2, Bool.false_and, Bool.or_self, Bool.and_false]
                     subst hZ;clear hz;go_wp2_with fail
                     go_quiet ((first | (go_at_call 126; exact Calls.quiet_of_same (cL.out _)) | (go_at_call 127; exact Calls.quiet_of_same (cM.out _))))
                     go_wp2_with fail
                     go_ret
                     exact ⟨rfl, below_drewN hBc.out _⟩
               · have dL : decide (L ≤ kids) = false := decide_eq_false hL
                 have hZ : Z = false := by rw [← hz, dL, Bool.false_and]
                 subst hZ;clear hz;go_wp2_with fail
                 go_quiet ((first | (go_at_call 126; exact Calls.quiet_of_same (cL.out _)) | (go_at_call 127; exact Calls.quiet_of_same (cM.out _))))
                 go_wp2_with fail
                 go_ret
                 exact ⟨rfl, below_drewN hBc.out _⟩
 · have ha : exprB op = false ∧ stmtB op = false ∧ ((op : Int) < 1 ∨ (¬ (op : Int) < 1 ∧ (3 : Int) < (op : Int))) := by
     rcases h1 : exprB op with _ | _
     · rcases h2 : stmtB op with _ | _
       · refine ⟨rfl, rfl, ?_⟩
         by_cases c : op < 1
         · exact .inl (by omega)
         · refine .inr ⟨by omega, ?_⟩
           by_cases d : 3 < op
           · omega
           · exact absurd (.inr (.inr ⟨h1, h2, by omega, by omega⟩)) hany
       · exact absurd (.inr (.inl ⟨h1, h2⟩)) hany
     · exact absurd (.inl h1) hany
   have hZ : Z = false := by
     rw [← hz, ha.1, ha.2.1];have : (decide (1 ≤ op) && decide (op ≤ 3)) = false := by
       rcases ha.2.2 with c | ⟨_, c⟩
       · rw [decide_eq_false (by omega)]; rfl
       · rw [decide_eq_false (p := op ≤ 3) (by omega), Bool.and_false]
     rw [this];rfl
   subst hZ;obtain ⟨h1, h2, h3⟩ := ha;have kE := Lib.hid (fun W => rExpr_at h1 W);have kS := Lib.hid (fun W => rStmt_at h2 W);clear hz hany h1 h2;rcases h3 with h3 | ⟨h3, h4⟩
   all_goals
     go_enter Tryz.func90, Tryz.ntmps90
     go_wp2_with fail
     refine (kE.out _).mono ?_;rintro e w2 ⟨rfl, rfl⟩;go_wp2_with fail
     refine (kS.out _).mono ?_;rintro e w2 ⟨rfl, rfl⟩;go_wp2_with fail
     go_ret
     exact ⟨rfl, hB0.out⟩
end Go.Proofs.YtngbekhegnmfaaaGreatDoor
