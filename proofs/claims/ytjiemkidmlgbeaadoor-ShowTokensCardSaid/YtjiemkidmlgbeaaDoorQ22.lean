/- A part of the proof: RFine. No condition. -/
import Derived.Deep.CutRange
import Derived.Test.YtjiemkidmlgbeaaDoorQ21
set_option linter.unusedVariables false
set_option linter.unusedSimpArgs false
namespace Go.Proofs.YtjiemkidmlgbeaaDoor
open Go.RowKit Go.Shelf
theorem rExpr_at {op : Nat} {b : Bool} (h : exprB op = b) (w : World) : Calls Tryd.prog 19 #[.int .u8 (op : Int)] w fun e w' => e = .returned (.bool b) ∧ w' = w := by
 subst h;exact refExpression_any op w
theorem rStmt_at {op : Nat} {b : Bool} (h : stmtB op = b) (w : World) : Calls Tryd.prog 65 #[.int .u8 (op : Int)] w fun e w' => e = .returned (.bool b) ∧ w' = w := by
 subst h;exact refStatement_any op w
theorem rNamed_at {op : Nat} {b : Bool} (h : namedB op = b) (w : World) : Calls Tryd.prog 66 #[.int .u8 (op : Int)] w fun e w' => e = .returned (.bool b) ∧ w' = w := by
 subst h;exact refNamed_any op w
theorem rOwn_at {s : List UInt8} {b : Bool} (h : textOK 1 s = b) (hl : s.length ≤ 9223372036854775807) (w : World) : Calls Tryd.prog 67 #[.string ⟨s.toArray⟩] w fun e w' => e = .returned (.bool b) ∧ Below w.heap.size w w' := by
 subst h;exact refOwn_any s w hl
theorem two0 (w : World) (op kids num : Int) (s : ByteArray) (t : TypeId) (j : Nat) : (w.alloc (.cells #[.int .u8 op, .int .i64 kids, .int .i64 num, .string s] t)).cell? ⟨w.heap.size, j, none⟩ = #[Value.int .u8 op, .int .i64 kids, .int .i64 num, .string s][j]? := one_cell w _ t j
set_option maxRecDepth 20000 in
set_option maxHeartbeats 4000000 in
theorem refFine_text (x : Tw) (w : World) (hxt : x.text.length ≤ 9223372036854775807) :
   Calls Tryd.prog 34 #[twV x] w fun e w' => e = .returned (.bool (fineB x)) ∧ Below w.heap.size w w' := by
 obtain ⟨op, kids, num, text⟩ := x;dsimp only at hxt;obtain ⟨Z, hZ⟩ := exHid (fineB ⟨op, kids, num, text⟩);rw [hZ.out];unfold twV;dsimp only;have hz := hZ.out;unfold fineB at hz;dsimp only at hz;clear hZ;have hB0 := Lib.hid ((Below.refl w.heap.size w).alloc (Nat.le_refl _) (.cells #[.int .u8 op, .int .i64 kids, .int .i64 num, .string ⟨text.toArray⟩] 37));by_cases hany : exprB op = true ∨ (exprB op = false ∧ stmtB op = true) ∨ (exprB op = false ∧ stmtB op = false ∧ 1 ≤ op ∧ op ≤ 3)
 · have ha : (exprB op || stmtB op || (decide (1 ≤ op) && decide (op ≤ 3))) = true := by
     rcases hany with h | ⟨h, h2⟩ | ⟨h, h2, h3, h4⟩ <;> simp [*]
   rw [ha, Bool.true_and] at hz;replace hany : Hid (exprB op = true ∨ (exprB op = false ∧ stmtB op = true) ∨ (exprB op = false ∧ stmtB op = false ∧ (¬ (op : Int) < 1) ∧ ¬ (3 : Int) < (op : Int))) := Lib.hid (by
     rcases hany with h | h | ⟨h, h2, h3, h4⟩
     · exact .inl h
     · exact .inr (.inl h)
     · exact .inr (.inr ⟨h, h2, by omega, by omega⟩))
   clear ha;replace hz := Lib.hid hz;go_enter Tryd.func34, Tryd.ntmps34
   go_upto_region 1 with (fail)
   go_cut [22] from 3 to 22 (fun s22 wc => s22 = .bool false ∧ wc = (w.alloc (.cells #[.int .u8 op, .int .i64 kids, .int .i64 num, .string ⟨text.toArray⟩] 37)))
   case first =>
     rcases hany.out with h | ⟨h, h2⟩ | ⟨h, h2, h3, h4⟩
     · have kE := Lib.hid (fun W => rExpr_at h W)
       clear h;go_wp2_with fail
       refine (kE.out _).mono ?_;rintro e w2 ⟨rfl, rfl⟩;go_wp2_with fail
       go_meet
       exact ⟨rfl, rfl⟩
     · have kE := Lib.hid (fun W => rExpr_at h W)
       have kS := Lib.hid (fun W => rStmt_at h2 W);clear h h2;go_wp2_with fail
       refine (kE.out _).mono ?_;rintro e w2 ⟨rfl, rfl⟩;go_wp2_with fail
       refine (kS.out _).mono ?_;rintro e w2 ⟨rfl, rfl⟩;go_wp2_with fail
       go_meet
       exact ⟨rfl, rfl⟩
     · have kE := Lib.hid (fun W => rExpr_at h W)
       have kS := Lib.hid (fun W => rStmt_at h2 W);clear h h2;go_wp2_with fail
       refine (kE.out _).mono ?_;rintro e w2 ⟨rfl, rfl⟩;go_wp2_with fail
       refine (kS.out _).mono ?_;rintro e w2 ⟨rfl, rfl⟩;go_wp2_with fail
       go_meet
       exact ⟨by rw [decide_eq_false (p := (op : Int) < 1) (by omega), decide_eq_false (p := (3 : Int) < (op : Int)) (by omega)]; rfl, rfl⟩
   case rest =>
     obtain ⟨rfl, rfl⟩ := hcut;obtain ⟨T, hT⟩ : ∃ T, (if namedB op = true then textOK 1 text else if op = 24 then textOK 2 text else textOK 0 text) = T := ⟨_, rfl⟩;replace hz := hz.out;rw [hT] at hz;rcases T with _ | _
     · rw [Bool.false_and, Bool.false_and] at hz
       subst hz;rcases hn : namedB op with _ | _
       · have kN := Lib.hid (fun W => rNamed_at hn W)
         rw [hn, if_neg (by decide)] at hT;by_cases h24 : op = 24
         · rw [if_pos h24] at hT
           have q24 : ((op : Int) == 24) = true := beq_iff_eq.2 (by omega);replace hT := Lib.hid hT;clear hn h24;have hl : (4095 : Int) < (text.length : Int) := by have := of_decide_eq_false hT.out; omega
           go_wp2_with fail
           refine (kN.out _).mono ?_;rintro e w3 ⟨rfl, rfl⟩;go_wp2_with fail
           go_ret
           exact ⟨rfl, hB0.out⟩
         · rw [if_neg h24] at hT
           have q24 : ((op : Int) == 24) = false := beq_eq_false_iff_ne.2 (by omega);replace hT := Lib.hid hT;clear hn h24;have he : (text == []) = false := hT.out;go_wp2_with fail
           refine (kN.out _).mono ?_;rintro e w3 ⟨rfl, rfl⟩;go_wp2_with fail
           go_ret
           exact ⟨rfl, hB0.out⟩
       · have kN := Lib.hid (fun W => rNamed_at hn W)
         rw [hn, if_pos rfl] at hT;have kO := Lib.hid (fun W => rOwn_at hT hxt W);clear hn;go_wp2_with fail
         refine (kN.out _).mono ?_;rintro e w3 ⟨rfl, rfl⟩;go_wp2_with fail
         refine (kO.out _).mono ?_;rintro e w4 ⟨rfl, hb4⟩;have hB4 := Lib.hid (hB0.out.trans (hb4.mono hB0.out.size));replace hb4 := Lib.hid hb4;go_wp2_with fail
         go_ret
         exact ⟨rfl, hB4.out⟩
     · rw [Bool.true_and] at hz
       replace hz := Lib.hid hz;have kN := Lib.hid (fun W => refNamed_any op W);go_upto_if 25 with ((go_at_call 66; refine (kN.out _).mono ?_; rintro e w3 ⟨rfl, rfl⟩))
       go_cut [25] from 26 to 39 (fun _ wc => Below w.heap.size w wc ∧ wc.cell? ⟨w.heap.size, 0, none⟩ = some (.int .u8 op) ∧ wc.cell? ⟨w.heap.size, 1, none⟩ = some (.int .i64 kids) ∧ wc.cell? ⟨w.heap.size, 2, none⟩ = some (.int .i64 num))
       case first =>
         rcases hn : namedB op with _ | _
         · rw [hn, if_neg (by decide)] at hT
           by_cases h24 : op = 24
           · rw [if_pos h24] at hT
             have q24 : ((op : Int) == 24) = true := beq_iff_eq.2 (by omega);have hl : ¬ (4095 : Int) < (text.length : Int) := by have := of_decide_eq_true hT; omega
             replace hT := Lib.hid hT;clear hn h24;go_wp2_with fail
             go_meet
             exact ⟨hB0.out, two0 _ _ _ _ _ _ 0, two0 _ _ _ _ _ _ 1, two0 _ _ _ _ _ _ 2⟩
           · rw [if_neg h24] at hT
             have q24 : ((op : Int) == 24) = false := beq_eq_false_iff_ne.2 (by omega);have he : (text == []) = true := hT;replace hT := Lib.hid hT;clear hn h24;go_wp2_with fail
             go_meet
             exact ⟨hB0.out, two0 _ _ _ _ _ _ 0, two0 _ _ _ _ _ _ 1, two0 _ _ _ _ _ _ 2⟩
         · rw [hn, if_pos rfl] at hT
           have kO := Lib.hid (fun W => rOwn_at hT hxt W);clear hn;go_wp2_with fail
           refine (kO.out _).mono ?_;rintro e w4 ⟨rfl, hb4⟩;have hB4 := Lib.hid (hB0.out.trans (hb4.mono hB0.out.size));replace hb4 := Lib.hid hb4;go_wp2_with fail
           go_meet
           exact ⟨hB4.out, cell_on (two0 _ _ _ _ _ _ 0) hb4.out, cell_on (two0 _ _ _ _ _ _ 1) hb4.out, cell_on (two0 _ _ _ _ _ _ 2) hb4.out⟩
       case rest =>
         obtain ⟨hBc, c0, c1, c2⟩ := hcut;replace hBc := Lib.hid hBc;clear kN hB0;by_cases hn0 : num < 0
         · replace hz := hz.out
           rw [decide_eq_true hn0] at hz;have hZ : Z = false := hz.symm;subst hZ;clear hz;go_wp2_with fail
           go_ret
           exact ⟨rfl, hBc.out⟩
         · by_cases hbad : 0 < num ∧ op ≠ 23
           · replace hz := hz.out
             obtain ⟨hb1, hb2⟩ := hbad;have o1 : (op != 23) = true := bne_iff_ne.2 hb2;rw [decide_eq_false hn0, decide_eq_true hb1, o1] at hz;have hZ : Z = false := hz.symm;subst hZ;have o2 : ((op : Int) != 23) = true := bne_iff_ne.2 (by omega);have o3 : ((op : Int) == 23) = false := beq_eq_false_iff_ne.2 (by omega);clear hz o1 hb2;go_wp2_with fail
             go_ret
             exact ⟨rfl, hBc.out⟩
           · replace hz := hz.out
             have hnn : (decide (num < 0) || (decide (0 < num) && op != 23)) = false := by
               rw [decide_eq_false hn0];by_cases hb1 : 0 < num
               · have : op = 23 := by
                   by_cases c : op = 23
                   · exact c
                   · exact absurd ⟨hb1, c⟩ hbad
                 subst this;rw [decide_eq_true hb1];rfl
               · rw [decide_eq_false hb1]
                 rfl
             rw [hnn] at hz;replace hz : (decide (leastN op ≤ kids) && ((decide (mostN op < 0) && decide (kids ≤ 2048)) || decide (kids ≤ mostN op))) = Z := hz;replace hz := Lib.hid hz;clear hnn;go_upto_region 11 with (fail)
             go_cut [52] from 40 to 52 (fun s52 wd => s52 = .bool false ∧ wd = wc)
             case first =>
               by_cases hb1 : 0 < num
               · have h23 : op = 23 := by
                   by_cases c : op = 23
                   · exact c
                   · exact absurd ⟨hb1, c⟩ hbad
                 have o2 : ((op : Int) != 23) = false := by rw [h23]; rfl
                 have o3 : ((op : Int) == 23) = true := by rw [h23]; rfl
                 clear h23 hbad;go_wp2_with fail
                 go_meet
                 exact ⟨rfl, rfl⟩
               · clear hbad
                 go_wp2_with fail
                 go_meet
                 exact ⟨rfl, rfl⟩
             case rest =>
               obtain ⟨rfl, rfl⟩ := hcut;have cN := True.intro;clear cN;have cL := Lib.hid (fun W => refLeast_any op W);have cM := Lib.hid (fun W => refMost_any op W);replace hz := hz.out;generalize leastN op = L at cL hz;generalize mostN op = M at cM hz;by_cases hL : L ≤ kids
               · by_cases hM : M < 0
                 · by_cases h20 : kids ≤ 2048
                   · have hZ : Z = true := by rw [← hz, decide_eq_true hL, decide_eq_true hM, decide_eq_true h20]; rfl
                     subst hZ;clear hz;go_wp2_with fail
                     go_quiet ((first | (go_at_call 68; exact Calls.quiet_of_same (cL.out _)) | (go_at_call 69; exact Calls.quiet_of_same (cM.out _))))
                     go_wp2_with fail
                     go_ret
                     exact ⟨rfl, below_drewN hBc.out _⟩
                   · have hkM : ¬ kids ≤ M := by omega
                     have d1 : decide (kids ≤ 2048) = false := decide_eq_false h20;have d2 : decide (kids ≤ M) = false := decide_eq_false hkM;have hZ : Z = false := by rw [← hz, d1, d2, Bool.and_false, Bool.or_self, Bool.and_false]
                     subst hZ;clear hz;go_wp2_with fail
                     go_quiet ((first | (go_at_call 68; exact Calls.quiet_of_same (cL.out _)) | (go_at_call 69; exact Calls.quiet_of_same (cM.out _))))
                     go_wp2_with fail
                     go_ret
                     exact ⟨rfl, below_drewN hBc.out _⟩
                 · have d0 : decide (M < 0) = false := decide_eq_false hM
                   by_cases hkM : kids ≤ M
                   · have hZ : Z = true := by rw [← hz, decide_eq_true hL, d0, decide_eq_true hkM]; rfl
                     subst hZ;clear hz;go_wp2_with fail
                     go_quiet ((first | (go_at_call 68; exact Calls.quiet_of_same (cL.out _)) | (go_at_call 69; exact Calls.quiet_of_same (cM.out _))))
                     go_wp2_with fail
                     go_ret
                     exact ⟨rfl, below_drewN hBc.out _⟩
                   · have d2 : decide (kids ≤ M) = false := decide_eq_false hkM
                     have hZ : Z = false := by rw [← hz, d0, d2, Bool.false_and, Bool.or_self, Bool.and_false]
                     subst hZ;clear hz;go_wp2_with fail
                     go_quiet ((first | (go_at_call 68; exact Calls.quiet_of_same (cL.out _)) | (go_at_call 69; exact Calls.quiet_of_same (cM.out _))))
                     go_wp2_with fail
                     go_ret
                     exact ⟨rfl, below_drewN hBc.out _⟩
               · have dL : decide (L ≤ kids) = false := decide_eq_false hL
                 have hZ : Z = false := by rw [← hz, dL, Bool.false_and]
                 subst hZ;clear hz;go_wp2_with fail
                 go_quiet ((first | (go_at_call 68; exact Calls.quiet_of_same (cL.out _)) | (go_at_call 69; exact Calls.quiet_of_same (cM.out _))))
                 go_wp2_with fail
                 go_ret
                 exact ⟨rfl, below_drewN hBc.out _⟩
 · have ha : exprB op = false ∧ stmtB op = false ∧ ((op : Int) < 1 ∨ (¬ (op : Int) < 1 ∧ (3 : Int) < (op : Int))) := by
     rcases h1 : exprB op with _ | _
     · rcases h2 : stmtB op with _ | _
       · refine ⟨rfl, rfl, ?_⟩
         by_cases c : op < 1
         · exact .inl (by omega)
         · refine .inr ⟨by omega, ?_⟩
           by_cases d : 3 < op
           · omega
           · exact absurd (.inr (.inr ⟨h1, h2, by omega, by omega⟩)) hany
       · exact absurd (.inr (.inl ⟨h1, h2⟩)) hany
     · exact absurd (.inl h1) hany
   have hZ : Z = false := by
     rw [← hz, ha.1, ha.2.1];have : (decide (1 ≤ op) && decide (op ≤ 3)) = false := by
       rcases ha.2.2 with c | ⟨_, c⟩
       · rw [decide_eq_false (by omega)]; rfl
       · rw [decide_eq_false (p := op ≤ 3) (by omega), Bool.and_false]
     rw [this];rfl
   subst hZ;obtain ⟨h1, h2, h3⟩ := ha;have kE := Lib.hid (fun W => rExpr_at h1 W);have kS := Lib.hid (fun W => rStmt_at h2 W);clear hz hany h1 h2;rcases h3 with h3 | ⟨h3, h4⟩
   all_goals
     go_enter Tryd.func34, Tryd.ntmps34
     go_wp2_with fail
     refine (kE.out _).mono ?_;rintro e w2 ⟨rfl, rfl⟩;go_wp2_with fail
     refine (kS.out _).mono ?_;rintro e w2 ⟨rfl, rfl⟩;go_wp2_with fail
     go_ret
     exact ⟨rfl, hB0.out⟩
end Go.Proofs.YtjiemkidmlgbeaaDoor
