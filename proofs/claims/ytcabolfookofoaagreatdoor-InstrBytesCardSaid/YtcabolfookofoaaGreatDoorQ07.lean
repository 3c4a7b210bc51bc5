/- A part of the proof: IWd, IRt, IAll. No condition. -/
import Derived.Test.YtcabolfookofoaaGreatDoorQ05
set_option linter.unusedVariables false
set_option linter.unusedSimpArgs false
namespace Go.Proofs.YtcabolfookofoaaGreatDoor
open Go.RowKit
def WordsOK (w : World) : Prop := ∀ i, i < 58 → w.cell? ⟨0, i, none⟩ = some (.string ⟨(wordI i).toArray⟩)
theorem WordsOK.below {w W : World} (h : WordsOK w) (hb : Below w.heap.size w W) : WordsOK W := by
 intro i hi;have h0 := h i hi;exact (hb.cell (p := ⟨0, i, none⟩) (World.block_lt_of_cell? w _ h0)).trans h0
theorem wordI_none {op : Nat} (h : 58 ≤ op) : wordI op = [] := by
 unfold wordI;rw [List.getD_eq_getElem?_getD, List.getElem?_eq_none (by exact h)];rfl
set_option maxRecDepth 20000 in
theorem Word_any (op : Nat) (hop : op < 256) (w : World) (hW : WordsOK w) :
   Calls Tryz.prog 7 #[.int .u8 op] w fun e w' => e = .returned (.string ⟨(wordI op).toArray⟩) ∧ w = w' := by
 rcases Nat.lt_or_ge op 58 with h | h
 · have hc := hW op h
   generalize wordI op = s at *;clear hW;have h1 : (op : Int) < 58 := by omega
   go_enter Tryz.func7, Tryz.ntmps7
   go_wp2
   go_ret
   exact ⟨rfl, rfl⟩
 · rw [wordI_none h]
   have h1 : ¬ (op : Int) < 58 := by omega
   have h2 : (op : Int) < 256 := by omega
   go_enter Tryz.func7, Tryz.ntmps7
   go_wp2
   go_ret
   exact ⟨rfl, rfl⟩
set_option maxRecDepth 20000 in
theorem allowsText_any (op : Nat) (s : List UInt8) (hs : s.length ≤ 9223372036854775807) (w : World) :
   Calls Tryz.prog 78 #[.int .i64 (tkI op), .string ⟨s.toArray⟩] w fun e w' => e = .returned (.bool (txOK op s)) ∧ w = w' := by
 have hN := name_any ⟨s.toArray⟩ w hs;have eN : (⟨s.toArray⟩ : ByteArray).data.toList = s := rfl;rw [eN] at hN;obtain ⟨n, hn⟩ := exHid (nameL s);rw [hn.out] at hN;obtain ⟨B, hB⟩ := exHid (txOK op s);rw [hB.out];have hB' := hB.out;unfold txOK nameI at hB';rw [hn.out] at hB';have ek : tkI op = if op = 24 then 5 else if op = 50 ∨ op = 51 ∨ op = 56 then 6 else 0 := rfl;replace hN := Lib.hid hN;by_cases h24 : op = 24
 · rw [if_pos h24] at hB' ek
   rw [ek];clear ek hB hn hN;by_cases hl : s.length ≤ 4095
   · rw [decide_eq_true hl] at hB'
     have hl' : (s.length : Int) ≤ 4095 := by omega
     replace hB' := Lib.hid hB';go_enter Tryz.func78, Tryz.ntmps78
     go_wp2
     go_ret
     exact ⟨ret_bool hB'.out, rfl⟩
   · rw [decide_eq_false hl] at hB'
     have hl' : ¬ (s.length : Int) ≤ 4095 := by omega
     replace hB' := Lib.hid hB';go_enter Tryz.func78, Tryz.ntmps78
     go_wp2
     go_ret
     exact ⟨ret_bool hB'.out, rfl⟩
 · rw [if_neg h24] at hB' ek
   by_cases hnm : op = 50 ∨ op = 51 ∨ op = 56
   · rw [if_pos (by simp only [Bool.or_eq_true, beq_iff_eq]; omega)] at hB'
     rw [if_pos hnm] at ek;rw [ek];clear ek hB hn;replace hB' := Lib.hid hB';go_enter Tryz.func78, Tryz.ntmps78
     go_wp2_with (go_at_call 111; refine hN.out.mono ?_; rintro e w' ⟨rfl, rfl⟩)
     go_ret
     exact ⟨ret_bool hB'.out, rfl⟩
   · rw [if_neg (by simp only [Bool.or_eq_true, beq_iff_eq]; omega)] at hB'
     rw [if_neg hnm] at ek;rw [ek];clear ek hB hn hN;by_cases hl : s = []
     · rw [decide_eq_true hl] at hB'
       subst hl;replace hB' := Lib.hid hB';go_enter Tryz.func78, Tryz.ntmps78
       go_wp2
       go_ret
       exact ⟨ret_bool hB'.out, rfl⟩
     · rw [decide_eq_false hl] at hB'
       have hl' : (s == []) = false := beq_eq_false_iff_ne.2 hl;replace hB' := Lib.hid hB';go_enter Tryz.func78, Tryz.ntmps78
       go_wp2
       go_ret
       exact ⟨ret_bool hB'.out, rfl⟩
end Go.Proofs.YtcabolfookofoaaGreatDoor
namespace Go.Proofs.YtcabolfookofoaaGreatDoor
open Go.RowKit
def shapedI (x : Ins) : Bool := decide (wordI x.op ≠ []) && (akI x.op == 1 || aOK (akI x.op) 0 x.a) && (decide (x.num = 0) || x.op == 23) && txOK x.op x.text
def targetI (x : Ins) (n : Int) : Bool := !(akI x.op == 1) || decide (0 ≤ x.a ∧ x.a < n)
theorem akI_lt (op : Nat) : akI op < 4 := by unfold akI; (repeat' split) <;> omega
theorem rightI_two (x : Ins) (n : Int) : rightI x n = (shapedI x && targetI x n) := by
 unfold rightI shapedI targetI;have h := akI_lt x.op;generalize akI x.op = k at *;generalize decide (wordI x.op ≠ []) = p;generalize (decide (x.num = 0) || x.op == 23) = q;generalize txOK x.op x.text = r;have e : aOK k n x.a = ((k == 1 || aOK k 0 x.a) && (!(k == 1) || decide (0 ≤ x.a ∧ x.a < n))) := by
   match k, h with
   | 0, _ => simp [aOK]
   | 1, _ => simp [aOK]
   | 2, _ => simp [aOK]
   | 3, _ => simp [aOK]
 rw [e];cases (k == 1 || aOK k 0 x.a) <;> cases (!(k == 1) || decide (0 ≤ x.a ∧ x.a < n)) <;> cases p <;> cases q <;> cases r <;> rfl
set_option maxRecDepth 20000 in
set_option maxHeartbeats 4000000 in
theorem isShaped_any (x : Ins) (hx : FitIns x) (w : World) (hW : WordsOK w) :
   Calls Tryz.prog 45 #[insV x] w fun e w' => e = .returned (.bool (shapedI x)) ∧ Below w.heap.size w w' := by
 obtain ⟨h1, h2, h3, h4⟩ := hx;obtain ⟨op, a, num, tx⟩ := x;dsimp only at h1 h2 h3 h4;unfold insV;dsimp only;have F := fun W => fieldsOf_any op W
 unfold fldV at F;have Wd := fun (W : World) (hb : Below w.heap.size w W) => Word_any op h4 W (hW.below hb)
 have A := fun W => allowsF_any op a W
 have T := fun W => allowsText_any op tx h1 W
 obtain ⟨B, hB⟩ := exHid (shapedI ⟨op, a, num, tx⟩);rw [hB.out];have hB' := hB.out;unfold shapedI at hB';dsimp only at hB';clear hB;have eN : ((nkI op : Int) == 4) = (op == 23) := by
   unfold nkI;rw [Bool.eq_iff_iff, beq_iff_eq, beq_iff_eq];split <;> omega
 have eN0 : (num == 0) = decide (num = 0) := by rw [Bool.eq_iff_iff, beq_iff_eq, decide_eq_true_eq]
 have eW : (wordI op == []) = !decide (wordI op ≠ []) := by
   by_cases h : wordI op = [] <;> simp [h]
 generalize akI op = k at *;generalize tkI op = t at *;generalize nkI op = nk at *;generalize wordI op = wd at *;generalize (k == 1 || aOK k 0 a) = ak at *;generalize txOK op tx = tk at *;rcases q1 : decide (wd ≠ []) with _ | _ <;> rcases ak with _ | _ <;> rcases q3 : decide (num = 0) with _ | _ <;> rcases q4 : (op == 23) with _ | _ <;> rcases tk with _ | _
 all_goals
   rw [q1, q3, q4] at hB';rw [q1] at eW;rw [q3] at eN0;rw [q4] at eN;replace hB' := Lib.hid hB';replace hW := Lib.hid hW;clear q1 q3 q4 h1 h2 h3;simp only [Bool.not_true, Bool.not_false] at eW;go_enter Tryz.func45, Tryz.ntmps45
   go_wp2_with first
     | (go_at_call 42; refine (F _).mono ?_; rintro e w1 ⟨rfl, hb⟩; have hk : Below w.heap.size w w1 := below_next (by go_grown) hb; have hz := hk.size; have k0 := fun o2 => Go.Proofs.YtcabolfookofoaaGreatDoor.cell_kept hb o2 0; have k1 := fun o2 => Go.Proofs.YtcabolfookofoaaGreatDoor.cell_kept hb o2 1; have k2 := fun o2 => Go.Proofs.YtcabolfookofoaaGreatDoor.cell_kept hb o2 2; have k3 := fun o2 => Go.Proofs.YtcabolfookofoaaGreatDoor.cell_kept hb o2 3; replace hb := Lib.hid hb; simp at k0 k1 k2 k3)
     | (go_at_call 7; refine (Wd _ (by go_grown)).mono ?_; rintro e w2 ⟨rfl, rfl⟩)
     | (go_at_call 77; refine (A _).mono ?_; rintro e w2 ⟨rfl, rfl⟩)
     | (go_at_call 78; refine (T _).mono ?_; rintro e w2 ⟨rfl, rfl⟩)
   go_ret
   exact ⟨ret_bool hB'.out, by go_grown⟩
end Go.Proofs.YtcabolfookofoaaGreatDoor
namespace Go.Proofs.YtcabolfookofoaaGreatDoor
open Go.RowKit
set_option maxRecDepth 20000 in
set_option maxHeartbeats 4000000 in
theorem hasTarget_any (x : Ins) (n : Int) (w : World) :
   Calls Tryz.prog 47 #[insV x, .int .i64 n] w fun e w' => e = .returned (.bool (targetI x n)) ∧ Below w.heap.size w w' := by
 obtain ⟨op, a, num, tx⟩ := x;unfold insV;dsimp only;have F := fun W => fieldsOf_any op W
 have rF := run_field_fld op;obtain ⟨B, hB⟩ := exHid (targetI ⟨op, a, num, tx⟩ n);rw [hB.out];have hB' := hB.out;unfold targetI at hB';dsimp only at hB';clear hB;have e1 : ((akI op : Int) == 1) = (akI op == 1) := by rw [Bool.eq_iff_iff, beq_iff_eq, beq_iff_eq]; omega
 generalize fldV op = fv at *;generalize akI op = k at *;rcases q1 : (k == 1) with _ | _
 · rw [q1] at e1 hB'
   have e2 : ((k : Int) != 1) = true := by rw [bne, e1]; rfl
   replace hB' := Lib.hid hB';go_enter Tryz.func47, Tryz.ntmps47
   go_wp2_with (go_at_call 42; refine (F _).mono ?_; rintro e w1 ⟨rfl, hb⟩; have hk : Below w.heap.size w w1 := below_next (by go_grown) hb; have hz := hk.size; have k0 := (hb.cell (p := ⟨w.heap.size, 0, none⟩) (by simp)).trans (World.cell?_alloc_new ..); have k1 := (hb.cell (p := ⟨w.heap.size, 1, none⟩) (by simp)).trans (World.cell?_alloc_new ..); replace hb := Lib.hid hb; simp at k0 k1)
   go_ret
   exact ⟨ret_bool (by rw [← hB'.out]; rfl), by go_grown⟩
 · rw [q1] at e1 hB'
   have e2 : ((k : Int) != 1) = false := by rw [bne, e1]; rfl
   by_cases h0 : 0 ≤ a
   · by_cases hn : a < n
     · rw [decide_eq_true (show 0 ≤ a ∧ a < n from ⟨h0, hn⟩)] at hB'
       replace hB' := Lib.hid hB';go_enter Tryz.func47, Tryz.ntmps47
       go_wp2_with (go_at_call 42; refine (F _).mono ?_; rintro e w1 ⟨rfl, hb⟩; have hk : Below w.heap.size w w1 := below_next (by go_grown) hb; have hz := hk.size; have k0 := (hb.cell (p := ⟨w.heap.size, 0, none⟩) (by simp)).trans (World.cell?_alloc_new ..); have k1 := (hb.cell (p := ⟨w.heap.size, 1, none⟩) (by simp)).trans (World.cell?_alloc_new ..); replace hb := Lib.hid hb; simp at k0 k1)
       go_ret
       exact ⟨ret_bool (by rw [← hB'.out]; rfl), by go_grown⟩
     · rw [decide_eq_false (show ¬ (0 ≤ a ∧ a < n) from fun h => hn h.2)] at hB'
       replace hB' := Lib.hid hB';go_enter Tryz.func47, Tryz.ntmps47
       go_wp2_with (go_at_call 42; refine (F _).mono ?_; rintro e w1 ⟨rfl, hb⟩; have hk : Below w.heap.size w w1 := below_next (by go_grown) hb; have hz := hk.size; have k0 := (hb.cell (p := ⟨w.heap.size, 0, none⟩) (by simp)).trans (World.cell?_alloc_new ..); have k1 := (hb.cell (p := ⟨w.heap.size, 1, none⟩) (by simp)).trans (World.cell?_alloc_new ..); replace hb := Lib.hid hb; simp at k0 k1)
       go_ret
       exact ⟨ret_bool (by rw [← hB'.out, decide_eq_false (by omega)]; rfl), by go_grown⟩
   · rw [decide_eq_false (show ¬ (0 ≤ a ∧ a < n) from fun h => h0 h.1)] at hB'
     replace hB' := Lib.hid hB';go_enter Tryz.func47, Tryz.ntmps47
     go_wp2_with (go_at_call 42; refine (F _).mono ?_; rintro e w1 ⟨rfl, hb⟩; have hk : Below w.heap.size w w1 := below_next (by go_grown) hb; have hz := hk.size; have k0 := (hb.cell (p := ⟨w.heap.size, 0, none⟩) (by simp)).trans (World.cell?_alloc_new ..); have k1 := (hb.cell (p := ⟨w.heap.size, 1, none⟩) (by simp)).trans (World.cell?_alloc_new ..); replace hb := Lib.hid hb; simp at k0 k1)
     go_ret
     exact ⟨ret_bool (by rw [← hB'.out]; rfl), by go_grown⟩
set_option maxRecDepth 20000 in
set_option maxHeartbeats 4000000 in
theorem isRight_any (x : Ins) (hx : FitIns x) (n : Int) (w : World) (hW : WordsOK w) :
   Calls Tryz.prog 65 #[insV x, .int .i64 n] w fun e w' => e = .returned (.bool (rightI x n)) ∧ Below w.heap.size w w' := by
 have Sh := fun (W : World) (hb : Below w.heap.size w W) => isShaped_any x hx W (hW.below hb)
 have Ta := fun W => hasTarget_any x n W
 rw [rightI_two];obtain ⟨op, a, num, tx⟩ := x;unfold insV at *;dsimp only at *;generalize targetI ⟨op, a, num, tx⟩ n = t at *;replace hW := Lib.hid hW;rcases q1 : shapedI ⟨op, a, num, tx⟩ with _ | _
 all_goals
   rw [q1] at Sh;go_enter Tryz.func65, Tryz.ntmps65
   go_wp2_with first
     | (go_at_call 45; refine (Sh _ (by go_grown)).mono ?_; rintro e w1 ⟨rfl, hb⟩; have hk : Below w.heap.size w w1 := below_next (by go_grown) hb; have hz := hk.size; have k0 := (hb.cell (p := ⟨w.heap.size, 0, none⟩) (by simp)).trans (World.cell?_alloc_new ..); have k1 := (hb.cell (p := ⟨w.heap.size, 1, none⟩) (by simp)).trans (World.cell?_alloc_new ..); have k2 := (hb.cell (p := ⟨w.heap.size, 2, none⟩) (by simp)).trans (World.cell?_alloc_new ..); have k3 := (hb.cell (p := ⟨w.heap.size, 3, none⟩) (by simp)).trans (World.cell?_alloc_new ..); replace hb := Lib.hid hb; simp at k0 k1 k2 k3)
     | (go_at_call 47; refine (Ta _).mono ?_; rintro e w2 ⟨rfl, hb2⟩; have hk2 : Below w.heap.size w w2 := below_next hk hb2)
   go_ret
   exact ⟨rfl, by go_grown⟩
end Go.Proofs.YtcabolfookofoaaGreatDoor
