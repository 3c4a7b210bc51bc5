/- instr's isShaped, hasTarget, isRight (layer 14), walked. No condition but the table of words, which the card ties. -/
import Derived.Test.YtlhabgfgoainlaaDoorIWd
namespace Go.Proofs.YtlhabgfgoainlaaDoor
open Go.RowKit

def shapedI (x : Ins) : Bool := decide (wordI x.op ≠ []) && (akI x.op == 1 || aOK (akI x.op) 0 x.a) && (decide (x.num = 0) || x.op == 23) && txOK x.op x.text
def targetI (x : Ins) (n : Int) : Bool := !(akI x.op == 1) || decide (0 ≤ x.a ∧ x.a < n)
theorem akI_lt (op : Nat) : akI op < 4 := by unfold akI; (repeat' split) <;> omega
theorem rightI_two (x : Ins) (n : Int) : rightI x n = (shapedI x && targetI x n) := by
  unfold rightI shapedI targetI
  have h := akI_lt x.op
  generalize akI x.op = k at *
  generalize decide (wordI x.op ≠ []) = p
  generalize (decide (x.num = 0) || x.op == 23) = q
  generalize txOK x.op x.text = r
  have e : aOK k n x.a = ((k == 1 || aOK k 0 x.a) && (!(k == 1) || decide (0 ≤ x.a ∧ x.a < n))) := by
    match k, h with
    | 0, _ => simp [aOK]
    | 1, _ => simp [aOK]
    | 2, _ => simp [aOK]
    | 3, _ => simp [aOK]
  rw [e]
  cases (k == 1 || aOK k 0 x.a) <;> cases (!(k == 1) || decide (0 ≤ x.a ∧ x.a < n)) <;> cases p <;> cases q <;> cases r <;> rfl
set_option maxRecDepth 20000 in
set_option maxHeartbeats 4000000 in
theorem isShaped_any (x : Ins) (hx : FitIns x) (w : World) (hW : WordsOK w) :
    Calls Tryd.prog 61 #[insV x] w fun e w' => e = .returned (.bool (shapedI x)) ∧ Below w.heap.size w w' := by
  obtain ⟨h1, h2, h3, h4⟩ := hx
  obtain ⟨op, a, num, tx⟩ := x
  dsimp only at h1 h2 h3 h4
  unfold insV
  dsimp only
  have F := fun W => fieldsOf_any op W
  unfold fldV at F
  have Wd := fun (W : World) (hb : Below w.heap.size w W) => Word_any op h4 W (hW.below hb)
  have A := fun W => allows_any op a W
  have T := fun W => allowsText_any op tx h1 W
  obtain ⟨B, hB⟩ := exHid (shapedI ⟨op, a, num, tx⟩)
  rw [hB.out]
  have hB' := hB.out
  unfold shapedI at hB'
  dsimp only at hB'
  clear hB
  have eN : ((nkI op : Int) == 4) = (op == 23) := by
    unfold nkI
    rw [Bool.eq_iff_iff, beq_iff_eq, beq_iff_eq]
    split <;> omega
  have eN0 : (num == 0) = decide (num = 0) := by rw [Bool.eq_iff_iff, beq_iff_eq, decide_eq_true_eq]
  have eW : (wordI op == []) = !decide (wordI op ≠ []) := by
    by_cases h : wordI op = [] <;> simp [h]
  generalize akI op = k at *
  generalize tkI op = t at *
  generalize nkI op = nk at *
  generalize wordI op = wd at *
  generalize (k == 1 || aOK k 0 a) = ak at *
  generalize txOK op tx = tk at *
  rcases q1 : decide (wd ≠ []) with _ | _ <;> rcases ak with _ | _ <;> rcases q3 : decide (num = 0) with _ | _ <;> rcases q4 : (op == 23) with _ | _ <;> rcases tk with _ | _
  all_goals
    rw [q1, q3, q4] at hB'
    rw [q1] at eW
    rw [q3] at eN0
    rw [q4] at eN
    replace hB' := Lib.hid hB'
    replace hW := Lib.hid hW
    clear q1 q3 q4 h1 h2 h3
    simp only [Bool.not_true, Bool.not_false] at eW
    go_enter Tryd.func61, Tryd.ntmps61
    go_wp2_with first
      | (go_at_call 33; refine (F _).mono ?_; rintro e w1 ⟨rfl, hb⟩; have hk : Below w.heap.size w w1 := below_next (by go_grown) hb; have hz := hk.size; have k0 := fun o2 => Go.Proofs.YtlhabgfgoainlaaDoor.cell_kept hb o2 0; have k1 := fun o2 => Go.Proofs.YtlhabgfgoainlaaDoor.cell_kept hb o2 1; have k2 := fun o2 => Go.Proofs.YtlhabgfgoainlaaDoor.cell_kept hb o2 2; have k3 := fun o2 => Go.Proofs.YtlhabgfgoainlaaDoor.cell_kept hb o2 3; replace hb := Lib.hid hb; simp at k0 k1 k2 k3)
      | (go_at_call 75; refine (Wd _ (by go_grown)).mono ?_; rintro e w2 ⟨rfl, rfl⟩)
      | (go_at_call 76; refine (A _).mono ?_; rintro e w2 ⟨rfl, rfl⟩)
      | (go_at_call 77; refine (T _).mono ?_; rintro e w2 ⟨rfl, rfl⟩)
    go_ret
    exact ⟨ret_bool hB'.out, by go_grown⟩
end Go.Proofs.YtlhabgfgoainlaaDoor
