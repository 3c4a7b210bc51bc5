/- A part of the proof: TDoc9, TDocL, TNa, TNb, TNc, TNd. No condition. -/
import Derived.Test.YtngbekhegnmfaaaGreatDoorQ21
import Derived.Test.YtngbekhegnmfaaaGreatDoorQ23
set_option linter.unusedVariables false
set_option linter.unusedSimpArgs false
namespace Go.Proofs.YtngbekhegnmfaaaGreatDoor
open Go.RowKit Tok
namespace Tok
theorem numV_go (l : List UInt8) : ∀ x, l.foldl (fun x c => 10 * x + (c.toNat - 48)) x = x * 10 ^ l.length + numV l := by
 induction l with
 | nil => intro x; simp [numV]
 | cons c l ih =>
   intro x;unfold numV;simp only [List.foldl_cons, List.length_cons];rw [ih, ih (10 * 0 + (c.toNat - 48)), Nat.pow_succ];simp only [Nat.mul_zero, Nat.zero_add];rw [Nat.add_mul, Nat.mul_comm 10 x, Nat.mul_assoc, Nat.mul_comm 10, Nat.add_assoc]
theorem numV_cons (c : UInt8) (l : List UInt8) : numV (c :: l) = (c.toNat - 48) * 10 ^ l.length + numV l := by
 have := numV_go l (10 * 0 + (c.toNat - 48));simp only [Nat.mul_zero, Nat.zero_add] at this;unfold numV at this ⊢;simp only [List.foldl_cons, Nat.mul_zero, Nat.zero_add];exact this
theorem numV_lt : ∀ {l : List UInt8}, l.all digC = true → numV l < 10 ^ l.length
 | [], _ => by simp [numV]
 | c :: l, h => by
   simp only [List.all_cons, Bool.and_eq_true] at h;have h1 := of_decide_eq_true h.1;have h2 := numV_lt h.2;rw [numV_cons, List.length_cons, Nat.pow_succ];have h3 : (c.toNat - 48) * 10 ^ l.length ≤ 9 * 10 ^ l.length := Nat.mul_le_mul_right _ (by omega);omega
theorem numV_order : ∀ {a b : List UInt8}, a.all digC = true → b.all digC = true → a.length = b.length → (Op.bytesLess a b || (a == b)) = decide (numV a ≤ numV b)
 | [], [], _, _, _ => by simp [numV]
 | [], _ :: _, _, _, h => by simp at h
 | _ :: _, [], _, _, h => by simp at h
 | c :: a, d :: b, ha, hb, hl => by
   simp only [List.all_cons, Bool.and_eq_true] at ha hb;simp only [List.length_cons, Nat.add_right_cancel_iff] at hl;have c1 := of_decide_eq_true ha.1;have d1 := of_decide_eq_true hb.1;have ih := numV_order ha.2 hb.2 hl;have la := numV_lt ha.2;have lb := numV_lt hb.2;rw [numV_cons, numV_cons, hl];rw [hl] at la;generalize 10 ^ b.length = P at *;generalize numV a = x at *;generalize numV b = y at *;show ((decide (c < d) || (c == d && Op.bytesLess a b)) || (c :: a == d :: b)) = _
   rcases Nat.lt_trichotomy c.toNat d.toNat with h | h | h
   · have h1 : c < d := UInt8.lt_iff_toNat_lt.2 h
     have h2 : (c.toNat - 48 + 1) * P ≤ (d.toNat - 48) * P := Nat.mul_le_mul_right _ (by omega);rw [Nat.add_mul] at h2;rw [decide_eq_true h1, decide_eq_true (by omega : (c.toNat - 48) * P + x ≤ (d.toNat - 48) * P + y)];rfl
   · have h1 : c = d := UInt8.toNat.inj h
     subst h1;have e : (c :: a == c :: b) = (a == b) := by simp
     rw [e, decide_eq_false (by simp : ¬ c < c), beq_self_eq_true, Bool.true_and, Bool.false_or, ih];exact decide_eq_decide.2 (by omega)
   · have h1 : ¬ c < d := fun hc => by have := UInt8.lt_iff_toNat_lt.1 hc; omega
     have hne : c ≠ d := fun hc => by subst hc; omega
     have h2 : (d.toNat - 48 + 1) * P ≤ (c.toNat - 48) * P := Nat.mul_le_mul_right _ (by omega);rw [Nat.add_mul] at h2;rw [decide_eq_false h1, beq_eq_false_iff_ne.2 hne, decide_eq_false (by omega : ¬ (c.toNat - 48) * P + x ≤ (d.toNat - 48) * P + y)];simp [hne]
def maxL : List UInt8 := [57, 50, 50, 51, 51, 55, 50, 48, 51, 54, 56, 53, 52, 55, 55, 53, 56, 48, 55]
def overD (D : List UInt8) : Bool := decide (19 < D.length) || (decide (D.length = 19) && !(Op.bytesLess D maxL || (D == maxL)))
theorem over_is {c : UInt8} {D : List UInt8} (h : (c :: D).all digC = true) (h0 : c.toNat ≠ 48 ∨ D = []) : overD (c :: D) = decide (9223372036854775807 < numV (c :: D)) := by
 have hm : numV maxL = 9223372036854775807 := by decide +kernel
 have hlt := numV_lt h;have hc : 48 ≤ c.toNat := by
   simp only [List.all_cons, Bool.and_eq_true] at h;exact (of_decide_eq_true h.1).1
 unfold overD;rcases Nat.lt_trichotomy (c :: D).length 19 with hl | hl | hl
 · have hp : 10 ^ (c :: D).length ≤ 10 ^ 18 := Nat.pow_le_pow_right (by decide) (by omega)
   rw [decide_eq_false (by omega), decide_eq_false (by omega : ¬ (c :: D).length = 19), decide_eq_false (by omega : ¬ 9223372036854775807 < numV (c :: D))];rfl
 · rw [decide_eq_false (by omega), decide_eq_true hl, numV_order (b := maxL) h (by decide) hl, hm, Bool.false_or, Bool.true_and]
   by_cases hv : numV (c :: D) ≤ 9223372036854775807
   · rw [decide_eq_true hv, decide_eq_false (by omega)]; rfl
   · rw [decide_eq_false hv, decide_eq_true (by omega)]; rfl
 · have h1 : c.toNat ≠ 48 := by
     rcases h0 with h0 | h0
     · exact h0
     · subst h0; simp at hl
   have hp : 10 ^ 19 ≤ 10 ^ D.length := Nat.pow_le_pow_right (by decide) (by simp only [List.length_cons] at hl; omega);have hq : 1 * 10 ^ D.length ≤ (c.toNat - 48) * 10 ^ D.length := Nat.mul_le_mul_right _ (by omega);have hv : 9223372036854775807 < numV (c :: D) := by rw [numV_cons]; omega
   rw [decide_eq_true hl, decide_eq_true hv]; rfl
theorem span_take9 {p : UInt8 → Bool} : ∀ l : List UInt8, (l.take (span p l)).all p = true ∧ (l.take (span p l)).length = span p l
 | [] => by simp [span]
 | c :: l => by
   have ih := span_take9 (p := p) l;have e : span p (c :: l) = if p c = true then span p l + 1 else 0 := rfl;rw [e];by_cases hc : p c = true
   · rw [if_pos hc]
     simp only [List.take_succ_cons, List.all_cons, List.length_cons];exact ⟨by rw [hc, ih.1]; rfl, by rw [ih.2]⟩
   · rw [if_neg hc]; simp
theorem numT_zero {c : UInt8} {r : List UInt8} (h : c.toNat = 48) (hn : 1 < span digC (c :: r)) : numT (c :: r) = .bad 1 9 := by
 have hN : numN (c :: r) = 1 := if_pos h;have hc : c = 48 := UInt8.toNat.inj h;have hd : digC c = true := by rw [hc]; decide
 have e : span digC (c :: r) = span digC r + 1 := if_pos hd;unfold numT;rw [hN];cases r with
 | nil => rw [e] at hn; simp [span] at hn
 | cons d r =>
   have hd2 : digC d = true := by
     cases hh : digC d with
     | true => rfl
     | false =>
       have : span digC (d :: r) = 0 := if_neg (by rw [hh]; simp);omega
   subst hc;rw [show List.take 1 ((48 : UInt8) :: d :: r) = [48] from rfl, show List.drop 1 ((48 : UInt8) :: d :: r) = d :: r from rfl, if_neg (by decide)];simp only
   rw [if_pos (dig_word hd2)]
theorem numT_rest {c : UInt8} {r : List UInt8} (hd : digC c = true) (h : c.toNat ≠ 48 ∨ ¬ 1 < span digC (c :: r)) : numT (c :: r) = if overD ((c :: r).take (span digC (c :: r))) = true then .bad 0 2 else match (c :: r).drop (span digC (c :: r)) with
   | [] => .ok 2 [] (numV ((c :: r).take (span digC (c :: r)))) (span digC (c :: r))
   | d :: _ => if wordC d then .bad (span digC (c :: r)) 9 else .ok 2 [] (numV ((c :: r).take (span digC (c :: r)))) (span digC (c :: r)) := by
 have e : span digC (c :: r) = span digC r + 1 := if_pos hd;have hN : numN (c :: r) = span digC (c :: r) := by
   show (if c.toNat = 48 then 1 else span digC (c :: r)) = _
   by_cases h48 : c.toNat = 48
   · rw [if_pos h48]; omega
   · rw [if_neg h48]
 obtain ⟨h1, h2⟩ := span_take9 (p := digC) (c :: r);have ho : overD ((c :: r).take (span digC (c :: r))) = decide (9223372036854775807 < numV ((c :: r).take (span digC (c :: r)))) := by
   rw [e] at h1 ⊢;simp only [List.take_succ_cons] at h1 ⊢;refine over_is h1 ?_;rcases h with h | h
   · exact .inl h
   · right
     have : span digC r = 0 := by omega
     rw [this]; rfl
 unfold numT;rw [hN, ho];by_cases hv : 9223372036854775807 < numV ((c :: r).take (span digC (c :: r)))
 · rw [if_pos hv, decide_eq_true hv, if_pos rfl]
 · rw [if_neg hv, decide_eq_false hv, if_neg (by simp)]
   cases List.drop (span digC (c :: r)) (c :: r) <;> rfl
end Tok
end Go.Proofs.YtngbekhegnmfaaaGreatDoor
namespace Go.Proofs.YtngbekhegnmfaaaGreatDoor
open Go.RowKit Tok
theorem numV_take_le {D : List UInt8} {m : Nat} : numV (D.take m) ≤ numV D := by
 have h := List.take_append_drop m D;have : ∀ a b : List UInt8, numV a ≤ numV (a ++ b) := by
   intro a b;have e : numV (a ++ b) = numV a * 10 ^ b.length + numV b := by
     unfold numV;rw [List.foldl_append];exact numV_go b _
   rw [e];have := Nat.one_le_pow b.length 10 (by decide);have := Nat.mul_le_mul_left (numV a) this;omega
 have h2 := this (D.take m) (D.drop m)
 rwa [h] at h2
theorem over_max {D : List UInt8} (h : D.all digC = true) (ho : overD D = false) : numV D ≤ 9223372036854775807 := by
 have hm : numV maxL = 9223372036854775807 := by decide +kernel
 have hlt := numV_lt h;unfold overD at ho;rcases Nat.lt_trichotomy D.length 19 with hl | hl | hl
 · have hp : 10 ^ D.length ≤ 10 ^ 18 := Nat.pow_le_pow_right (by decide) (by omega)
   omega
 · rw [decide_eq_false (by omega), decide_eq_true hl, numV_order (b := maxL) h (by decide) hl, hm, Bool.false_or, Bool.true_and] at ho
   simpa using ho
 · rw [decide_eq_true hl] at ho
   cases ho
def numW (D r : List UInt8) (k : Nat) : Res := if overD D = true then .bad 0 2 else match r with
 | [] => .ok 2 [] (numV D) k
 | d :: _ => if wordC d then .bad k 9 else .ok 2 [] (numV D) k
theorem over_w {D : List UInt8} {n : Nat} (hn : D.length = n) :
   (overD D = true ∧ 19 < n) ∨ (overD D = true ∧ n = 19 ∧ Op.bytesLess D maxL = false ∧ (D == maxL) = false) ∨ (overD D = false ∧ n < 19) ∨ (overD D = false ∧ n = 19 ∧ Op.bytesLess D maxL = true) ∨ (overD D = false ∧ n = 19 ∧ Op.bytesLess D maxL = false ∧ (D == maxL) = true) := by
 unfold overD;rw [hn];rcases Nat.lt_trichotomy n 19 with h | h | h
 · right; right; left
   rw [decide_eq_false (by omega), decide_eq_false (by omega)];exact ⟨rfl, h⟩
 · rw [decide_eq_false (by omega), decide_eq_true h]
   cases Op.bytesLess D maxL <;> cases D == maxL <;> simp [h]
 · left
   rw [decide_eq_true h];exact ⟨rfl, h⟩
def NumOk (s : ByteArray) (i : Nat) (h : i < s.size) : Prop := (s[i].toNat ≠ 48 ∨ ¬ 1 < span digC (s.data.toList.drop i)) ∧ overD ((s.data.toList.drop i).take (span digC (s.data.toList.drop i))) = false
end Go.Proofs.YtngbekhegnmfaaaGreatDoor
namespace Go.Proofs.YtngbekhegnmfaaaGreatDoor
open Go.RowKit Tok
set_option maxRecDepth 20000 in
set_option maxHeartbeats 16000000 in
theorem num_short_bad (s : ByteArray) (i : Nat) (w : World) (hs : s.size ≤ 1000000) (hi : i < s.size) (hd : digC s[i] = true) (h1 : i + span digC (s.data.toList.drop i) < s.size) (h2 : ¬ NumOk s i hi) :
   Calls Tryz.prog 114 #[.string s, .int .i64 i] w fun e w' => e = .returned (resT i (numT (s.data.toList.drop i))) ∧ Below w.heap.size w w' := by
 have hyes := Lib.hid (fun j => span_yes_at (p := digC) (s := s) (i := i) (j := j));have hno := Lib.hid (fun j => span_no_at (p := digC) (s := s) (i := i) (j := j));have hle := span_le (p := digC) (s.data.toList.drop i);rw [List.length_drop, size_list] at hle;have hL := at_drop hi;have hpos : 0 < span digC (s.data.toList.drop i) := by rw [hL]; exact span_pos _ hd
 obtain ⟨hDa, hDl⟩ := span_take9 (p := digC) (s.data.toList.drop i);have hrest : s[i].toNat ≠ 48 ∨ ¬ 1 < span digC (s.data.toList.drop i) → numT (s.data.toList.drop i) = numW ((s.data.toList.drop i).take (span digC (s.data.toList.drop i))) ((s.data.toList.drop i).drop (span digC (s.data.toList.drop i))) (span digC (s.data.toList.drop i)) := by
   intro h;have h1 := numT_rest (r := s.data.toList.drop (i + 1)) hd (by rw [← hL]; exact h);rw [← hL] at h1;exact h1
 have hzero : s[i].toNat = 48 → 1 < span digC (s.data.toList.drop i) → numT (s.data.toList.drop i) = .bad 1 9 := by
   intro h1 h2;rw [hL] at h2 ⊢;exact numT_zero h1 h2
 obtain ⟨V, hV⟩ := exHid (resT i (numT (s.data.toList.drop i)));rw [hV.out];replace hrest := Lib.hid hrest;replace hzero := Lib.hid hzero;have hx := Lib.hid (extract_piece s i (span digC (s.data.toList.drop i)));obtain ⟨D, hD⟩ := exHid ((s.data.toList.drop i).take (span digC (s.data.toList.drop i)));rw [hD.out] at hDa hDl hx hrest;unfold NumOk at h2;rw [hD.out] at h2;obtain ⟨n, hn⟩ := exHid (span digC (s.data.toList.drop i));rw [hn.out] at hyes hno hle hpos hDl hx hrest hzero;rw [hn.out] at h1 h2;replace h2 := Lib.hid h2;have hDd : Hid (∀ j (hj : j < n) (hz : i + j < s.size), D.take (j + 1) = D.take j ++ [s[i + j]]) := by
   intro j hj hz;have hjl : j < D.length := by omega
   rw [List.take_succ_eq_append_getElem hjl]
   congr 2
   have hd2 := hD.out;rw [hn.out] at hd2;subst hd2;rw [List.getElem_take, List.getElem_drop];rfl
 have hb0 := Lib.hid ((Below.refl w.heap.size w).alloc (Nat.le_refl _) (.cells #[.int .u8 0, .string ⟨#[]⟩, .int .i64 0, .int .i64 0, .int .i64 0, .int .i64 0, .int .i64 0] 107));have hk0 : Hid (Told0 (w.alloc (.cells #[.int .u8 0, .string ⟨#[]⟩, .int .i64 0, .int .i64 0, .int .i64 0, .int .i64 0, .int .i64 0] 107)) w.heap.size) := heap_alloc_new w _;go_enter Tryz.func114, Tryz.ntmps114
 go_wp2
 generalize hW1 : w.alloc (.cells #[.int .u8 0, .string ⟨#[]⟩, .int .i64 0, .int .i64 0, .int .i64 0, .int .i64 0, .int .i64 0] 107) = W1 at *;have hsz := hb0.out.size;have hlt0 : w.heap.size < W1.heap.size := (Array.getElem?_eq_some_iff.1 hk0.out).1;replace hW1 := Lib.hid hW1;go_loop [5] (fun t5 => ∃ j : Nat, j ≤ n ∧ t5 = .int .i64 ((i + j : Nat) : Int)) (fun t5 => i + n - (intOf t5).toNat)
 case atStart => exact ⟨0, by omega, rfl⟩
 case round =>
   obtain ⟨j, hj, rfl⟩ := hrel;rcases Nat.lt_or_ge j n with hlt | hge
   · obtain ⟨hi2, hp⟩ := hyes.out j hlt
     have hi3 : ((i + j : Nat) : Int) < (s.size : Int) := by omega
     generalize hq : i + j = q at *;have k1 := Lib.hid (fun W => calls_at (refDig_any s[q] W) hp);clear hp;go_wp2_with fail
     refine (k1.out _).mono ?_;rintro e w' ⟨rfl, rfl⟩;go_wp2
     go_round
     case rel => exact ⟨j + 1, by omega, by rw [show i + (j + 1) = q + 1 by omega]; go_num⟩
     case measure => simp [intOf]; omega
   · obtain rfl : j = n := by omega
     have hA : (((s[i].toNat : Int) == 48) = true ∧ (i : Int) + 1 < ((i + j : Nat) : Int) ∧ V = toldV 0 [] 0 0 0 (i + 1) 9) ∨ ((((s[i].toNat : Int) == 48) = false ∨ (((s[i].toNat : Int) == 48) = true ∧ ¬ (i : Int) + 1 < ((i + j : Nat) : Int))) ∧ (s[i].toNat ≠ 48 ∨ ¬ 1 < j)) := by
       by_cases h48 : s[i].toNat = 48
       · by_cases h1 : 1 < j
         · left
           refine ⟨by rw [h48]; rfl, by omega, ?_⟩;rw [← hV.out, hzero.out h48 h1]; rfl
         · right
           exact ⟨.inr ⟨by rw [h48]; rfl, by omega⟩, .inr h1⟩
       · right
         exact ⟨.inl (beq_eq_false_iff_ne.2 (by omega)), .inl h48⟩
     have hO := over_w hDl;have hji : ((i + j : Nat) : Int) - (i : Int) = (j : Int) := by omega
     have hiq : (i : Int) ≤ ((i + j : Nat) : Int) := by omega
     have hqs : ((i + j : Nat) : Int) ≤ (s.size : Int) := by omega
     have hz2 : i + j < s.size := h1;have hp2 := hno.out j rfl hz2;have hz3 : ((i + j : Nat) : Int) < (s.size : Int) := by omega
     have k1 := Lib.hid (fun W => calls_at (refDig_any s[i + j] W) hp2);rcases hA with ⟨a1, a2, hv⟩ | ⟨a1, a2⟩
     · replace hv := Lib.hid hv
       clear hO hrest hzero hji;go_wp2_with (first | (go_at_call 113; refine (k1.out _).mono ?_; rintro e w' ⟨rfl, rfl⟩) | (go_at_call 140; refine (refWrong_any (i + 1) 9 _).mono ?_; rintro e' w' ⟨rfl, hw⟩; have hk2 : Told0 w' w.heap.size := (by rw [hw]; exact hk0.out.alloc _); have hb2 : Below w.heap.size w w' := (by rw [hw]; exact hb0.out.alloc hsz _); replace hw := Lib.hid hw; obtain ⟨x0, x1, x2, x3, x4, x5, x6⟩ := told0_cells hk2; obtain ⟨y0, y1, y2, y3, y4, y5, y6⟩ := told0_frozen hk2))
       refine bodyPost_ret (results_cell_row rfl _ _ w.heap.size _ _ (0, 0) _ rfl (told_set7 hk2 _ _ _ _ _ _ _) Tryz.underlying107 rfl (by kernel_rfl)) rfl ⟨?_, below_set7 hb2 (Nat.le_refl _) _ _ _ _ _ _ _⟩;rw [hv.out];simp [resT, toldV]
       try omega
     · have hR := hrest.out a2
       unfold numW at hR;clear hrest hzero;rcases hO with ⟨o1, o2⟩ | ⟨o1, o2, o3, o4⟩ | ⟨o1, o2⟩ | ⟨o1, o2, o3⟩ | ⟨o1, o2, o3, o4⟩
       case inl =>
         clear a2;rw [o1, if_pos rfl] at hR;have hv : V = toldV 0 [] 0 0 0 i 2 := by rw [← hV.out, hR]; rfl
         replace hv := Lib.hid hv;clear hR;have o2i : (19 : Int) < (i : Int) + (j : Int) - (i : Int) := by omega
         rcases a1 with a1 | ⟨a1, a2⟩
         case inr => exfalso; omega
         replace o2 := Lib.hid o2;go_wp2_with (first | (go_at_call 113; refine (k1.out _).mono ?_; rintro e w' ⟨rfl, rfl⟩) | (go_at_call 140; refine (refWrong_any i 2 _).mono ?_; rintro e' w' ⟨rfl, hw⟩; have hk2 : Told0 w' w.heap.size := (by rw [hw]; exact hk0.out.alloc _); have hb2 : Below w.heap.size w w' := (by rw [hw]; exact hb0.out.alloc hsz _); replace hw := Lib.hid hw; obtain ⟨x0, x1, x2, x3, x4, x5, x6⟩ := told0_cells hk2; obtain ⟨y0, y1, y2, y3, y4, y5, y6⟩ := told0_frozen hk2))
         refine bodyPost_ret (results_cell_row rfl _ _ w.heap.size _ _ (0, 0) _ rfl (told_set7 hk2 _ _ _ _ _ _ _) Tryz.underlying107 rfl (by kernel_rfl)) rfl ⟨?_, below_set7 hb2 (Nat.le_refl _) _ _ _ _ _ _ _⟩;rw [hv.out];simp [resT, toldV]
         try omega
       case inr.inl =>
         clear a2;rw [o1, if_pos rfl] at hR;have hv : V = toldV 0 [] 0 0 0 i 2 := by rw [← hV.out, hR]; rfl
         replace hv := Lib.hid hv;clear hR;have o2i : ¬ (19 : Int) < (i : Int) + (j : Int) - (i : Int) := by omega
         have o2j : ((i : Int) + (j : Int) - (i : Int) == 19) = true := beq_iff_eq.2 (by omega);have hxx := hx.out;unfold maxL at o3 o4;rcases a1 with a1 | ⟨a1, a2⟩
         case inr => exfalso; omega
         replace o2 := Lib.hid o2;go_wp2_with (first | (go_at_call 113; refine (k1.out _).mono ?_; rintro e w' ⟨rfl, rfl⟩) | (go_at_call 140; refine (refWrong_any i 2 _).mono ?_; rintro e' w' ⟨rfl, hw⟩; have hk2 : Told0 w' w.heap.size := (by rw [hw]; exact hk0.out.alloc _); have hb2 : Below w.heap.size w w' := (by rw [hw]; exact hb0.out.alloc hsz _); replace hw := Lib.hid hw; obtain ⟨x0, x1, x2, x3, x4, x5, x6⟩ := told0_cells hk2; obtain ⟨y0, y1, y2, y3, y4, y5, y6⟩ := told0_frozen hk2))
         refine bodyPost_ret (results_cell_row rfl _ _ w.heap.size _ _ (0, 0) _ rfl (told_set7 hk2 _ _ _ _ _ _ _) Tryz.underlying107 rfl (by kernel_rfl)) rfl ⟨?_, below_set7 hb2 (Nat.le_refl _) _ _ _ _ _ _ _⟩;rw [hv.out];simp [resT, toldV]
         try omega
       all_goals exact absurd ⟨a2, o1⟩ h2.out
end Go.Proofs.YtngbekhegnmfaaaGreatDoor
namespace Go.Proofs.YtngbekhegnmfaaaGreatDoor
open Go.RowKit Tok
set_option maxRecDepth 20000 in
set_option maxHeartbeats 16000000 in
theorem num_full_bad (s : ByteArray) (i : Nat) (w : World) (hs : s.size ≤ 1000000) (hi : i < s.size) (hd : digC s[i] = true) (h1 : ¬ i + span digC (s.data.toList.drop i) < s.size) (h2 : ¬ NumOk s i hi) :
   Calls Tryz.prog 114 #[.string s, .int .i64 i] w fun e w' => e = .returned (resT i (numT (s.data.toList.drop i))) ∧ Below w.heap.size w w' := by
 have hyes := Lib.hid (fun j => span_yes_at (p := digC) (s := s) (i := i) (j := j));have hno := Lib.hid (fun j => span_no_at (p := digC) (s := s) (i := i) (j := j));have hle := span_le (p := digC) (s.data.toList.drop i);rw [List.length_drop, size_list] at hle;have hL := at_drop hi;have hpos : 0 < span digC (s.data.toList.drop i) := by rw [hL]; exact span_pos _ hd
 obtain ⟨hDa, hDl⟩ := span_take9 (p := digC) (s.data.toList.drop i);have hrest : s[i].toNat ≠ 48 ∨ ¬ 1 < span digC (s.data.toList.drop i) → numT (s.data.toList.drop i) = numW ((s.data.toList.drop i).take (span digC (s.data.toList.drop i))) ((s.data.toList.drop i).drop (span digC (s.data.toList.drop i))) (span digC (s.data.toList.drop i)) := by
   intro h;have h1 := numT_rest (r := s.data.toList.drop (i + 1)) hd (by rw [← hL]; exact h);rw [← hL] at h1;exact h1
 have hzero : s[i].toNat = 48 → 1 < span digC (s.data.toList.drop i) → numT (s.data.toList.drop i) = .bad 1 9 := by
   intro h1 h2;rw [hL] at h2 ⊢;exact numT_zero h1 h2
 obtain ⟨V, hV⟩ := exHid (resT i (numT (s.data.toList.drop i)));rw [hV.out];replace hrest := Lib.hid hrest;replace hzero := Lib.hid hzero;have hx := Lib.hid (extract_piece s i (span digC (s.data.toList.drop i)));obtain ⟨D, hD⟩ := exHid ((s.data.toList.drop i).take (span digC (s.data.toList.drop i)));rw [hD.out] at hDa hDl hx hrest;unfold NumOk at h2;rw [hD.out] at h2;obtain ⟨n, hn⟩ := exHid (span digC (s.data.toList.drop i));rw [hn.out] at hyes hno hle hpos hDl hx hrest hzero;rw [hn.out] at h1 h2;replace h2 := Lib.hid h2;have hDd : Hid (∀ j (hj : j < n) (hz : i + j < s.size), D.take (j + 1) = D.take j ++ [s[i + j]]) := by
   intro j hj hz;have hjl : j < D.length := by omega
   rw [List.take_succ_eq_append_getElem hjl]
   congr 2
   have hd2 := hD.out;rw [hn.out] at hd2;subst hd2;rw [List.getElem_take, List.getElem_drop];rfl
 have hb0 := Lib.hid ((Below.refl w.heap.size w).alloc (Nat.le_refl _) (.cells #[.int .u8 0, .string ⟨#[]⟩, .int .i64 0, .int .i64 0, .int .i64 0, .int .i64 0, .int .i64 0] 107));have hk0 : Hid (Told0 (w.alloc (.cells #[.int .u8 0, .string ⟨#[]⟩, .int .i64 0, .int .i64 0, .int .i64 0, .int .i64 0, .int .i64 0] 107)) w.heap.size) := heap_alloc_new w _;go_enter Tryz.func114, Tryz.ntmps114
 go_wp2
 generalize hW1 : w.alloc (.cells #[.int .u8 0, .string ⟨#[]⟩, .int .i64 0, .int .i64 0, .int .i64 0, .int .i64 0, .int .i64 0] 107) = W1 at *;have hsz := hb0.out.size;have hlt0 : w.heap.size < W1.heap.size := (Array.getElem?_eq_some_iff.1 hk0.out).1;replace hW1 := Lib.hid hW1;go_loop [5] (fun t5 => ∃ j : Nat, j ≤ n ∧ t5 = .int .i64 ((i + j : Nat) : Int)) (fun t5 => i + n - (intOf t5).toNat)
 case atStart => exact ⟨0, by omega, rfl⟩
 case round =>
   obtain ⟨j, hj, rfl⟩ := hrel;rcases Nat.lt_or_ge j n with hlt | hge
   · obtain ⟨hi2, hp⟩ := hyes.out j hlt
     have hi3 : ((i + j : Nat) : Int) < (s.size : Int) := by omega
     generalize hq : i + j = q at *;have k1 := Lib.hid (fun W => calls_at (refDig_any s[q] W) hp);clear hp;go_wp2_with fail
     refine (k1.out _).mono ?_;rintro e w' ⟨rfl, rfl⟩;go_wp2
     go_round
     case rel => exact ⟨j + 1, by omega, by rw [show i + (j + 1) = q + 1 by omega]; go_num⟩
     case measure => simp [intOf]; omega
   · obtain rfl : j = n := by omega
     have hA : (((s[i].toNat : Int) == 48) = true ∧ (i : Int) + 1 < ((i + j : Nat) : Int) ∧ V = toldV 0 [] 0 0 0 (i + 1) 9) ∨ ((((s[i].toNat : Int) == 48) = false ∨ (((s[i].toNat : Int) == 48) = true ∧ ¬ (i : Int) + 1 < ((i + j : Nat) : Int))) ∧ (s[i].toNat ≠ 48 ∨ ¬ 1 < j)) := by
       by_cases h48 : s[i].toNat = 48
       · by_cases h1 : 1 < j
         · left
           refine ⟨by rw [h48]; rfl, by omega, ?_⟩;rw [← hV.out, hzero.out h48 h1]; rfl
         · right
           exact ⟨.inr ⟨by rw [h48]; rfl, by omega⟩, .inr h1⟩
       · right
         exact ⟨.inl (beq_eq_false_iff_ne.2 (by omega)), .inl h48⟩
     have hO := over_w hDl;have hji : ((i + j : Nat) : Int) - (i : Int) = (j : Int) := by omega
     have hiq : (i : Int) ≤ ((i + j : Nat) : Int) := by omega
     have hqs : ((i + j : Nat) : Int) ≤ (s.size : Int) := by omega
     have hz2 : s.size ≤ i + j := by omega
     have hz3 : ¬ ((i + j : Nat) : Int) < (s.size : Int) := by omega
     rcases hA with ⟨a1, a2, hv⟩ | ⟨a1, a2⟩
     · replace hv := Lib.hid hv
       clear hO hrest hzero hji;go_wp2_with (first | (go_at_call 140; refine (refWrong_any (i + 1) 9 _).mono ?_; rintro e' w' ⟨rfl, hw⟩; have hk2 : Told0 w' w.heap.size := (by rw [hw]; exact hk0.out.alloc _); have hb2 : Below w.heap.size w w' := (by rw [hw]; exact hb0.out.alloc hsz _); replace hw := Lib.hid hw; obtain ⟨x0, x1, x2, x3, x4, x5, x6⟩ := told0_cells hk2; obtain ⟨y0, y1, y2, y3, y4, y5, y6⟩ := told0_frozen hk2))
       refine bodyPost_ret (results_cell_row rfl _ _ w.heap.size _ _ (0, 0) _ rfl (told_set7 hk2 _ _ _ _ _ _ _) Tryz.underlying107 rfl (by kernel_rfl)) rfl ⟨?_, below_set7 hb2 (Nat.le_refl _) _ _ _ _ _ _ _⟩;rw [hv.out];simp [resT, toldV]
       try omega
     · have hR := hrest.out a2
       unfold numW at hR;clear hrest hzero;rcases hO with ⟨o1, o2⟩ | ⟨o1, o2, o3, o4⟩ | ⟨o1, o2⟩ | ⟨o1, o2, o3⟩ | ⟨o1, o2, o3, o4⟩
       case inl =>
         clear a2;rw [o1, if_pos rfl] at hR;have hv : V = toldV 0 [] 0 0 0 i 2 := by rw [← hV.out, hR]; rfl
         replace hv := Lib.hid hv;clear hR;have o2i : (19 : Int) < (i : Int) + (j : Int) - (i : Int) := by omega
         rcases a1 with a1 | ⟨a1, a2⟩
         case inr => exfalso; omega
         replace o2 := Lib.hid o2;go_wp2_with (first | (go_at_call 140; refine (refWrong_any i 2 _).mono ?_; rintro e' w' ⟨rfl, hw⟩; have hk2 : Told0 w' w.heap.size := (by rw [hw]; exact hk0.out.alloc _); have hb2 : Below w.heap.size w w' := (by rw [hw]; exact hb0.out.alloc hsz _); replace hw := Lib.hid hw; obtain ⟨x0, x1, x2, x3, x4, x5, x6⟩ := told0_cells hk2; obtain ⟨y0, y1, y2, y3, y4, y5, y6⟩ := told0_frozen hk2))
         refine bodyPost_ret (results_cell_row rfl _ _ w.heap.size _ _ (0, 0) _ rfl (told_set7 hk2 _ _ _ _ _ _ _) Tryz.underlying107 rfl (by kernel_rfl)) rfl ⟨?_, below_set7 hb2 (Nat.le_refl _) _ _ _ _ _ _ _⟩;rw [hv.out];simp [resT, toldV]
         try omega
       case inr.inl =>
         clear a2;rw [o1, if_pos rfl] at hR;have hv : V = toldV 0 [] 0 0 0 i 2 := by rw [← hV.out, hR]; rfl
         replace hv := Lib.hid hv;clear hR;have o2i : ¬ (19 : Int) < (i : Int) + (j : Int) - (i : Int) := by omega
         have o2j : ((i : Int) + (j : Int) - (i : Int) == 19) = true := beq_iff_eq.2 (by omega);have hxx := hx.out;unfold maxL at o3 o4;rcases a1 with a1 | ⟨a1, a2⟩
         case inr => exfalso; omega
         replace o2 := Lib.hid o2;go_wp2_with (first | (go_at_call 140; refine (refWrong_any i 2 _).mono ?_; rintro e' w' ⟨rfl, hw⟩; have hk2 : Told0 w' w.heap.size := (by rw [hw]; exact hk0.out.alloc _); have hb2 : Below w.heap.size w w' := (by rw [hw]; exact hb0.out.alloc hsz _); replace hw := Lib.hid hw; obtain ⟨x0, x1, x2, x3, x4, x5, x6⟩ := told0_cells hk2; obtain ⟨y0, y1, y2, y3, y4, y5, y6⟩ := told0_frozen hk2))
         refine bodyPost_ret (results_cell_row rfl _ _ w.heap.size _ _ (0, 0) _ rfl (told_set7 hk2 _ _ _ _ _ _ _) Tryz.underlying107 rfl (by kernel_rfl)) rfl ⟨?_, below_set7 hb2 (Nat.le_refl _) _ _ _ _ _ _ _⟩;rw [hv.out];simp [resT, toldV]
         try omega
       all_goals exact absurd ⟨a2, o1⟩ h2.out
end Go.Proofs.YtngbekhegnmfaaaGreatDoor
namespace Go.Proofs.YtngbekhegnmfaaaGreatDoor
open Go.RowKit Tok
set_option maxRecDepth 20000 in
set_option maxHeartbeats 16000000 in
theorem num_short_word (s : ByteArray) (i : Nat) (w : World) (hs : s.size ≤ 1000000) (hi : i < s.size) (hd : digC s[i] = true) (h1 : i + span digC (s.data.toList.drop i) < s.size) (h2 : NumOk s i hi) (h3 : wordC s[i + span digC (s.data.toList.drop i)] = true) :
   Calls Tryz.prog 114 #[.string s, .int .i64 i] w fun e w' => e = .returned (resT i (numT (s.data.toList.drop i))) ∧ Below w.heap.size w w' := by
 have hyes := Lib.hid (fun j => span_yes_at (p := digC) (s := s) (i := i) (j := j));have hno := Lib.hid (fun j => span_no_at (p := digC) (s := s) (i := i) (j := j));have hle := span_le (p := digC) (s.data.toList.drop i);rw [List.length_drop, size_list] at hle;have hL := at_drop hi;have hpos : 0 < span digC (s.data.toList.drop i) := by rw [hL]; exact span_pos _ hd
 obtain ⟨hDa, hDl⟩ := span_take9 (p := digC) (s.data.toList.drop i);have hrest : s[i].toNat ≠ 48 ∨ ¬ 1 < span digC (s.data.toList.drop i) → numT (s.data.toList.drop i) = numW ((s.data.toList.drop i).take (span digC (s.data.toList.drop i))) ((s.data.toList.drop i).drop (span digC (s.data.toList.drop i))) (span digC (s.data.toList.drop i)) := by
   intro h;have h1 := numT_rest (r := s.data.toList.drop (i + 1)) hd (by rw [← hL]; exact h);rw [← hL] at h1;exact h1
 have hzero : s[i].toNat = 48 → 1 < span digC (s.data.toList.drop i) → numT (s.data.toList.drop i) = .bad 1 9 := by
   intro h1 h2;rw [hL] at h2 ⊢;exact numT_zero h1 h2
 obtain ⟨V, hV⟩ := exHid (resT i (numT (s.data.toList.drop i)));rw [hV.out];replace hrest := Lib.hid hrest;replace hzero := Lib.hid hzero;have hx := Lib.hid (extract_piece s i (span digC (s.data.toList.drop i)));obtain ⟨D, hD⟩ := exHid ((s.data.toList.drop i).take (span digC (s.data.toList.drop i)));rw [hD.out] at hDa hDl hx hrest;unfold NumOk at h2;rw [hD.out] at h2;obtain ⟨n, hn⟩ := exHid (span digC (s.data.toList.drop i));rw [hn.out] at hyes hno hle hpos hDl hx hrest hzero;rw [hn.out] at h1 h2;have h4 : Hid (∀ q (hq : q < s.size), q = i + n → wordC s[q] = true) := by
   rintro q hq rfl;simp only [hn.out] at h3;exact h3
 clear h3;replace h2 := Lib.hid h2;have hDd : Hid (∀ j (hj : j < n) (hz : i + j < s.size), D.take (j + 1) = D.take j ++ [s[i + j]]) := by
   intro j hj hz;have hjl : j < D.length := by omega
   rw [List.take_succ_eq_append_getElem hjl]
   congr 2
   have hd2 := hD.out;rw [hn.out] at hd2;subst hd2;rw [List.getElem_take, List.getElem_drop];rfl
 have hb0 := Lib.hid ((Below.refl w.heap.size w).alloc (Nat.le_refl _) (.cells #[.int .u8 0, .string ⟨#[]⟩, .int .i64 0, .int .i64 0, .int .i64 0, .int .i64 0, .int .i64 0] 107));have hk0 : Hid (Told0 (w.alloc (.cells #[.int .u8 0, .string ⟨#[]⟩, .int .i64 0, .int .i64 0, .int .i64 0, .int .i64 0, .int .i64 0] 107)) w.heap.size) := heap_alloc_new w _;go_enter Tryz.func114, Tryz.ntmps114
 go_wp2
 generalize hW1 : w.alloc (.cells #[.int .u8 0, .string ⟨#[]⟩, .int .i64 0, .int .i64 0, .int .i64 0, .int .i64 0, .int .i64 0] 107) = W1 at *;have hsz := hb0.out.size;have hlt0 : w.heap.size < W1.heap.size := (Array.getElem?_eq_some_iff.1 hk0.out).1;replace hW1 := Lib.hid hW1;go_loop [5] (fun t5 => ∃ j : Nat, j ≤ n ∧ t5 = .int .i64 ((i + j : Nat) : Int)) (fun t5 => i + n - (intOf t5).toNat)
 case atStart => exact ⟨0, by omega, rfl⟩
 case round =>
   obtain ⟨j, hj, rfl⟩ := hrel;rcases Nat.lt_or_ge j n with hlt | hge
   · obtain ⟨hi2, hp⟩ := hyes.out j hlt
     have hi3 : ((i + j : Nat) : Int) < (s.size : Int) := by omega
     generalize hq : i + j = q at *;have k1 := Lib.hid (fun W => calls_at (refDig_any s[q] W) hp);clear hp;go_wp2_with fail
     refine (k1.out _).mono ?_;rintro e w' ⟨rfl, rfl⟩;go_wp2
     go_round
     case rel => exact ⟨j + 1, by omega, by rw [show i + (j + 1) = q + 1 by omega]; go_num⟩
     case measure => simp [intOf]; omega
   · obtain rfl : j = n := by omega
     have hA : (((s[i].toNat : Int) == 48) = true ∧ (i : Int) + 1 < ((i + j : Nat) : Int) ∧ V = toldV 0 [] 0 0 0 (i + 1) 9) ∨ ((((s[i].toNat : Int) == 48) = false ∨ (((s[i].toNat : Int) == 48) = true ∧ ¬ (i : Int) + 1 < ((i + j : Nat) : Int))) ∧ (s[i].toNat ≠ 48 ∨ ¬ 1 < j)) := by
       by_cases h48 : s[i].toNat = 48
       · by_cases h1 : 1 < j
         · left
           refine ⟨by rw [h48]; rfl, by omega, ?_⟩;rw [← hV.out, hzero.out h48 h1]; rfl
         · right
           exact ⟨.inr ⟨by rw [h48]; rfl, by omega⟩, .inr h1⟩
       · right
         exact ⟨.inl (beq_eq_false_iff_ne.2 (by omega)), .inl h48⟩
     have hO := over_w hDl;have hji : ((i + j : Nat) : Int) - (i : Int) = (j : Int) := by omega
     have hiq : (i : Int) ≤ ((i + j : Nat) : Int) := by omega
     have hqs : ((i + j : Nat) : Int) ≤ (s.size : Int) := by omega
     have hz2 : i + j < s.size := h1;have hp2 := hno.out j rfl hz2;have hz3 : ((i + j : Nat) : Int) < (s.size : Int) := by omega
     have k1 := Lib.hid (fun W => calls_at (refDig_any s[i + j] W) hp2);rcases hA with ⟨a1, a2, hv⟩ | ⟨a1, a2⟩
     · exfalso
       have q1 := h2.out.1;have q2 := beq_iff_eq.1 a1;omega
     · have hR := hrest.out a2
       unfold numW at hR;clear hrest hzero;rcases hO with ⟨o1, o2⟩ | ⟨o1, o2, o3, o4⟩ | ⟨o1, o2⟩ | ⟨o1, o2, o3⟩ | ⟨o1, o2, o3, o4⟩
       case inl => exfalso; have q := h2.out.2; rw [o1] at q; cases q
       case inr.inl => exfalso; have q := h2.out.2; rw [o1] at q; cases q
       all_goals
         clear a2;rw [o1, if_neg (by simp)] at hR;have hmax := Lib.hid (over_max hDa o1);have o2i : ¬ (19 : Int) < (i : Int) + (j : Int) - (i : Int) := by omega
         first
         | (have o2j : ((i : Int) + (j : Int) - (i : Int) == 19) = false := beq_eq_false_iff_ne.2 (by omega))
         | (have o2j : ((i : Int) + (j : Int) - (i : Int) == 19) = true := beq_iff_eq.2 (by omega); have hxx := hx.out; unfold maxL at o3; try unfold maxL at o4)
         replace o2 := Lib.hid o2;rw [List.drop_drop, at_drop hz2] at hR;simp only at hR;have hw2 := refW_of (h4.out (i + j) hz2 rfl);have hwc := h4.out (i + j) hz2 rfl;rcases hw2 with ⟨l1, l4⟩ | ⟨l1, l2, l4⟩ | ⟨l1, l2, l3, l4⟩ | ⟨l1, l2, l3, l4⟩
         · rw [hwc, if_pos rfl] at hR
           have hv : V = toldV 0 [] 0 0 0 (i + j) 9 := by rw [← hV.out, hR]; rfl
           replace hv := Lib.hid hv;have k2 := Lib.hid (fun W => calls_at (refLow_any s[i + j] W) l1);clear hR hp2 hwc;rcases a1 with a1 | ⟨a1, a2⟩
           all_goals try (exfalso; have := o2.out; omega)
           all_goals
             go_wp2_with (first | (go_at_call 113; refine (k1.out _).mono ?_; rintro e w' ⟨rfl, rfl⟩) | (go_at_call 111; refine (k2.out _).mono ?_; rintro e w' ⟨rfl, rfl⟩) | (go_at_call 140; refine (refWrong_any (i + j) 9 _).mono ?_; rintro e' w' ⟨rfl, hw⟩; have hk2 : Told0 w' w.heap.size := (by rw [hw]; exact hk0.out.alloc _); have hb2 : Below w.heap.size w w' := (by rw [hw]; exact hb0.out.alloc hsz _); replace hw := Lib.hid hw; obtain ⟨x0, x1, x2, x3, x4, x5, x6⟩ := told0_cells hk2; obtain ⟨y0, y1, y2, y3, y4, y5, y6⟩ := told0_frozen hk2))
             refine bodyPost_ret (results_cell_row rfl _ _ w.heap.size _ _ (0, 0) _ rfl (told_set7 hk2 _ _ _ _ _ _ _) Tryz.underlying107 rfl (by kernel_rfl)) rfl ⟨?_, below_set7 hb2 (Nat.le_refl _) _ _ _ _ _ _ _⟩;rw [hv.out];simp [resT, toldV]
             try omega
         · rw [hp2] at l2; cases l2
         · rw [hwc, if_pos rfl] at hR
           have hv : V = toldV 0 [] 0 0 0 (i + j) 9 := by rw [← hV.out, hR]; rfl
           replace hv := Lib.hid hv;have k2 := Lib.hid (fun W => calls_at (refLow_any s[i + j] W) l1);clear hR hp2 hwc;rcases a1 with a1 | ⟨a1, a2⟩
           all_goals try (exfalso; have := o2.out; omega)
           all_goals
             go_wp2_with (first | (go_at_call 113; refine (k1.out _).mono ?_; rintro e w' ⟨rfl, rfl⟩) | (go_at_call 111; refine (k2.out _).mono ?_; rintro e w' ⟨rfl, rfl⟩) | (go_at_call 140; refine (refWrong_any (i + j) 9 _).mono ?_; rintro e' w' ⟨rfl, hw⟩; have hk2 : Told0 w' w.heap.size := (by rw [hw]; exact hk0.out.alloc _); have hb2 : Below w.heap.size w w' := (by rw [hw]; exact hb0.out.alloc hsz _); replace hw := Lib.hid hw; obtain ⟨x0, x1, x2, x3, x4, x5, x6⟩ := told0_cells hk2; obtain ⟨y0, y1, y2, y3, y4, y5, y6⟩ := told0_frozen hk2))
             refine bodyPost_ret (results_cell_row rfl _ _ w.heap.size _ _ (0, 0) _ rfl (told_set7 hk2 _ _ _ _ _ _ _) Tryz.underlying107 rfl (by kernel_rfl)) rfl ⟨?_, below_set7 hb2 (Nat.le_refl _) _ _ _ _ _ _ _⟩;rw [hv.out];simp [resT, toldV]
             try omega
         · cases l4
end Go.Proofs.YtngbekhegnmfaaaGreatDoor
namespace Go.Proofs.YtngbekhegnmfaaaGreatDoor
open Go.RowKit Tok
set_option maxRecDepth 20000 in
set_option maxHeartbeats 16000000 in
theorem num_short_ok (s : ByteArray) (i : Nat) (w : World) (hs : s.size ≤ 1000000) (hi : i < s.size) (hd : digC s[i] = true) (h1 : i + span digC (s.data.toList.drop i) < s.size) (h2 : NumOk s i hi) (h3 : wordC s[i + span digC (s.data.toList.drop i)] = false) :
   Calls Tryz.prog 114 #[.string s, .int .i64 i] w fun e w' => e = .returned (resT i (numT (s.data.toList.drop i))) ∧ Below w.heap.size w w' := by
 have hyes := Lib.hid (fun j => span_yes_at (p := digC) (s := s) (i := i) (j := j));have hno := Lib.hid (fun j => span_no_at (p := digC) (s := s) (i := i) (j := j));have hle := span_le (p := digC) (s.data.toList.drop i);rw [List.length_drop, size_list] at hle;have hL := at_drop hi;have hpos : 0 < span digC (s.data.toList.drop i) := by rw [hL]; exact span_pos _ hd
 obtain ⟨hDa, hDl⟩ := span_take9 (p := digC) (s.data.toList.drop i);have hrest : s[i].toNat ≠ 48 ∨ ¬ 1 < span digC (s.data.toList.drop i) → numT (s.data.toList.drop i) = numW ((s.data.toList.drop i).take (span digC (s.data.toList.drop i))) ((s.data.toList.drop i).drop (span digC (s.data.toList.drop i))) (span digC (s.data.toList.drop i)) := by
   intro h;have h1 := numT_rest (r := s.data.toList.drop (i + 1)) hd (by rw [← hL]; exact h);rw [← hL] at h1;exact h1
 have hzero : s[i].toNat = 48 → 1 < span digC (s.data.toList.drop i) → numT (s.data.toList.drop i) = .bad 1 9 := by
   intro h1 h2;rw [hL] at h2 ⊢;exact numT_zero h1 h2
 obtain ⟨V, hV⟩ := exHid (resT i (numT (s.data.toList.drop i)));rw [hV.out];replace hrest := Lib.hid hrest;replace hzero := Lib.hid hzero;have hx := Lib.hid (extract_piece s i (span digC (s.data.toList.drop i)));obtain ⟨D, hD⟩ := exHid ((s.data.toList.drop i).take (span digC (s.data.toList.drop i)));rw [hD.out] at hDa hDl hx hrest;unfold NumOk at h2;rw [hD.out] at h2;obtain ⟨n, hn⟩ := exHid (span digC (s.data.toList.drop i));rw [hn.out] at hyes hno hle hpos hDl hx hrest hzero;rw [hn.out] at h1 h2;have h4 : Hid (∀ q (hq : q < s.size), q = i + n → wordC s[q] = false) := by
   rintro q hq rfl;simp only [hn.out] at h3;exact h3
 clear h3;replace h2 := Lib.hid h2;have hDd : Hid (∀ j (hj : j < n) (hz : i + j < s.size), D.take (j + 1) = D.take j ++ [s[i + j]]) := by
   intro j hj hz;have hjl : j < D.length := by omega
   rw [List.take_succ_eq_append_getElem hjl]
   congr 2
   have hd2 := hD.out;rw [hn.out] at hd2;subst hd2;rw [List.getElem_take, List.getElem_drop];rfl
 have hb0 := Lib.hid ((Below.refl w.heap.size w).alloc (Nat.le_refl _) (.cells #[.int .u8 0, .string ⟨#[]⟩, .int .i64 0, .int .i64 0, .int .i64 0, .int .i64 0, .int .i64 0] 107));have hk0 : Hid (Told0 (w.alloc (.cells #[.int .u8 0, .string ⟨#[]⟩, .int .i64 0, .int .i64 0, .int .i64 0, .int .i64 0, .int .i64 0] 107)) w.heap.size) := heap_alloc_new w _;go_enter Tryz.func114, Tryz.ntmps114
 go_wp2
 generalize hW1 : w.alloc (.cells #[.int .u8 0, .string ⟨#[]⟩, .int .i64 0, .int .i64 0, .int .i64 0, .int .i64 0, .int .i64 0] 107) = W1 at *;have hsz := hb0.out.size;have hlt0 : w.heap.size < W1.heap.size := (Array.getElem?_eq_some_iff.1 hk0.out).1;replace hW1 := Lib.hid hW1;go_loop [5] (fun t5 => ∃ j : Nat, j ≤ n ∧ t5 = .int .i64 ((i + j : Nat) : Int)) (fun t5 => i + n - (intOf t5).toNat)
 case atStart => exact ⟨0, by omega, rfl⟩
 case round =>
   obtain ⟨j, hj, rfl⟩ := hrel;rcases Nat.lt_or_ge j n with hlt | hge
   · obtain ⟨hi2, hp⟩ := hyes.out j hlt
     have hi3 : ((i + j : Nat) : Int) < (s.size : Int) := by omega
     generalize hq : i + j = q at *;have k1 := Lib.hid (fun W => calls_at (refDig_any s[q] W) hp);clear hp;go_wp2_with fail
     refine (k1.out _).mono ?_;rintro e w' ⟨rfl, rfl⟩;go_wp2
     go_round
     case rel => exact ⟨j + 1, by omega, by rw [show i + (j + 1) = q + 1 by omega]; go_num⟩
     case measure => simp [intOf]; omega
   · obtain rfl : j = n := by omega
     have hA : (((s[i].toNat : Int) == 48) = true ∧ (i : Int) + 1 < ((i + j : Nat) : Int) ∧ V = toldV 0 [] 0 0 0 (i + 1) 9) ∨ ((((s[i].toNat : Int) == 48) = false ∨ (((s[i].toNat : Int) == 48) = true ∧ ¬ (i : Int) + 1 < ((i + j : Nat) : Int))) ∧ (s[i].toNat ≠ 48 ∨ ¬ 1 < j)) := by
       by_cases h48 : s[i].toNat = 48
       · by_cases h1 : 1 < j
         · left
           refine ⟨by rw [h48]; rfl, by omega, ?_⟩;rw [← hV.out, hzero.out h48 h1]; rfl
         · right
           exact ⟨.inr ⟨by rw [h48]; rfl, by omega⟩, .inr h1⟩
       · right
         exact ⟨.inl (beq_eq_false_iff_ne.2 (by omega)), .inl h48⟩
     have hO := over_w hDl;have hji : ((i + j : Nat) : Int) - (i : Int) = (j : Int) := by omega
     have hiq : (i : Int) ≤ ((i + j : Nat) : Int) := by omega
     have hqs : ((i + j : Nat) : Int) ≤ (s.size : Int) := by omega
     have hz2 : i + j < s.size := h1;have hp2 := hno.out j rfl hz2;have hz3 : ((i + j : Nat) : Int) < (s.size : Int) := by omega
     have k1 := Lib.hid (fun W => calls_at (refDig_any s[i + j] W) hp2);rcases hA with ⟨a1, a2, hv⟩ | ⟨a1, a2⟩
     · exfalso
       have q1 := h2.out.1;have q2 := beq_iff_eq.1 a1;omega
     · have hR := hrest.out a2
       unfold numW at hR;clear hrest hzero;rcases hO with ⟨o1, o2⟩ | ⟨o1, o2, o3, o4⟩ | ⟨o1, o2⟩ | ⟨o1, o2, o3⟩ | ⟨o1, o2, o3, o4⟩
       case inl => exfalso; have q := h2.out.2; rw [o1] at q; cases q
       case inr.inl => exfalso; have q := h2.out.2; rw [o1] at q; cases q
       all_goals
         clear a2;rw [o1, if_neg (by simp)] at hR;have hmax := Lib.hid (over_max hDa o1);have o2i : ¬ (19 : Int) < (i : Int) + (j : Int) - (i : Int) := by omega
         first
         | (have o2j : ((i : Int) + (j : Int) - (i : Int) == 19) = false := beq_eq_false_iff_ne.2 (by omega))
         | (have o2j : ((i : Int) + (j : Int) - (i : Int) == 19) = true := beq_iff_eq.2 (by omega); have hxx := hx.out; unfold maxL at o3; try unfold maxL at o4)
         replace o2 := Lib.hid o2;rw [List.drop_drop, at_drop hz2] at hR;simp only at hR;have hw2 := refW_of (h4.out (i + j) hz2 rfl);have hwc := h4.out (i + j) hz2 rfl;rcases hw2 with ⟨l1, l4⟩ | ⟨l1, l2, l4⟩ | ⟨l1, l2, l3, l4⟩ | ⟨l1, l2, l3, l4⟩
         · cases l4
         · cases l4
         · cases l4
         · rw [hwc, if_neg (by simp)] at hR
           have k2 := Lib.hid (fun W => calls_at (refLow_any s[i + j] W) l1);have hv : V = toldV 2 [] (numV D) i (i + j) 0 0 := by rw [← hV.out, hR]; rfl
           replace hv := Lib.hid hv;clear hR hp2 hwc;rcases a1 with a1 | ⟨a1, a2⟩
           all_goals try (exfalso; have := o2.out; omega)
           all_goals
             go_wp2_with (first | (go_at_call 113; refine (k1.out _).mono ?_; rintro e w' ⟨rfl, rfl⟩) | (go_at_call 111; refine (k2.out _).mono ?_; rintro e w' ⟨rfl, rfl⟩))
             go_loop [6, 7] (fun t6 t7 => ∃ m : Nat, m ≤ j ∧ t6 = .int .i64 ((numV (D.take m) : Nat) : Int) ∧ t7 = .int .i64 ((i + m : Nat) : Int)) (fun _ t7 => i + j - (intOf t7).toNat)
             case atStart => exact ⟨0, by omega, by simp [numV], rfl⟩
             case round =>
               obtain ⟨m, hm, rfl, rfl⟩ := hrel;rcases Nat.lt_or_ge m j with hmj | hmj
               · obtain ⟨hz, hpm⟩ := hyes.out m hmj
                 have hmi : ((i + m : Nat) : Int) < ((i + j : Nat) : Int) := by omega
                 have hmz : ((i + m : Nat) : Int) < (s.size : Int) := by omega
                 have hnext : numV (D.take (m + 1)) = 10 * numV (D.take m) + (s[i + m].toNat - 48) := by rw [hDd.out m hmj hz, numV_snoc]
                 have hmost : numV (D.take (m + 1)) ≤ 9223372036854775807 := Nat.le_trans numV_take_le hmax.out;have hdg := of_decide_eq_true hpm;have hc8 : IntKind.u8.wrap ((s[i + m].toNat : Int) - 48) = (s[i + m].toNat : Int) - 48 := by rw [IntKind.wrap_u8']; omega
                 rw [hnext] at hmost;clear hpm;replace hnext := Lib.hid hnext;generalize numV (D.take m) = x at *;go_wp2
                 go_round
                 case rel => exact ⟨m + 1, by omega, by rw [hnext.out]; go_num <;> omega, by rw [show i + (m + 1) = i + m + 1 by omega]; go_num⟩
                 case measure => simp [intOf]; omega
               · obtain rfl : m = j := by omega
                 have hmi : ¬ ((i + m : Nat) : Int) < ((i + m : Nat) : Int) := by omega
                 have hfull : D.take m = D := List.take_of_length_le (by omega);rw [hfull];generalize numV D = x at *;obtain ⟨x0, x1, x2, x3, x4, x5, x6⟩ := told0_cells hk0.out;obtain ⟨y0, y1, y2, y3, y4, y5, y6⟩ := told0_frozen hk0.out;go_wp2
                 refine bodyPost_ret (results_cell_row rfl _ _ w.heap.size _ _ (0, 0) _ rfl (told_set7 hk0.out _ _ _ _ _ _ _) Tryz.underlying107 rfl (by kernel_rfl)) rfl ⟨?_, below_set7 hb0.out (Nat.le_refl _) _ _ _ _ _ _ _⟩;rw [hv.out];simp [resT, toldV]
                 try omega
end Go.Proofs.YtngbekhegnmfaaaGreatDoor
