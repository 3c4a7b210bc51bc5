/- A part of the proof: TEsc, TPut, TPut2, TSign, TTold, TPut3, TSpell. No condition. -/
import Derived.Deep.AppendLies
import Derived.Deep.RegionLaw
import Derived.Lib.AppendStr
import Derived.Lib.ItoaLen
import Derived.Lib.ItoaMem
import Derived.Test.YtjiemkidmlgbeaaGreatDoorQ01
import Derived.Test.YtjiemkidmlgbeaaGreatDoorQ03
import Derived.Test.YtjiemkidmlgbeaaGreatDoorQ04
import Derived.Test.YtjiemkidmlgbeaaGreatDoorQ05
set_option linter.unusedVariables false
set_option linter.unusedSimpArgs false
namespace Go.Proofs.YtjiemkidmlgbeaaGreatDoor.Tok
open Go.Proofs.YtjiemkidmlgbeaaGreatDoor
def hexD (x : Nat) : UInt8 := if x < 10 then (48 + x).toUInt8 else (87 + x).toUInt8
def escL (c : UInt8) : List UInt8 :=
 if c.toNat = 34 ∨ c.toNat = 92 then [92, c]
 else if c.toNat = 10 then [92, 110]
 else if plainC c then [c]
 else [92, 120, hexD (c.toNat / 16), hexD (c.toNat % 16)]
def textL (tx : List UInt8) : List UInt8 := 34 :: (tx.flatMap escL ++ [34])
end Go.Proofs.YtjiemkidmlgbeaaGreatDoor.Tok
namespace Go.Proofs.YtjiemkidmlgbeaaGreatDoor
open Go.RowKit Tok
section
variable {w W : World} {base : Nat} {v : Value} {l : List UInt8}
theorem wpList_append_us {ops : Array Oper} {rest : List Oper} {o : Oper} {a : Act} {Q : Exit → Act → World → Prop} (hgd : o.guard = none) (s x : Operand)
   (ho : o.op = .call { callee := .builtin .append, args := #[s, x], argTypes := #[56, 56] })
   (hs : a.eval s = v) (hown : BufU w base v l) (m : List UInt8) {w2 : World} (hw : w = w2.alloc (.cells (Lib.byteCells m).toArray 5)) (hx : a.eval x = .slice (some ⟨w2.heap.size, 0, none⟩) m.length m.length)
   (hk : l.length + m.length ≤ 1000000000) (hbase : base ≤ w.heap.size)
   (h : ∀ a' cap w', BufU w' base (.slice a' (l.length + m.length) cap) (l ++ m) → Below base w w' → wpList Tryz.prog ops Q rest (a.put o.dst (.slice a' (l.length + m.length) cap)) w') : wpList Tryz.prog ops Q (o :: rest) a w := by
 obtain ⟨i0, hi, hz0, hz1, hz2⟩ := u8_parts;subst hw;refine wpList_append_own_at _ hgd s x 56 ho base 5 i0 (.int .u8 0) 1 1 Tryz.underlying56 hi hz0 hz1 hz2 rfl (by decide) v l.length (Lib.byteCells l) hs hown ⟨w2.heap.size, 0, none⟩ m.length m.length (Lib.byteCells m) hx (by rw [Lib.byteCells_length]; omega) (fun j u hj => cells_new w2 (Lib.byteCells m) _ j u hj) (byteCells_one m) (by unfold maxLen; omega) (by omega) hbase ?_;intro v' w' h2 h3 _ _;obtain ⟨a', cap, rfl, _⟩ := ownsRow_shape h2;refine h a' cap w' ?_ ((Below.refl base _).grown h3 hbase (fun k hk => (World.ownsRow.lt hown k hk).1));unfold BufU;rw [List.length_append, show Lib.byteCells (l ++ m) = Lib.byteCells l ++ Lib.byteCells m by simp [Lib.byteCells]];exact h2
def PutU (w : World) (base : Nat) (l : List UInt8) (e : Ending) (w' : World) : Prop := ∃ v', e = .returned v' ∧ BufU w' base v' l ∧ Below base w w'
def hxV (x : Int) (h0 : 0 ≤ x) (h1 : x < 16) : Value := .int .u8 (((⟨#[48, 49, 50, 51, 52, 53, 54, 55, 56, 57, 97, 98, 99, 100, 101, 102]⟩ : ByteArray)[x.toNat]'(by show x.toNat < 16; omega)).toNat : Int)
theorem hx_eq (n : Nat) (x : Int) (h0 : 0 ≤ x) (h1 : x < 16) (hn : x = (n : Int)) : hxV x h0 h1 = .int .u8 ((hexD n).toNat : Int) := by
 subst hn;have key : ∀ m, (h : m < 16) → (⟨#[48, 49, 50, 51, 52, 53, 54, 55, 56, 57, 97, 98, 99, 100, 101, 102]⟩ : ByteArray)[m]'h = hexD m := by decide +kernel
 unfold hxV;simp only [Int.toNat_natCast];rw [key n (by omega)]
theorem hx_one (x y : Int) (h0 : 0 ≤ x) (h1 : x < 16) (h2 : 0 ≤ y) (h3 : y < 16) : ∀ u ∈ [Value.int .u8 92, .int .u8 120, hxV x h0 h1, hxV y h2 h3], u.oneCell' = true := by
 intro u hu;simp only [List.mem_cons, List.not_mem_nil, or_false] at hu;rcases hu with rfl | rfl | rfl | rfl <;> rfl
theorem and_all (c : UInt8) : bits BinOp.and IntKind.u8 (c.toNat : Int) 15 = (c.toNat : Int) % 16 := by
 revert c
 refine byte_all ?_
 decide +kernel
set_option maxRecDepth 20000 in
set_option maxHeartbeats 2000000 in
theorem putByte_any (h : BufU w base v l) (hb : base ≤ w.heap.size) (hl : l.length ≤ 100000000) (c : UInt8) :
   Calls Tryz.prog 69 #[v, .int .u8 (c.toNat : Int)] w (PutU w base (l ++ escL c)) := by
 have hsh := h.shape;have hB := Lib.hid (fun (m : List UInt8) => BufU.below h ((Below.refl w.heap.size w).alloc (Nat.le_refl _) (.cells (Lib.byteCells m).toArray 5)));by_cases h1 : c.toNat = 34 ∨ c.toNat = 92
 · have he : escL c = [92, c] := if_pos h1
   rw [he];have hq : (((c.toNat : Int) == 34) = true) ∨ ((((c.toNat : Int) == 34) = false) ∧ (((c.toNat : Int) == 92) = true)) := by
     rcases h1 with h1 | h1
     · left; rw [h1]; rfl
     · right; rw [h1]; exact ⟨rfl, rfl⟩
   clear h1 he;rcases hq with q1 | ⟨q1, q2⟩
   all_goals
     go_enter Tryz.func69, Tryz.ntmps69
     go_wp2_with (at_builtin; (refine wpList_append_us rfl _ _ rfl rfl (hB.out [92, c]) [92, c] rfl rfl (by simp; omega) (by simp; omega) ?_; intro a' cap' w3 hB3 hO3))
     go_ret
     exact ⟨_, rfl, hB3, ((Below.refl base w).alloc hb _).trans hO3⟩
 · have n1 : ((c.toNat : Int) == 34) = false := beq_eq_false_iff_ne.2 (by omega)
   have n2 : ((c.toNat : Int) == 92) = false := beq_eq_false_iff_ne.2 (by omega);by_cases h2 : c.toNat = 10
   · have he : escL c = [92, 110] := by unfold escL; rw [if_neg h1, if_pos h2]
     rw [he];have q1 : ((c.toNat : Int) == 10) = true := by rw [h2]; rfl
     clear h1 he;replace h2 := Lib.hid h2;go_enter Tryz.func69, Tryz.ntmps69
     go_wp2_with (at_builtin; (refine wpList_append_us rfl _ _ rfl rfl (hB.out [92, 110]) [92, 110] rfl rfl (by simp; omega) (by simp; omega) ?_; intro a' cap' w3 hB3 hO3))
     go_ret
     exact ⟨_, rfl, hB3, ((Below.refl base w).alloc hb _).trans hO3⟩
   · have q1 : ((c.toNat : Int) == 10) = false := beq_eq_false_iff_ne.2 (by omega)
     rcases hp : plainC c with _ | _
     · have k1 := Lib.hid (fun W => calls_at (isPlain_any c W) hp)
       have he : escL c = [92, 120, hexD (c.toNat / 16), hexD (c.toNat % 16)] := by unfold escL; rw [if_neg h1, if_neg h2, if_neg (by rw [hp]; simp)]
       rw [he];clear h1 h2 hp he;go_enter Tryz.func69, Tryz.ntmps69
       go_wp2_with fail
       refine (k1.out _).mono ?_;rintro e w2 ⟨rfl, rfl⟩;obtain ⟨i0, hi, hz0, hz1, hz2⟩ := u8_parts;have b1 : (0 : Int) ≤ (c.toNat : Int) / 16 := by omega
       have b2 : (c.toNat : Int) / 16 < 16 := by have := UInt8.toNat_lt c; omega
       have hand : bits BinOp.and IntKind.u8 (c.toNat : Int) 15 = (c.toNat : Int) % 16 := and_all c;have b3 : (0 : Int) ≤ (c.toNat : Int) % 16 := by omega
       have b4 : (c.toNat : Int) % 16 < 16 := by omega
       have hown := Lib.hid (fun W (hW : Below w2.heap.size w2 W) => BufU.below h hW);go_wp2_with fail
       go_region_law ((refine step_append_lies (w2.drew.alloc (.cells #[.int .u8 92, .int .u8 120, hxV ((c.toNat : Int) / 16) b1 b2, hxV ((c.toNat : Int) % 16) b3 b4] 5)) rfl (.tmp 26) (.tmp 33) 56 rfl base 5 i0 (.int .u8 0) 1 1 Tryz.underlying56 hi hz0 hz1 hz2 rfl (by decide) v l.length (Lib.byteCells l) rfl (hown.out _ ((Below.refl _ w2).drew.alloc (Nat.le_refl _) _)) ⟨w2.heap.size, 0, none⟩ 4 4 [.int .u8 92, .int .u8 120, hxV ((c.toNat : Int) / 16) b1 b2, hxV ((c.toNat : Int) % 16) b3 b4] rfl rfl (fun j u hj => cells_new w2.drew _ _ j u hj) (hx_one _ _ _ _ _ _) (by omega) (by unfold maxLen; omega) (by omega) (by simp; omega) _ rfl ?_; intro g cap w3 h2 h3 _ _))
       all_goals
         go_wp2_with fail
         go_ret
         refine ⟨_, rfl, ?_, ((Below.refl base w2).drew.alloc hb _).grown h3 (by simp; omega) (fun k hk => (World.ownsRow.lt h k hk).1)⟩;rw [hx_eq (c.toNat / 16) _ b1 b2 (by omega), hx_eq (c.toNat % 16) _ b3 b4 (by omega)] at h2;unfold BufU;rw [List.length_append, show Lib.byteCells (l ++ [92, 120, hexD (c.toNat / 16), hexD (c.toNat % 16)]) = Lib.byteCells l ++ Lib.byteCells [92, 120, hexD (c.toNat / 16), hexD (c.toNat % 16)] by simp [Lib.byteCells]];exact h2
     · have k1 := Lib.hid (fun W => calls_at (isPlain_any c W) hp)
       have he : escL c = [c] := by unfold escL; rw [if_neg h1, if_neg h2, if_pos hp]
       rw [he];clear h1 h2 hp he;go_enter Tryz.func69, Tryz.ntmps69
       go_wp2_with fail
       refine (k1.out _).mono ?_;rintro e w2 ⟨rfl, rfl⟩;go_wp2_with (at_builtin; (refine wpList_append_us rfl _ _ rfl rfl (hB.out [c]) [c] rfl rfl (by simp; omega) (by simp; omega) ?_; intro a' cap' w3 hB3 hO3))
       go_ret
       exact ⟨_, rfl, hB3, ((Below.refl base _).alloc hb _).trans hO3⟩
end
end Go.Proofs.YtjiemkidmlgbeaaGreatDoor
namespace Go.Proofs.YtjiemkidmlgbeaaGreatDoor
open Go.RowKit Tok
theorem escL_len (c : UInt8) : (escL c).length ≤ 4 := by
 unfold escL
 repeat' split
 all_goals simp
theorem esc_take {s : ByteArray} {i : Nat} (h : i < s.size) : (s.data.toList.take (i + 1)).flatMap escL = (s.data.toList.take i).flatMap escL ++ escL s[i] := by
 rw [List.take_succ_eq_append_getElem (by simpa using h), List.flatMap_append];simp
 rfl
theorem esc_len : ∀ tx : List UInt8, (tx.flatMap escL).length ≤ 4 * tx.length
 | [] => by simp
 | c :: tx => by
   have h1 := escL_len c;have h2 := esc_len tx;rw [List.flatMap_cons, List.length_append, List.length_cons];omega
section
variable {w W : World} {base : Nat} {v : Value} {l : List UInt8}
set_option maxRecDepth 20000 in
set_option maxHeartbeats 2000000 in
theorem putText_any (h : BufU w base v l) (hb : base ≤ w.heap.size) (s : ByteArray) (hl : l.length + 4 * s.size ≤ 90000000) :
   Calls Tryz.prog 45 #[v, .string s] w (PutU w base (l ++ textL s.data.toList)) := by
 have hsh := h.shape;have hB := Lib.hid (BufU.below h ((Below.refl w.heap.size w).alloc (Nat.le_refl _) (.cells (Lib.byteCells [34]).toArray 5)));go_enter Tryz.func45, Tryz.ntmps45
 go_wp2_with (at_builtin; (refine wpList_append_us rfl _ _ rfl rfl hB.out [34] rfl rfl (by simp; omega) (by simp; omega) ?_; intro a' cap' w3 hB3 hO3))
 replace hB3 := Lib.hid hB3;have hO4 := Lib.hid (((Below.refl base w).alloc hb (.cells (Lib.byteCells [34]).toArray 5)).trans hO3);clear hO3;go_loopw [0, 5, 11] (fun t0 _ t11 wr => ∃ i : Nat, i ≤ s.size ∧ t11 = .int .i64 i ∧ Hid (BufU wr base t0 (l ++ 34 :: (s.data.toList.take i).flatMap escL)) ∧ Hid (Below base w wr)) (fun _ _ t11 _ => s.size - (intOf t11).toNat)
 case atStart => exact ⟨0, by omega, rfl, by simpa using hB3, hO4⟩
 case round =>
   obtain ⟨i, hi, rfl, hBi, hOi⟩ := hrel;have hbr : base ≤ wr.heap.size := Nat.le_trans hb hOi.out.size;have hlen := esc_len (s.data.toList.take i);rw [List.length_take, size_list, Nat.min_eq_left hi] at hlen;have hX : (l ++ 34 :: (s.data.toList.take i).flatMap escL).length ≤ l.length + 1 + 4 * i := by
     rw [List.length_append, List.length_cons];omega
   rcases Nat.lt_or_ge i s.size with hlt | hge
   · have hlti : ((i : Int) < (s.size : Int)) := by omega
     have hn : (l ++ 34 :: (s.data.toList.take (i + 1)).flatMap escL) = (l ++ 34 :: (s.data.toList.take i).flatMap escL) ++ escL s[i] := by
       rw [esc_take hlt];simp
     generalize l ++ 34 :: (s.data.toList.take i).flatMap escL = X at hBi hX hn;replace hn := Lib.hid hn;have k1 := Lib.hid (putByte_any hBi.out hbr (by omega) s[i]);obtain ⟨a0, c0, rfl, _, _⟩ := hBi.out.shape;go_wp2_with fail
     refine k1.out.mono ?_;rintro e w2 ⟨v2, rfl, hB2, hO2⟩;replace hB2 := Lib.hid hB2;replace hO2 := Lib.hid hO2;clear k1 hlen;go_wp2
     go_roundw
     case rel => exact ⟨i + 1, by omega, by simp, by rw [hn.out]; exact hB2, hOi.out.trans hO2.out⟩
     case measure => simp [intOf]; omega
   · obtain rfl : i = s.size := by omega
     have hfull : s.data.toList.take s.size = s.data.toList := by rw [List.take_of_length_le]; simp
     have hn : l ++ textL s.data.toList = (l ++ 34 :: (s.data.toList.take s.size).flatMap escL) ++ [34] := by
       rw [hfull];simp [textL]
     replace hn := Lib.hid hn;clear hlen hfull;generalize l ++ 34 :: (s.data.toList.take s.size).flatMap escL = X at hBi hX hn;have hB5 := Lib.hid (BufU.below hBi.out ((Below.refl wr.heap.size wr).alloc (Nat.le_refl _) (.cells (Lib.byteCells [34]).toArray 5)));obtain ⟨a0, c0, rfl, _, _⟩ := hBi.out.shape;go_wp2_with (at_builtin; (refine wpList_append_us rfl _ _ rfl rfl hB5.out [34] rfl rfl (by simp; omega) (by simp; omega) ?_; intro a6 cap6 w6 hB6 hO6))
     go_ret
     refine ⟨_, rfl, ?_, hOi.out.trans (((Below.refl base wr).alloc hbr _).trans hO6)⟩;rw [hn.out];exact hB6
end
end Go.Proofs.YtjiemkidmlgbeaaGreatDoor
namespace Go.Proofs.YtjiemkidmlgbeaaGreatDoor
open Go.RowKit Tok
theorem sign_from {j : Nat} (hj : j < 17) (S : List UInt8) : decide (S ∈ signs.drop j) = (decide (S = signs.getD j []) || decide (S ∈ signs.drop (j + 1))) := by
 have hl : j < signs.length := hj;have e : signs.getD j [] = signs[j] := by rw [List.getD_eq_getElem?_getD, List.getElem?_eq_getElem hl]; rfl
 rw [List.drop_eq_getElem_cons hl, e];generalize signs[j] = T;generalize List.drop (j + 1) signs = L;by_cases h1 : S = T
 · rw [decide_eq_true h1, decide_eq_true (List.mem_cons.2 (.inl h1))]; rfl
 · rw [decide_eq_false h1, Bool.false_or]
   exact decide_eq_decide.2 ⟨fun h => (List.mem_cons.1 h).resolve_left h1, fun h => List.mem_cons.2 (.inr h)⟩
set_option maxRecDepth 20000 in
set_option maxHeartbeats 2000000 in
theorem isSign_any (S : List UInt8) (w : World) (hS : SignsOK w) :
   Calls Tryz.prog 43 #[.string ⟨S.toArray⟩] w fun e w' => e = .returned (.bool (decide (S ∈ signs))) ∧ w' = w := by
 obtain ⟨B, hB⟩ := exHid (decide (S ∈ signs));rw [hB.out];have s0 := hS 0 (by omega); have s1 := hS 1 (by omega); have s2 := hS 2 (by omega); have s3 := hS 3 (by omega); have s4 := hS 4 (by omega); have s5 := hS 5 (by omega); have s6 := hS 6 (by omega); have s7 := hS 7 (by omega); have s8 := hS 8 (by omega); have s9 := hS 9 (by omega); have s10 := hS 10 (by omega); have s11 := hS 11 (by omega); have s12 := hS 12 (by omega); have s13 := hS 13 (by omega); have s14 := hS 14 (by omega); have s15 := hS 15 (by omega); have s16 := hS 16 (by omega);simp only [signs, List.getD_cons_zero, List.getD_cons_succ] at s0 s1 s2 s3 s4 s5 s6 s7 s8 s9 s10 s11 s12 s13 s14 s15 s16;clear hS;go_enter Tryz.func43, Tryz.ntmps43
 go_wp2
 clear s0 s1 s2 s3 s4 s5 s6 s7 s8 s9 s10 s11 s12 s13 s14 s15 s16;go_loop [4, 6] (fun t4 t6 => ∃ j : Nat, j ≤ 17 ∧ t6 = .int .i64 j ∧ Hid (decide (S ∈ signs.drop j) = B)) (fun _ t6 => 17 - (intOf t6).toNat)
 case atStart => exact ⟨0, by omega, rfl, by simpa using hB⟩
 case round =>
   obtain ⟨j, hj, rfl, hsg⟩ := hrel;rcases Nat.lt_or_ge j 17 with hjl | hjg
   · have hjli : (j : Int) < 17 := by omega
     have hix := index_sign hjl w;unfold signsV at hix;have hst := sign_from hjl S;rw [hsg.out] at hst;generalize signs.getD j [] = T at *;by_cases hq : S = T
     · have hv : B = true := by rw [hst, decide_eq_true hq]; rfl
       have e1 : (S == T) = true := beq_iff_eq.2 hq;replace hv := Lib.hid hv;replace hst := Lib.hid hst;replace hq := Lib.hid hq;go_wp2
       go_ret
       exact ⟨ret_bool (by rw [hv.out]), rfl⟩
     · have e1 : (S == T) = false := beq_eq_false_iff_ne.2 hq
       rw [decide_eq_false hq, Bool.false_or] at hst;have hst' := Lib.hid hst.symm;clear hst;replace hq := Lib.hid hq;go_wp2
       go_round
       case rel => exact ⟨j + 1, by omega, by go_num, hst'⟩
       case measure => simp [intOf]; omega
   · obtain rfl : j = 17 := by omega
     have hv : B = false := by
       rw [← hsg.out];exact decide_eq_false (by simp [signs])
     replace hv := Lib.hid hv;go_wp2
     go_ret
     exact ⟨ret_bool (by rw [hv.out]), rfl⟩
end Go.Proofs.YtjiemkidmlgbeaaGreatDoor
namespace Go.Proofs.YtjiemkidmlgbeaaGreatDoor
open Go.RowKit Tok
theorem tname_at {tx : List UInt8} {b : Bool} (h : nameL tx = b) (hl : tx.length ≤ 9223372036854775807) (W : World) :
   Calls Tryz.prog 42 #[.string ⟨tx.toArray⟩] W fun e w' => e = .returned (.bool b) ∧ w' = W := by
 have h1 := name_any ⟨tx.toArray⟩ W (by simp [ByteArray.size]; omega);refine h1.mono fun e w' ⟨he, hw⟩ => ⟨?_, hw.symm⟩
 rw [he];exact ret_bool (by simpa using h)
theorem sign_at {tx : List UInt8} {b : Bool} (h : decide (tx ∈ signs) = b) (W : World) (hS : SignsOK W) :
   Calls Tryz.prog 43 #[.string ⟨tx.toArray⟩] W fun e w' => e = .returned (.bool b) ∧ w' = W := by
 have h1 := isSign_any tx W hS;rw [h] at h1;exact h1
theorem tx_none (tx : List UInt8) {b : Bool} (h : decide (tx = []) = b) : (tx == []) = b := by
 subst h;by_cases hx : tx = []
 · rw [hx]; rfl
 · rw [decide_eq_false hx]; exact beq_eq_false_iff_ne.2 hx
theorem len_most (tx : List UInt8) {b : Bool} (h : decide (tx.length ≤ 4095) = b) : decide ((tx.length : Int) ≤ 4095) = b := by
 rw [← h];exact decide_eq_decide.2 (by omega)
theorem num_none (x : Int) {b : Bool} (h : decide (x = 0) = b) : (x == 0) = b := by
 subst h;by_cases hx : x = 0
 · rw [hx]; rfl
 · rw [decide_eq_false hx]; exact beq_eq_false_iff_ne.2 hx
set_option maxRecDepth 20000 in
set_option maxHeartbeats 4000000 in
theorem isTold_any (t : Tg) (w : World) (hS : SignsOK w) (hl : t.text.length ≤ 9223372036854775807) :
   Calls Tryz.prog 21 #[tgV t] w fun e w' => e = .returned (.bool (told t)) ∧ Below w.heap.size w w' := by
 obtain ⟨kd, tx, x, at_⟩ := t;obtain ⟨B, hB⟩ := exHid (told ⟨kd, tx, x, at_⟩);rw [hB.out];unfold tgV; dsimp only at *;have hk := Below.refl w.heap.size w;have hB' := hB.out;unfold told at hB'; dsimp only at hB';clear hB;by_cases c1 : kd = 1
 · subst c1; rw [if_pos rfl] at hB'
   rcases hn : nameL tx with _ | _ <;> rcases hx : decide (x = 0) with _ | _
   all_goals
     rw [hn, hx] at hB';have kN := Lib.hid (fun W => tname_at hn hl W);replace hB' := Lib.hid hB';have q := num_none x hx;clear hn hx hS;go_enter Tryz.func21, Tryz.ntmps21
     go_wp2
     go_region_with (go_at_call 42; refine (kN.out _).mono ?_; rintro e w' ⟨rfl, rfl⟩)
     all_goals
       go_wp2
       go_ret
       exact ⟨ret_bool (by rw [← hB'.out]; try rfl), by go_grown⟩
 · rw [if_neg c1] at hB'
   have n1 : ((kd : Int) == 1) = false := beq_eq_false_iff_ne.2 (by omega);by_cases c2 : kd = 2
   · subst c2; rw [if_pos rfl] at hB'
     rcases hn : decide (0 ≤ x) with _ | _ <;> rcases hx : decide (tx = []) with _ | _
     all_goals
       rw [hn, hx] at hB';replace hB' := Lib.hid hB';have q := tx_none tx hx;replace hx := Lib.hid hx;clear hS;go_enter Tryz.func21, Tryz.ntmps21
       go_wp2
       go_region
       all_goals
         go_wp2
         go_ret
         exact ⟨ret_bool (by rw [← hB'.out]; try rfl), by go_grown⟩
   · rw [if_neg c2] at hB'
     have n2 : ((kd : Int) == 2) = false := beq_eq_false_iff_ne.2 (by omega);by_cases c3 : kd = 3
     · subst c3; rw [if_pos rfl] at hB'
       rcases hn : decide (tx.length ≤ 4095) with _ | _ <;> rcases hx : decide (x = 0) with _ | _
       all_goals
         rw [hn, hx] at hB';replace hB' := Lib.hid hB';have q := num_none x hx;have q2 := len_most tx hn;clear hn hx hS;go_enter Tryz.func21, Tryz.ntmps21
         go_wp2
         go_region
         all_goals
           go_wp2
           go_ret
           exact ⟨ret_bool (by rw [← hB'.out]; try rfl), by go_grown⟩
     · rw [if_neg c3] at hB'
       have n3 : ((kd : Int) == 3) = false := beq_eq_false_iff_ne.2 (by omega);by_cases c4 : kd = 4
       · subst c4; rw [if_pos rfl] at hB'
         rcases hn : decide (tx ∈ signs) with _ | _ <;> rcases hx : decide (x = 0) with _ | _
         all_goals
           rw [hn, hx] at hB';have kS := Lib.hid (fun W (hW : Below w.heap.size w W) => sign_at hn W (hS.below hW));replace hB' := Lib.hid hB';have q := num_none x hx;clear hn hx hS;go_enter Tryz.func21, Tryz.ntmps21
           go_wp2
           go_region_with (go_at_call 43; refine (kS.out _ (by go_grown)).mono ?_; rintro e w' ⟨rfl, rfl⟩)
           all_goals
             go_wp2
             go_ret
             exact ⟨ret_bool (by rw [← hB'.out]; try rfl), by go_grown⟩
       · rw [if_neg c4] at hB'
         have n4 : ((kd : Int) == 4) = false := beq_eq_false_iff_ne.2 (by omega);replace hB' := Lib.hid hB';clear hS;go_enter Tryz.func21, Tryz.ntmps21
         go_wp2
         go_ret
         exact ⟨ret_bool (by rw [← hB'.out]; try rfl), by go_grown⟩
end Go.Proofs.YtjiemkidmlgbeaaGreatDoor
namespace Go.Proofs.YtjiemkidmlgbeaaGreatDoor
open Go.RowKit Tok
def spellL (t : Tg) : List UInt8 := if t.kind = 2 then Lib.itoa t.num else if t.kind = 3 then textL t.text else t.text
abbrev PowOK (base : Nat) (w : World) : Prop := Lib.TabBelow Tryz.prog base w "internal/strconv.uint64pow10" .u64 Lib.pow10Tab
section
variable {w W : World} {base : Nat} {v : Value} {l : List UInt8}
theorem strCells_eq (m : List UInt8) : Lib.strCells ⟨m.toArray⟩ = Lib.byteCells m := by
 simp [Lib.strCells, Lib.byteCells]
theorem wpList_append_ustr {ops : Array Oper} {rest : List Oper} {o : Oper} {a : Act} {Q : Exit → Act → World → Prop} (hgd : o.guard = none) (s x : Operand)
   (ho : o.op = .call { callee := .builtin .append, args := #[s, x], argTypes := #[56, 9] })
   (hs : a.eval s = v) (hown : BufU w base v l) (m : List UInt8) (hx : a.eval x = .string ⟨m.toArray⟩)
   (hk : l.length + m.length ≤ 1000000000) (hbase : base ≤ w.heap.size)
   (h : ∀ a' cap w', BufU w' base (.slice a' (l.length + m.length) cap) (l ++ m) → Below base w w' → wpList Tryz.prog ops Q rest (a.put o.dst (.slice a' (l.length + m.length) cap)) w') : wpList Tryz.prog ops Q (o :: rest) a w := by
 obtain ⟨i0, hi, hz0, hz1, hz2⟩ := u8_parts;have hsz : (⟨m.toArray⟩ : ByteArray).size = m.length := by simp [ByteArray.size]
 refine Lib.wpList_append_own_string w hgd s x 56 9 ho base 5 i0 Tryz.underlying56 Tryz.underlying9 hi hz0 hz1 hz2 v l.length (Lib.byteCells l) hs hown ⟨m.toArray⟩ hx (by rw [hsz]; unfold maxLen; omega) (by rw [hsz]; omega) hbase ?_;intro v' w' h2 h3 _;rw [hsz, strCells_eq] at h2;obtain ⟨a', cap, rfl, _⟩ := ownsRow_shape h2;refine h a' cap w' ?_ ((Below.refl base _).grown h3 hbase (fun k hk => (World.ownsRow.lt hown k hk).1));unfold BufU;rw [List.length_append, show Lib.byteCells (l ++ m) = Lib.byteCells l ++ Lib.byteCells m by simp [Lib.byteCells]];exact h2
theorem append_int (h : BufU w base v l) (hb : base ≤ w.heap.size) (hl : l.length ≤ 1000000000) {x : Int} (hx : I64 x) (hT : PowOK base w) :
   Calls Tryz.prog 44 #[v, .int .i64 x, .int .i64 10] w (PutU w base (l ++ Lib.itoa x)) := by
 refine (Tryz.strconv_AppendInt_10 base l.length x hx.1 hx.2 v (Lib.byteCells l) w h hb (by omega) hT).mono ?_;rintro e w2 ⟨v', rfl, h2, h3, _⟩;refine ⟨v', rfl, ?_, h3⟩;unfold BufU;rw [List.length_append, show Lib.byteCells (l ++ Lib.itoa x) = Lib.byteCells l ++ Lib.byteCells (Lib.itoa x) by simp [Lib.byteCells]];exact h2
set_option maxRecDepth 20000 in
set_option maxHeartbeats 2000000 in
theorem putToken_any (h : BufU w base v l) (hb : base ≤ w.heap.size) (t : Tg) (hx : I64 t.num) (hl : l.length + 4 * t.text.length ≤ 80000000) (hT : PowOK base w) :
   Calls Tryz.prog 22 #[v, tgV t] w (PutU w base (l ++ spellL t)) := by
 obtain ⟨kd, tx, x, at_⟩ := t;unfold tgV; dsimp only at *;have hB := Lib.hid (BufU.below h ((Below.refl w.heap.size w).alloc (Nat.le_refl _) (.cells #[.int .u8 kd, .string ⟨tx.toArray⟩, .int .i64 x, .int .i64 at_] 54)));have hO := Lib.hid ((Below.refl base w).alloc hb (.cells #[.int .u8 kd, .string ⟨tx.toArray⟩, .int .i64 x, .int .i64 at_] 54));have hb' : base ≤ (w.alloc (.cells #[.int .u8 kd, .string ⟨tx.toArray⟩, .int .i64 x, .int .i64 at_] 54)).heap.size := Nat.le_trans hb hO.out.size;have hsz : (⟨tx.toArray⟩ : ByteArray).size = tx.length := by simp [ByteArray.size]
 by_cases c2 : kd = 2
 · subst c2
   have he : spellL ⟨2, tx, x, at_⟩ = Lib.itoa x := rfl;rw [he];have k := Lib.hid (append_int hB.out hb' (by omega) hx (hT.on hO.out));clear hT he hb';go_enter Tryz.func22, Tryz.ntmps22
   go_wp2_with fail
   refine k.out.mono ?_;rintro e w2 ⟨v2, rfl, hB2, hO2⟩;go_wp2
   go_ret
   exact ⟨v2, rfl, hB2, hO.out.trans hO2⟩
 · have n2 : ((kd : Int) == 2) = false := beq_eq_false_iff_ne.2 (by omega)
   by_cases c3 : kd = 3
   · subst c3
     have he : spellL ⟨3, tx, x, at_⟩ = textL tx := rfl;rw [he];have k := Lib.hid (putText_any hB.out hb' ⟨tx.toArray⟩ (by rw [hsz]; omega));clear hT he hb' hsz;go_enter Tryz.func22, Tryz.ntmps22
     go_wp2_with fail
     refine k.out.mono ?_;rintro e w2 ⟨v2, rfl, hB2, hO2⟩;go_wp2
     go_ret
     exact ⟨v2, rfl, by simpa using hB2, hO.out.trans hO2⟩
   · have n3 : ((kd : Int) == 3) = false := beq_eq_false_iff_ne.2 (by omega)
     have he : spellL ⟨kd, tx, x, at_⟩ = tx := by
       unfold spellL;rw [if_neg c2, if_neg c3]
     rw [he];clear hT he hsz;go_enter Tryz.func22, Tryz.ntmps22
     go_wp2_with (at_builtin; (refine wpList_append_ustr rfl _ _ rfl rfl hB.out tx rfl (by omega) hb' ?_; intro a' cap' w3 hB3 hO3))
     go_ret
     exact ⟨_, rfl, hB3, hO.out.trans hO3⟩
end
end Go.Proofs.YtjiemkidmlgbeaaGreatDoor
namespace Go.Proofs.YtjiemkidmlgbeaaGreatDoor
open Go.RowKit Tok
def joinL : List Tg → List UInt8
 | [] => []
 | t :: r => spellL t ++ r.flatMap fun u => 32 :: spellL u
theorem joinL_snoc (ts : List Tg) (t : Tg) : joinL (ts ++ [t]) = if ts = [] then spellL t else joinL ts ++ 32 :: spellL t := by
 match ts with
 | [] => simp [joinL]
 | u :: r => simp [joinL]
theorem joinL_take {ts : List Tg} {i : Nat} (h : i < ts.length) : joinL (ts.take (i + 1)) = if i = 0 then spellL ts[i] else joinL (ts.take i) ++ 32 :: spellL ts[i] := by
 rw [List.take_succ_eq_append_getElem h, joinL_snoc];by_cases h0 : i = 0
 · subst h0; rw [if_pos (by simp), if_pos rfl]
 · have hne : ts.take i ≠ [] := fun he => h0 (by have := congrArg List.length he; rw [List.length_take, Nat.min_eq_left (by omega)] at this; simpa using this)
   rw [if_neg hne, if_neg h0]
theorem joinL_len (ts us : List Tg) : (joinL ts).length ≤ (joinL (ts ++ us)).length := by
 match ts with
 | [] => simp [joinL]
 | t :: r => simp [joinL] <;> omega
theorem joinL_le (ts : List Tg) (i : Nat) : (joinL (ts.take i)).length ≤ (joinL ts).length := by
 have := joinL_len (ts.take i) (ts.drop i)
 rwa [List.take_append_drop] at this
def spellR (ts : List Tg) : List UInt8 × Nat := if ts.all told then (if 16384 < (joinL ts).length then ([], 2) else (joinL ts, 0)) else ([], 3)
def spellV (r : List UInt8 × Nat) : Value := .tuple #[.string ⟨r.1.toArray⟩, .int .i64 r.2]
theorem spellR_bad {ts : List Tg} {i : Nat} (hi : i < ts.length) (h : told ts[i] = false) : spellR ts = ([], 3) := by
 unfold spellR;rw [if_neg];intro hall;have := List.all_eq_true.1 hall ts[i] (List.getElem_mem hi);rw [h] at this;cases this
theorem all_more {ts : List Tg} {i : Nat} (hi : i < ts.length) (ha : (ts.take i).all told = true) (h : told ts[i] = true) : (ts.take (i + 1)).all told = true := by
 rw [List.take_succ_eq_append_getElem hi, List.all_append, ha];simp [h]
theorem told_len {t : Tg} (h : told t = true) : t.text.length ≤ 4095 := by
 unfold told at h;by_cases c1 : t.kind = 1
 · rw [if_pos c1, Bool.and_eq_true] at h
   have h1 := h.1;unfold nameL at h1;cases ht : t.text with
   | nil => simp
   | cons c r => rw [ht] at h1; simp at h1; simp; omega
 · rw [if_neg c1] at h
   by_cases c2 : t.kind = 2
   · rw [if_pos c2, Bool.and_eq_true] at h
     rw [of_decide_eq_true h.2]; simp
   · rw [if_neg c2] at h
     by_cases c3 : t.kind = 3
     · rw [if_pos c3, Bool.and_eq_true] at h
       exact of_decide_eq_true h.1
     · rw [if_neg c3] at h
       by_cases c4 : t.kind = 4
       · rw [if_pos c4, Bool.and_eq_true] at h
         have h1 : t.text ∈ signs := of_decide_eq_true h.1;have : ∀ s ∈ signs, s.length ≤ 4095 := by decide
         exact this _ h1
       · rw [if_neg c4] at h; cases h
section
variable {w W : World} {base : Nat} {v : Value} {l : List UInt8}
theorem wpList_append_us2 {ops : Array Oper} {rest : List Oper} {o : Oper} {a : Act} {Q : Exit → Act → World → Prop} (hgd : o.guard = none) (s x : Operand)
   (ho : o.op = .call { callee := .builtin .append, args := #[s, x], argTypes := #[56, 56] })
   (hs : a.eval s = v) (hown : BufU w base v l) (m : List UInt8) {w2 : World} (hw : w = w2.alloc (.cells (Lib.byteCells m).toArray 5)) {q : Nat} (hx : a.eval x = .slice (some ⟨q, 0, none⟩) m.length m.length) (hq : q = w2.heap.size)
   (hk : l.length + m.length ≤ 1000000000) (hbase : base ≤ w.heap.size)
   (h : ∀ a' cap w', BufU w' base (.slice a' (l.length + m.length) cap) (l ++ m) → Below base w w' → (∀ p : Addr, p.block < w.heap.size → some p.block ≠ v.ownBlock → w'.cell? p = w.cell? p) → wpList Tryz.prog ops Q rest (a.put o.dst (.slice a' (l.length + m.length) cap)) w') : wpList Tryz.prog ops Q (o :: rest) a w := by
 obtain ⟨i0, hi, hz0, hz1, hz2⟩ := u8_parts;subst hw;subst hq;refine wpList_append_own_at _ hgd s x 56 ho base 5 i0 (.int .u8 0) 1 1 Tryz.underlying56 hi hz0 hz1 hz2 rfl (by decide) v l.length (Lib.byteCells l) hs hown ⟨w2.heap.size, 0, none⟩ m.length m.length (Lib.byteCells m) hx (by rw [Lib.byteCells_length]; omega) (fun j u hj => cells_new w2 (Lib.byteCells m) _ j u hj) (byteCells_one m) (by unfold maxLen; omega) (by omega) hbase ?_;intro v' w' h2 h3 _ _;obtain ⟨a', cap, rfl, _⟩ := ownsRow_shape h2;refine h a' cap w' ?_ ((Below.refl base _).grown h3 hbase (fun k hk => (World.ownsRow.lt hown k hk).1)) (fun p hp hne => h3.cell_far p hp hne);unfold BufU;rw [List.length_append, show Lib.byteCells (l ++ m) = Lib.byteCells l ++ Lib.byteCells m by simp [Lib.byteCells]];exact h2
end
theorem ttwo_cells (w : World) (cs : Array Value) (t : TypeId) (o : Obj) (j : Nat) : ((w.alloc (.cells cs t)).alloc o).cell? ⟨w.heap.size, j, none⟩ = cs[j]? := by
 have h := ((Below.refl (w.alloc (.cells cs t)).heap.size (w.alloc (.cells cs t))).alloc (Nat.le_refl _) o).block w.heap.size (by simp);rw [heap_alloc_new] at h;simp [World.cell?, h]
set_option maxRecDepth 20000 in
set_option maxHeartbeats 4000000 in
theorem Spell_any {w : World} {v : Value} {ts : List Tg} (h : TgIn w v ts) (hf : ∀ t ∈ ts, Fit t) (hS : SignsOK w) (hT : PowOK w.heap.size w) :
   Calls Tryz.prog 14 #[v] w fun e w' => e = .returned (spellV (spellR ts)) ∧ Below w.heap.size w w' := by
 obtain ⟨a0, cap0, rfl, hl1, hl2, h3⟩ := h;obtain ⟨R, hR⟩ := exHid (spellR ts);rw [hR.out];replace h3 := Lib.hid h3;replace hf := Lib.hid hf;replace hS := Lib.hid hS;replace hT := Lib.hid hT;go_enter Tryz.func14, Tryz.ntmps14
 go_wp2
 go_loopw [5, 11] (fun _ t11 wr => ∃ i : Nat, i ≤ ts.length ∧ t11 = .int .i64 i ∧ Hid (Below w.heap.size w wr) ∧ Hid ((ts.take i).all told = true)) (fun _ t11 _ => ts.length - (intOf t11).toNat)
 case atStart => exact ⟨0, by omega, rfl, Below.refl _ _, rfl⟩
 case round =>
   obtain ⟨i, hi, rfl, hb, hall⟩ := hrel;rcases Nat.lt_or_ge i ts.length with hlt | hge
   · have hlti : (i : Int) < (ts.length : Int) := by omega
     obtain ⟨g, off, rfl, hg, hc⟩ := h3.out (by omega);have hfit := hf.out ts[i] (List.getElem_mem hlt);have hbad := Lib.hid (fun h => spellR_bad hlt h);have hmore := Lib.hid (fun h => all_more hlt hall.out h);rcases hti : ts[i] with ⟨kd, tx, x, at_⟩
     obtain ⟨c0, c1, c2, c3⟩ := tg_cells hg hc hb.out hlt hti;rw [hti] at hfit hbad hmore;clear hc;have k := Lib.hid (fun W (hW : Below w.heap.size w W) => isTold_any ⟨kd, tx, x, at_⟩ W (hS.out.below hW) hfit.1);unfold tgV at k;dsimp only at k;replace hfit := Lib.hid hfit;replace hti := Lib.hid hti;rcases hB : told ⟨kd, tx, x, at_⟩ with _ | _
     · rw [hB] at k
       have hv := Lib.hid (hbad.out hB);clear hB hbad hmore;go_wp2_with fail
       refine (k.out _ (by exact hb.out.alloc hb.out.size _)).mono ?_;rintro e w2 ⟨rfl, hb2⟩;go_wp2
       go_ret2
       refine ⟨?_, below_next (hb.out.alloc hb.out.size _) hb2⟩;rw [← hR.out, hv.out]; rfl
     · rw [hB] at k
       have hv := Lib.hid (hmore.out hB);clear hB hbad hmore;go_wp2_with fail
       refine (k.out _ (by exact hb.out.alloc hb.out.size _)).mono ?_;rintro e w2 ⟨rfl, hb2⟩;go_wp2
       go_roundw
       case rel => exact ⟨i + 1, by omega, by go_num, below_next (hb.out.alloc hb.out.size _) hb2, hv⟩
       case measure => simp [intOf]; omega
   · obtain rfl : i = ts.length := by omega
     have hlti : ¬ ((ts.length : Int) < (ts.length : Int)) := by omega
     rw [List.take_length] at hall;go_wp2
     clear hlti;generalize hq0 : wr = wq0 at *;replace hq0 := Lib.hid hq0;go_loopw [6, 7, 8, 21] (fun t6 _ _ t21 wq => ∃ i : Nat, i ≤ ts.length ∧ t21 = .int .i64 i ∧ (joinL (ts.take i)).length ≤ 16384 ∧ Hid (BufU wq w.heap.size t6 (joinL (ts.take i))) ∧ Hid (Below w.heap.size w wq)) (fun _ _ _ t21 _ => ts.length - (intOf t21).toNat)
     case atStart => exact ⟨0, by omega, rfl, by simp [joinL], World.ownsRow_nil _ _ _ _, hb⟩
     case round =>
       obtain ⟨i, hi, rfl, hlen, hB, hbq⟩ := hrel;have hsz := hbq.out.size;obtain ⟨a6, cap6, rfl, _, _⟩ := hB.out.shape;rcases Nat.lt_or_ge i ts.length with hlt | hge
       · have hlti : (i : Int) < (ts.length : Int) := by omega
         obtain ⟨g, off, rfl, hg, hc⟩ := h3.out (by omega);have hfit := (hf.out ts[i] (List.getElem_mem hlt)).2;have htl := told_len (List.all_eq_true.1 hall.out ts[i] (List.getElem_mem hlt));have hnx := joinL_take hlt;have hle := joinL_le ts (i + 1);rcases hti : ts[i] with ⟨kd, tx, x, at_⟩
         obtain ⟨c0, c1, c2, c3⟩ := tg_cells hg hc hbq.out hlt hti;rw [hti] at hfit htl hnx;dsimp only at htl hfit;replace hti := Lib.hid hti;clear hc;have hB1 := BufU.below hB.out ((Below.refl wr.heap.size wr).alloc (Nat.le_refl _) (.cells #[.int .u8 kd, .string ⟨tx.toArray⟩, .int .i64 x, .int .i64 at_] 54));have hb1 := hbq.out.alloc hsz (.cells #[.int .u8 kd, .string ⟨tx.toArray⟩, .int .i64 x, .int .i64 at_] 54);have hown1 : some wr.heap.size ≠ (Value.slice a6 (joinL (ts.take i)).length cap6).ownBlock := fun he => by
           have := (World.ownsRow.lt hB.out wr.heap.size he.symm).2;omega
         rcases Nat.eq_zero_or_pos i with h0 | h0
         · rw [if_pos h0] at hnx
           have hi0 : ¬ (0 : Int) < (i : Int) := by omega
           have hL0 : joinL (ts.take i) = [] := by rw [h0]; rfl
           have hnx' : joinL (ts.take i) ++ spellL ⟨kd, tx, x, at_⟩ = joinL (ts.take (i + 1)) := by rw [hnx, hL0]; rfl
           obtain ⟨X, hXe⟩ := exHid (joinL (ts.take (i + 1)));rw [hXe.out] at hnx' hle;have k := Lib.hid (putToken_any hB1 (Nat.le_trans hsz (by simp)) ⟨kd, tx, x, at_⟩ hfit (by dsimp only; omega) (hT.out.on hb1));rw [hnx'] at k;unfold tgV at k; dsimp only at k;generalize joinL (ts.take i) = L at *;replace hb1 := Lib.hid hb1;clear hnx hnx' hB1 hL0 h0;rcases Nat.lt_or_ge 16384 X.length with hX | hX
           · have hXi : (16384 : Int) < (X.length : Int) := by omega
             have hv : R = ([], 2) := by
               rw [← hR.out]; unfold spellR;rw [if_pos hall.out, if_pos (by omega)]
             replace hv := Lib.hid hv;go_wp2_with fail
             refine k.out.mono ?_;rintro e w4 ⟨v4, rfl, hB4, hO4⟩;obtain ⟨a4, cap4, rfl, _, _⟩ := hB4.shape;replace hB4 := Lib.hid hB4;go_wp2
             go_ret2
             exact ⟨by rw [hv.out]; rfl, hb1.out.trans hO4⟩
           · have hXi : ¬ (16384 : Int) < (X.length : Int) := by omega
             go_wp2_with fail
             refine k.out.mono ?_;rintro e w4 ⟨v4, rfl, hB4, hO4⟩;obtain ⟨a4, cap4, rfl, _, _⟩ := hB4.shape;replace hB4 := Lib.hid hB4;go_wp2
             go_roundw
             case rel => exact ⟨i + 1, by omega, by go_num, by rw [hXe.out]; exact hX, by rw [hXe.out]; exact hB4, hb1.out.trans hO4⟩
             case measure => simp [intOf]; omega
         · rw [if_neg (by omega)] at hnx
           have hi0 : (0 : Int) < (i : Int) := by omega
           have hnx' : (joinL (ts.take i) ++ [32]) ++ spellL ⟨kd, tx, x, at_⟩ = joinL (ts.take (i + 1)) := by rw [hnx]; simp
           obtain ⟨X, hXe⟩ := exHid (joinL (ts.take (i + 1)));rw [hXe.out] at hnx' hle;have hs1 : w.heap.size ≤ ((wr.alloc (.cells #[.int .u8 kd, .string ⟨tx.toArray⟩, .int .i64 x, .int .i64 at_] 54)).alloc (.cells (Lib.byteCells [32]).toArray 5)).heap.size := by simp; omega
           have hB2 := Lib.hid (BufU.below hB1 ((Below.refl _ _).alloc (Nat.le_refl _) (.cells (Lib.byteCells [32]).toArray 5)));have hb2 := Lib.hid (hb1.alloc (Nat.le_trans hsz (by simp)) (.cells (Lib.byteCells [32]).toArray 5));have e0 := ttwo_cells wr #[.int .u8 kd, .string ⟨tx.toArray⟩, .int .i64 x, .int .i64 at_] 54 (.cells (Lib.byteCells [32]).toArray 5);have hlt2 : wr.heap.size < ((wr.alloc (.cells #[.int .u8 kd, .string ⟨tx.toArray⟩, .int .i64 x, .int .i64 at_] 54)).alloc (.cells (Lib.byteCells [32]).toArray 5)).heap.size := by simp; omega
           have k := Lib.hid (fun W (V : Value) (hBW : BufU W w.heap.size V (joinL (ts.take i) ++ [32])) (hbW : Below w.heap.size w W) => putToken_any hBW hbW.size ⟨kd, tx, x, at_⟩ hfit (by dsimp only; rw [List.length_append]; simp; omega) (hT.out.on hbW));rw [hnx'] at k;unfold tgV at k; dsimp only at k;generalize joinL (ts.take i) = L at *;replace hb1 := Lib.hid hb1;clear hnx hnx' hB1;rcases Nat.lt_or_ge 16384 X.length with hX | hX
           · have hXi : (16384 : Int) < (X.length : Int) := by omega
             have hv : R = ([], 2) := by
               rw [← hR.out]; unfold spellR;rw [if_pos hall.out, if_pos (by omega)]
             replace hv := Lib.hid hv;go_wp2_with (at_builtin; (refine wpList_append_us2 rfl _ _ rfl rfl hB2.out [32] rfl rfl (by simp) (by simp; omega) hs1 ?_; intro a' cap' w3 hB3 hO3 hkp; have d0 := (hkp ⟨wr.heap.size, 0, none⟩ hlt2 hown1).trans (e0 0); have d1 := (hkp ⟨wr.heap.size, 1, none⟩ hlt2 hown1).trans (e0 1); have d2 := (hkp ⟨wr.heap.size, 2, none⟩ hlt2 hown1).trans (e0 2); have d3 := (hkp ⟨wr.heap.size, 3, none⟩ hlt2 hown1).trans (e0 3); simp only [List.getElem?_toArray, List.getElem?_cons_succ, List.getElem?_cons_zero] at d0 d1 d2 d3; clear hkp; replace hB3 := Lib.hid hB3; have hb3 := Lib.hid (hb2.out.trans hO3)))
             refine (k.out _ _ hB3.out hb3.out).mono ?_;rintro e w4 ⟨v4, rfl, hB4, hO4⟩;obtain ⟨a4, cap4, rfl, _, _⟩ := hB4.shape;replace hB4 := Lib.hid hB4;go_wp2
             go_ret2
             exact ⟨by rw [hv.out]; rfl, hb3.out.trans hO4⟩
           · have hXi : ¬ (16384 : Int) < (X.length : Int) := by omega
             go_wp2_with (at_builtin; (refine wpList_append_us2 rfl _ _ rfl rfl hB2.out [32] rfl rfl (by simp) (by simp; omega) hs1 ?_; intro a' cap' w3 hB3 hO3 hkp; have d0 := (hkp ⟨wr.heap.size, 0, none⟩ hlt2 hown1).trans (e0 0); have d1 := (hkp ⟨wr.heap.size, 1, none⟩ hlt2 hown1).trans (e0 1); have d2 := (hkp ⟨wr.heap.size, 2, none⟩ hlt2 hown1).trans (e0 2); have d3 := (hkp ⟨wr.heap.size, 3, none⟩ hlt2 hown1).trans (e0 3); simp only [List.getElem?_toArray, List.getElem?_cons_succ, List.getElem?_cons_zero] at d0 d1 d2 d3; clear hkp; replace hB3 := Lib.hid hB3; have hb3 := Lib.hid (hb2.out.trans hO3)))
             refine (k.out _ _ hB3.out hb3.out).mono ?_;rintro e w4 ⟨v4, rfl, hB4, hO4⟩;obtain ⟨a4, cap4, rfl, _, _⟩ := hB4.shape;replace hB4 := Lib.hid hB4;go_wp2
             go_roundw
             case rel => exact ⟨i + 1, by omega, by go_num, by rw [hXe.out]; exact hX, by rw [hXe.out]; exact hB4, hb3.out.trans hO4⟩
             case measure => simp [intOf]; omega
       · obtain rfl : i = ts.length := by omega
         have hlti : ¬ ((ts.length : Int) < (ts.length : Int)) := by omega
         rw [List.take_length] at hB hlen;have hv : R = (joinL ts, 0) := by
           rw [← hR.out]; unfold spellR;rw [if_pos hall.out, if_neg (by omega)]
         replace hv := Lib.hid hv;have hstr := BufU.string hB.out;go_wp2
         go_ret2
         exact ⟨by rw [hv.out]; rfl, hbq.out⟩
end Go.Proofs.YtjiemkidmlgbeaaGreatDoor
