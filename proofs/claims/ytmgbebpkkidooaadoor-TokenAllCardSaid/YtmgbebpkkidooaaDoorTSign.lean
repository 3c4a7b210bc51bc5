/- Tokens as they come in (layer 7): token.isSign, token.isTold, walked. Condition: token.signs holds the signs. -/
import Derived.Test.YtmgbebpkkidooaaDoorTPut2
import Derived.Test.YtmgbebpkkidooaaDoorTAll
import Derived.Test.YtmgbebpkkidooaaDoorNm
namespace Go.Proofs.YtmgbebpkkidooaaDoor
open Go.RowKit Tok

/-- A token, whatever it holds. -/
structure Tg where
  kind : Nat
  text : List UInt8
  num : Int
  at_ : Int
  deriving DecidableEq
/-- All tells such a token. -/
def told (t : Tg) : Bool :=
  if t.kind = 1 then nameL t.text && decide (t.num = 0)
  else if t.kind = 2 then decide (0 ≤ t.num) && decide (t.text = [])
  else if t.kind = 3 then decide (t.text.length ≤ 4095) && decide (t.num = 0)
  else if t.kind = 4 then decide (t.text ∈ signs) && decide (t.num = 0)
  else false
def tgC (t : Tg) : List Value := [.int .u8 t.kind, .string ⟨t.text.toArray⟩, .int .i64 t.num, .int .i64 t.at_]
def tgV (t : Tg) : Value := .agg #[.int .u8 t.kind, .string ⟨t.text.toArray⟩, .int .i64 t.num, .int .i64 t.at_]
theorem bytes_self (s : ByteArray) : (⟨s.data.toList.toArray⟩ : ByteArray) = s := rfl
theorem bytes_eq {l m : List UInt8} : ((⟨l.toArray⟩ : ByteArray) = ⟨m.toArray⟩) ↔ l = m := by
  constructor
  · intro h
    have := congrArg (fun x : ByteArray => x.data.toList) h
    simpa using this
  · rintro rfl; rfl
theorem sign_from {j : Nat} (hj : j < 17) (S : List UInt8) : decide (S ∈ signs.drop j) = (decide (S = signs.getD j []) || decide (S ∈ signs.drop (j + 1))) := by
  have hl : j < signs.length := hj
  have e : signs.getD j [] = signs[j] := by rw [List.getD_eq_getElem?_getD, List.getElem?_eq_getElem hl]; rfl
  rw [List.drop_eq_getElem_cons hl, e]
  generalize signs[j] = T
  generalize List.drop (j + 1) signs = L
  by_cases h1 : S = T
  · rw [decide_eq_true h1, decide_eq_true (List.mem_cons.2 (.inl h1))]; rfl
  · rw [decide_eq_false h1, Bool.false_or]
    exact decide_eq_decide.2 ⟨fun h => (List.mem_cons.1 h).resolve_left h1, fun h => List.mem_cons.2 (.inr h)⟩

set_option maxRecDepth 20000 in
set_option maxHeartbeats 2000000 in
theorem isSign_any (S : List UInt8) (w : World) (hS : SignsOK w) :
    Calls Tryd.prog 40 #[.string ⟨S.toArray⟩] w fun e w' => e = .returned (.bool (decide (S ∈ signs))) ∧ w' = w := by
  obtain ⟨B, hB⟩ := exHid (decide (S ∈ signs))
  rw [hB.out]
  have s0 := hS 0 (by omega); have s1 := hS 1 (by omega); have s2 := hS 2 (by omega); have s3 := hS 3 (by omega); have s4 := hS 4 (by omega); have s5 := hS 5 (by omega); have s6 := hS 6 (by omega); have s7 := hS 7 (by omega); have s8 := hS 8 (by omega); have s9 := hS 9 (by omega); have s10 := hS 10 (by omega); have s11 := hS 11 (by omega); have s12 := hS 12 (by omega); have s13 := hS 13 (by omega); have s14 := hS 14 (by omega); have s15 := hS 15 (by omega); have s16 := hS 16 (by omega)
  simp only [signs, List.getD_cons_zero, List.getD_cons_succ] at s0 s1 s2 s3 s4 s5 s6 s7 s8 s9 s10 s11 s12 s13 s14 s15 s16
  clear hS
  go_enter Tryd.func40, Tryd.ntmps40
  go_wp2
  clear s0 s1 s2 s3 s4 s5 s6 s7 s8 s9 s10 s11 s12 s13 s14 s15 s16
  go_loop [4, 6] (fun t4 t6 => ∃ j : Nat, j ≤ 17 ∧ t6 = .int .i64 j ∧ Hid (decide (S ∈ signs.drop j) = B)) (fun _ t6 => 17 - (intOf t6).toNat)
  case atStart => exact ⟨0, by omega, rfl, by simpa using hB⟩
  case round =>
    obtain ⟨j, hj, rfl, hsg⟩ := hrel
    rcases Nat.lt_or_ge j 17 with hjl | hjg
    · have hjli : (j : Int) < 17 := by omega
      have hix := index_sign hjl w
      unfold signsV at hix
      have hst := sign_from hjl S
      rw [hsg.out] at hst
      generalize signs.getD j [] = T at *
      by_cases hq : S = T
      · have hv : B = true := by rw [hst, decide_eq_true hq]; rfl
        have e1 : (S == T) = true := beq_iff_eq.2 hq
        replace hv := Lib.hid hv
        replace hst := Lib.hid hst
        replace hq := Lib.hid hq
        go_wp2
        go_ret
        exact ⟨ret_bool (by rw [hv.out]), rfl⟩
      · have e1 : (S == T) = false := beq_eq_false_iff_ne.2 hq
        rw [decide_eq_false hq, Bool.false_or] at hst
        have hst' := Lib.hid hst.symm
        clear hst
        replace hq := Lib.hid hq
        go_wp2
        go_round
        case rel => exact ⟨j + 1, by omega, by go_num, hst'⟩
        case measure => simp [intOf]; omega
    · obtain rfl : j = 17 := by omega
      have hv : B = false := by
        rw [← hsg.out]
        exact decide_eq_false (by simp [signs])
      replace hv := Lib.hid hv
      go_wp2
      go_ret
      exact ⟨ret_bool (by rw [hv.out]), rfl⟩

end Go.Proofs.YtmgbebpkkidooaaDoor
