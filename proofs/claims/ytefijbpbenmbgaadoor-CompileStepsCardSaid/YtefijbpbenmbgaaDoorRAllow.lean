/- tree's kind.allows (layer 8), walked. No condition. -/
import Derived.Test.YtefijbpbenmbgaaDoorRPart
import Derived.Shelf.Abstract
namespace Go.Proofs.YtefijbpbenmbgaaDoor
open Go.RowKit Go.Shelf

/-- A twig. -/
structure Tw where
  op : Nat
  kids : Int
  num : Int
  text : List UInt8
  deriving DecidableEq
def twC (x : Tw) : List Value := [.int .u8 x.op, .int .i64 x.kids, .int .i64 x.num, .string ⟨x.text.toArray⟩]
def twV (x : Tw) : Value := .agg #[.int .u8 x.op, .int .i64 x.kids, .int .i64 x.num, .string ⟨x.text.toArray⟩]
/-- A twig by itself is what its kind may be. -/
def allowsB (k : Kind) (x : Tw) : Bool := (x.num == 0 || ((x.op : Int) == 23 && decide (0 < x.num))) && decide ((k.least : Int) ≤ x.kids) && decide (x.kids ≤ (k.most : Int)) && textOK k.text x.text
/-- What text's function answers. -/
theorem text_call (k : Nat) (s : List UInt8) (hl : s.length ≤ 9223372036854775807) {b : Bool} (h : textOK k s = b) : ∃ F, textF k = .func (.func F) #[] #[] ∧ (∀ args w, (callFunc F args).run Tryd.prog w = .ok (.enter F args) w) ∧ ∀ W, Calls Tryd.prog F #[.string ⟨s.toArray⟩] W fun e w' => e = .returned (.bool b) ∧ w' = W := by
  subst h
  by_cases h0 : k = 0
  · subst h0; exact ⟨_, rfl, enters_of Tryd.func51 (by kernel_rfl) rfl, fun W => isEmpty_any s W⟩
  · by_cases h1 : k = 1
    · subst h1; exact ⟨_, rfl, enters_of Tryd.func52 (by kernel_rfl) rfl, fun W => isOwn_any s W hl⟩
    · refine ⟨57, by unfold textF; rw [if_neg h0, if_neg h1], enters_of Tryd.func57 (by kernel_rfl) rfl, fun W => ?_⟩
      have e : textOK k s = textOK 2 s := by unfold textOK; rw [if_neg h0, if_neg h1]; rfl
      rw [e]
      exact isShort_any s W
set_option maxRecDepth 20000 in
set_option maxHeartbeats 4000000 in
theorem allows_any (k : Kind) (x : Tw) (w : World) (hl : x.text.length ≤ 9223372036854775807) :
    Calls Tryd.prog 60 #[kindV k, twV x] w fun e w' => e = .returned (.bool (allowsB k x)) ∧ Below w.heap.size w w' := by
  obtain ⟨tk, lo, hi, pk⟩ := k
  obtain ⟨op, kids, num, text⟩ := x
  obtain ⟨B, hB⟩ := exHid (allowsB ⟨tk, lo, hi, pk⟩ ⟨op, kids, num, text⟩)
  rw [hB.out]
  have hB' := hB.out
  unfold allowsB at hB'
  unfold kindV twV
  dsimp only at *
  clear hB
  obtain ⟨T, hT⟩ := exHid (textOK tk text)
  obtain ⟨F, hF, hen, kF⟩ := text_call tk text hl hT.out
  rw [hT.out] at hB'
  rw [hF]
  clear hF hT
  generalize partF pk = pf
  replace kF := Lib.hid kF
  rcases q1 : (num == 0) with _ | _
  · rcases q2 : ((op : Int) == 23) with _ | _
    · rw [q1, q2] at hB'
      replace hB' := Lib.hid hB'
      go_enter Tryd.func60, Tryd.ntmps60
      go_wp2
      go_ret
      exact ⟨ret_bool (by rw [← hB'.out]; rfl), by go_grown⟩
    · by_cases q3 : 0 < num
      · rw [q1, q2, decide_eq_true q3] at hB'
        by_cases q4 : (lo : Int) ≤ kids
        · by_cases q5 : kids ≤ (hi : Int)
          · rw [decide_eq_true q4, decide_eq_true q5] at hB'
            replace hB' := Lib.hid hB'
            go_enter Tryd.func60, Tryd.ntmps60
            go_wp2_with fail
            refine (kF.out _).mono ?_
            rintro e w2 ⟨rfl, rfl⟩
            go_wp2
            go_ret
            exact ⟨ret_bool (by rw [← hB'.out]; rfl), by go_grown⟩
          · rw [decide_eq_false q5] at hB'
            have hv : B = false := by rw [← hB']; simp
            replace hv := Lib.hid hv
            clear hB'
            go_enter Tryd.func60, Tryd.ntmps60
            go_wp2
            go_ret
            exact ⟨ret_bool (by rw [hv.out]), by go_grown⟩
        · rw [decide_eq_false q4] at hB'
          have hv : B = false := by rw [← hB']; simp
          replace hv := Lib.hid hv
          clear hB'
          go_enter Tryd.func60, Tryd.ntmps60
          go_wp2
          go_ret
          exact ⟨ret_bool (by rw [hv.out]), by go_grown⟩
      · rw [q1, q2, decide_eq_false q3] at hB'
        have hv : B = false := by rw [← hB']; simp
        replace hv := Lib.hid hv
        clear hB'
        go_enter Tryd.func60, Tryd.ntmps60
        go_wp2
        go_ret
        exact ⟨ret_bool (by rw [hv.out]), by go_grown⟩
  · rw [q1] at hB'
    by_cases q4 : (lo : Int) ≤ kids
    · by_cases q5 : kids ≤ (hi : Int)
      · rw [decide_eq_true q4, decide_eq_true q5] at hB'
        replace hB' := Lib.hid hB'
        go_enter Tryd.func60, Tryd.ntmps60
        go_wp2_with fail
        refine (kF.out _).mono ?_
        rintro e w2 ⟨rfl, rfl⟩
        go_wp2
        go_ret
        exact ⟨ret_bool (by rw [← hB'.out]; simp), by go_grown⟩
      · rw [decide_eq_false q5] at hB'
        have hv : B = false := by rw [← hB']; simp
        replace hv := Lib.hid hv
        clear hB'
        go_enter Tryd.func60, Tryd.ntmps60
        go_wp2
        go_ret
        exact ⟨ret_bool (by rw [hv.out]), by go_grown⟩
    · rw [decide_eq_false q4] at hB'
      have hv : B = false := by rw [← hB']; simp
      replace hv := Lib.hid hv
      clear hB'
      go_enter Tryd.func60, Tryd.ntmps60
      go_wp2
      go_ret
      exact ⟨ret_bool (by rw [hv.out]), by go_grown⟩
end Go.Proofs.YtefijbpbenmbgaaDoor
