/- The law CodeOnce: what is read as a value is right, and is written as the bytes that were read. -/
import Derived.Test.YtnhghofkdiojaaaPutA
import Derived.Test.YtnhghofkdiojaaaCFree
import Derived.Deep.RegionHeld3
namespace Go.Proofs.Ytnhghofkdiojaaa
open Go.RowKit

section
variable {w : World} {L cap : Nat} {a : Option Addr} {f : Nat → Nat}
set_option maxHeartbeats 2000000 in
theorem once_long (h20 : 20000 < L) :
    Calls Try.prog 6 #[.slice a L cap] w fun e w' => e = .returned (.bool true) ∧ Below w.heap.size w w' := by
  have hA := awake_any5 w
  have hLo := long_any L a cap
  rw [decide_eq_true (by omega)] at hLo
  go_enter Try.func6, Try.ntmps6
  go_wp2_with (first
    | ((with_reducible refine hA.mono ?_); rintro e w' ⟨rfl, hb⟩)
    | ((with_reducible refine (hLo _).mono ?_); rintro e w' ⟨rfl, rfl⟩))
  go_ret
  exact ⟨rfl, hb⟩

theorem rowN_nil_shape {w : World} {b : Nat} {v : Value} (h : RowN w b v []) : ∃ a cap, v = .slice a 0 cap ∧ cap ≤ 9223372036854775807 := by
  obtain ⟨a, cap, h1, _, h3⟩ := ownsRow_shape h
  exact ⟨a, cap, h1, h3⟩

set_option maxRecDepth 100000 in
set_option maxHeartbeats 4000000 in
theorem once_bad (h : By w a L f) (hl : L ≤ cap) (hm : cap ≤ 9223372036854775807) (hn : a = none → cap = 0) (h20 : L ≤ 20000) (hc : (valR f L).code ≠ 0) :
    Calls Try.prog 6 #[.slice a L cap] w fun e w' => e = .returned (.bool true) ∧ Below w.heap.size w w' := by
  have hA := awake_any5 w
  have hLo := long_any L a cap
  rw [decide_eq_false (by omega)] at hLo
  have k1 := fun w' (hb : Below w.heap.size w w') => ReadValue_any5 (h.below hb) hl hm hn
  obtain ⟨e1, e2, e3⟩ := valR_err (fun j hj => h.lt j hj) hc
  clear h
  generalize valR f L = R at k1 hc e1 e2 e3
  obtain ⟨d, to, code⟩ := R
  simp only at hc e1 e2 e3
  subst e1
  unfold ValPost at k1
  simp only at k1
  have hc0 : ((code : Int) == 0) = false := by simp; omega
  have hto : (to : Int) ≤ L := by omega
  have hto0 : (0 : Int) ≤ to := by omega
  obtain ⟨B, hB⟩ : ∃ b : Bool, b = true ↔ to = L := ⟨decide (to = L), decide_eq_true_iff⟩
  have q1 : ((to : Int) == (L : Int)) = B := by rw [Bool.eq_iff_iff, hB, beq_iff_eq]; omega
  have q2 : ((code : Int) == 4) = B := by rw [Bool.eq_iff_iff, hB, beq_iff_eq]; omega
  have q3 : (B == B) = true := by cases B <;> rfl
  replace k1 := Lib.hid k1
  clear e3 hB
  go_enter Try.func6, Try.ntmps6
  go_wp2_with (first
    | ((with_reducible refine hA.mono ?_); rintro e w' ⟨rfl, hb0⟩)
    | ((with_reducible refine (hLo _).mono ?_); rintro e w' ⟨rfl, rfl⟩)
    | (go_at_call 10; refine (k1.out _ hb0).mono ?_; rintro e w1 ⟨v1, rfl, r1, g1⟩; obtain ⟨a1, cap1, rfl, hcm1⟩ := rowN_nil_shape r1; have hb1 := below_next hb0 g1; clear g1))
  go_ret
  exact ⟨rfl, hb1⟩

theorem lies_text_eq {l : List Nat} (h : LiesAt f 0 l) : textB f 0 l.length = bytesB l := by
  unfold textB bytesB textL
  congr 2
  apply List.ext_getElem
  · simp
  · intro i h1 h2
    simp at h1 h2
    have := h i h1
    rw [Nat.zero_add] at this
    simp [this, List.getD_eq_getElem?_getD, List.getElem?_eq_getElem h1]
theorem head_text (h : By w a L f) (hl : L ≤ cap) {l : List Nat} (hL : LiesAt f 0 l) (hpos : 0 < l.length) (hle : l.length ≤ L) (W : World) (hb : Below w.heap.size w W) :
    (convert 22 9 (.slice a l.length cap)).run Try.prog W = .ok (.string (bytesB l)) W := by
  obtain ⟨b, off, rfl, _, hc⟩ := (h.below hb) (by omega)
  rw [← lies_text_eq hL]
  exact bytes_string _ (fun j hj => by rw [Nat.zero_add]; exact hc j (by omega))
theorem valL_byte {l : List Nat} (hL : LiesAt f 0 l) (hf : ∀ j, j < L → f j < 256) (hle : l.length ≤ L) : ∀ b ∈ l, b < 256 := by
  intro b hb
  obtain ⟨i, hi, rfl⟩ := List.getElem_of_mem hb
  have h1 := hL i hi
  rw [Nat.zero_add] at h1
  have h2 := hf i (by omega)
  rw [h1] at h2
  simpa [List.getD_eq_getElem?_getD, List.getElem?_eq_getElem hi] using h2

set_option maxRecDepth 100000 in
set_option maxHeartbeats 4000000 in
theorem once_good (h : By w a L f) (hl : L ≤ cap) (hm : cap ≤ 9223372036854775807) (hn : a = none → cap = 0) (h20 : L ≤ 20000) (hc : (valR f L).code = 0) :
    Calls Try.prog 6 #[.slice a L cap] w fun e w' => e = .returned (.bool true) ∧ Below w.heap.size w w' := by
  have hA := awake_any5 w
  have hLo := long_any L a cap
  rw [decide_eq_false (by omega)] at hLo
  have hf : ∀ j, j < L → f j < 256 := fun j hj => h.lt j hj
  have k1 := fun w' (hb : Below w.heap.size w w') => ReadValue_any5 (h.below hb) hl hm hn
  obtain ⟨⟨size, hI⟩, e2⟩ := valR_inv hf hc
  generalize valR f L = R at k1 hc hI e2
  obtain ⟨d, to, code⟩ := R
  simp only at hc e2 hI
  subst hc
  have hR := rightV_of hI
  have hpl := hI.place
  have hby := valL_byte hI.lies hf (by omega)
  have hpos : 0 < (valL d).length := by
    have := hR.good.ne
    cases d with
    | nil => simp at this
    | cons x d => show 0 < (nodeL x ++ valL d).length; rw [List.length_append]; show 0 < (_ + 1) + _; omega
  have hS := head_text h hl hI.lies hpos (by omega)
  have hSS : ((bytesB (valL d)).toList == (bytesB (valL d)).toList) = true := str_beq ⟨fun _ => rfl, fun _ => rfl⟩
  rw [hpl] at hS hpos
  unfold ValPost at k1
  simp only at k1
  have hto : (to : Int) ≤ L := by omega
  have hto0 : (0 : Int) ≤ to := by omega
  have htc : (to : Int) ≤ cap := by omega
  clear h hI hf
  have p1 := fun (W : World) (b : Nat) (v : Value) (hrow : RowN W b v d) => PutValue_any hR hrow
  have c1 := fun (W : World) (b : Nat) (v : Value) (hrow : RowN W b v d) => check_ok hR hrow
  unfold PutV at p1
  have hst := fun (W : World) (b : Nat) (v : Value) (hB : Buf8 W b v (valL d)) => hB.string hby
  clear hR hpl hby
  generalize valL d = l at *
  generalize bytesB l = S at *
  replace k1 := Lib.hid k1
  replace p1 := Lib.hid p1
  replace c1 := Lib.hid c1
  replace hst := Lib.hid hst
  replace hS := Lib.hid hS
  go_enter Try.func6, Try.ntmps6
  go_wp2_with (first
    | ((with_reducible refine hA.mono ?_); rintro e w' ⟨rfl, hb0⟩)
    | ((with_reducible refine (hLo _).mono ?_); rintro e w' ⟨rfl, rfl⟩)
    | (go_at_call 10; refine (k1.out _ hb0).mono ?_; rintro e w1 ⟨v1, rfl, r1, g1⟩; have hb1 := below_next hb0 g1; clear g1; have p2 := p1.out _ _ _ r1; replace r1 := Lib.hid r1)
    | (go_at_call 12; refine p2.mono ?_; rintro e w2 ⟨v2, rfl, r2, g2⟩; have hb2 := below_next hb1 g2; replace r2 := Lib.hid r2))
  have hd2 : Below w.heap.size w w2.drew := below_drewN hb2 1
  have r1d : RowN w2.drew _ v1 d := r1.out.below (below_drewN g2 1)
  have r2d : Buf8 w2.drew _ v2 l := r2.out
  have c2 := c1.out _ _ _ r1d
  have f1 := hst.out _ _ _ r2d
  have f2 := hS.out _ hd2
  replace r1d := Lib.hid r1d
  replace r2d := Lib.hid r2d
  go_region_held3 (fun w' => (convert 22 9 v2).run Try.prog w' = .ok (.string S) w' ∧ (convert 22 9 (.slice a to cap)).run Try.prog w' = .ok (.string S) w')
    (first
      | exact ⟨f1, f2⟩
      | exact f3)
    ((go_at_call 28; refine c2.mono ?_; rintro e w3 ⟨rfl, g3⟩; have hb3 := below_next hd2 g3; have f3 := And.intro (hst.out _ _ _ (r2d.out.below g3)) (hS.out _ hb3)))
  all_goals
    go_wp2
    go_ret
    exact ⟨rfl, hb3⟩
end

theorem codeOnce_walk (v0 : Value) (w : World) (h0 : BytesIn w v0) :
    Calls Try.prog 6 #[v0] w fun e w' => e = .returned (.bool true) ∧ Below w.heap.size w w' := by
  obtain ⟨a, L, cap, f, rfl, hB, hl, hm, hn⟩ := h0
  rcases Nat.lt_or_ge 20000 L with h | h
  · exact once_long h
  · by_cases hc : (valR f L).code = 0
    · exact once_good hB hl hm hn h hc
    · exact once_bad hB hl hm hn h hc
end Go.Proofs.Ytnhghofkdiojaaa
