/- The document's Digits, Quoted (layer 7), walked. No condition. -/
import Derived.Test.YtmgbebpkkidooaaDoorTPut3
import Derived.Test.YtmgbebpkkidooaaDoorTDoc1
namespace Go.Proofs.YtmgbebpkkidooaaDoor
open Go.RowKit Tok

theorem dec_more {u : Nat} (h : 9 < u) : Lib.decDigits u = Lib.decDigits (u / 10) ++ [UInt8.ofNat (48 + u % 10)] := by
  rw [Lib.decDigits, dif_neg (by omega)]
theorem dec_last {u : Nat} (h : ¬ 9 < u) : Lib.decDigits u = [UInt8.ofNat (48 + u)] := by
  rw [Lib.decDigits, dif_pos (by omega)]
theorem ofNat_dig {d : Nat} (h : d < 10) : ((UInt8.ofNat (48 + d)).toNat : Int) = 48 + d := by
  have : ∀ d, d < 10 → (UInt8.ofNat (48 + d)).toNat = 48 + d := by decide
  rw [this d h]; omega
/-- string of one byte. -/
theorem string_one (w : World) (c : UInt8) (x : Int) (h : x = (c.toNat : Int)) :
    (convert 50 9 (.slice (some ⟨w.heap.size, 0, none⟩) 1 1)).run Tryd.prog (w.alloc (.cells #[.int .u8 x] 5)) = .ok (.string ⟨#[c]⟩) (w.alloc (.cells #[.int .u8 x] 5)) := by
  subst h
  refine run_convert_bytes_back _ _ _ 5 ⟨w.heap.size, 0, none⟩ 1 [c] Tryd.underlying50 Tryd.underlying5 Tryd.underlying9 (fun j hj => ?_)
  obtain rfl : j = 0 := by simpa using hj
  exact cells_new w [Value.int .u8 (c.toNat : Int)] _ 0 _ rfl

theorem cat_one (c : UInt8) (r : List UInt8) : (⟨#[c]⟩ : ByteArray) ++ ⟨r.toArray⟩ = ⟨(c :: r).toArray⟩ := by
  apply ByteArray.ext
  simp
set_option maxRecDepth 20000 in
set_option maxHeartbeats 2000000 in
theorem refDigits_any (x : Nat) (w : World) (hx : x ≤ 9223372036854775807) :
    Calls Tryd.prog 26 #[.int .i64 x] w fun e w' => e = .returned (.string ⟨(Lib.decDigits x).toArray⟩) ∧ Below w.heap.size w w' := by
  have hDl : (Lib.decDigits x).length ≤ 21 := by
    have := Lib.itoa_length_le (x : Int) (by omega) (by omega)
    rwa [Lib.itoa_nonneg] at this
  obtain ⟨D, hD⟩ := exHid (Lib.decDigits x)
  rw [hD.out] at hDl ⊢
  go_enter Tryd.func26, Tryd.ntmps26
  go_wp2
  go_loopw [0, 3] (fun t0 t3 wr => ∃ (u : Nat) (r : List UInt8), u ≤ x ∧ t0 = .int .i64 u ∧ t3 = .string ⟨r.toArray⟩ ∧ Hid (Lib.decDigits u ++ r = D) ∧ Hid (Below w.heap.size w wr)) (fun t0 _ _ => (intOf t0).toNat)
  case atStart => exact ⟨x, [], by omega, rfl, rfl, Lib.hid (by rw [List.append_nil]; exact hD.out), Below.refl _ _⟩
  case round =>
    obtain ⟨u, r, hu, rfl, rfl, hr, hb⟩ := hrel
    by_cases h9 : 9 < u
    · have h9i : (9 : Int) < (u : Int) := by omega
      have hr2 := hr.out
      rw [dec_more h9, List.append_assoc] at hr2
      have hd : u % 10 < 10 := by omega
      generalize hdd : u % 10 = d at *
      have hc := ofNat_dig hd
      have hc8 : IntKind.u8.wrap (48 + (u : Int) % 10) = (48 + d : Int) := by
        rw [IntKind.wrap_u8']; omega
      have hstr := (string_one wr (UInt8.ofNat (48 + d)) (48 + d : Int) hc.symm)
      replace hr2 := Lib.hid hr2
      replace hdd := Lib.hid hdd
      clear hc
      generalize UInt8.ofNat (48 + d) = c at *
      have hrl : r.length ≤ 21 := by
        have h1 := congrArg List.length hr2.out
        simp only [List.length_append] at h1
        omega
      go_wp2
      go_roundw
      case rel => exact ⟨u / 10, c :: r, by omega, by go_num, by rw [cat_one], hr2, hb.out.alloc hb.out.size _⟩
      case measure => simp [intOf]; omega
    · have h9i : ¬ (9 : Int) < (u : Int) := by omega
      have hr2 := hr.out
      rw [dec_last h9] at hr2
      have hc := ofNat_dig (d := u) (by omega)
      have hc8 : IntKind.u8.wrap (48 + (u : Int)) = (48 + u : Int) := by
        rw [IntKind.wrap_u8']; omega
      have hstr := (string_one wr (UInt8.ofNat (48 + u)) (48 + u : Int) hc.symm)
      replace hr2 := Lib.hid hr2
      clear hc
      generalize UInt8.ofNat (48 + u) = c at *
      have hrl : r.length ≤ 21 := by
        have h1 := congrArg List.length hr2.out
        simp only [List.length_append] at h1
        omega
      go_wp2
      go_ret
      exact ⟨by rw [cat_one, ← hr2.out]; rfl, hb.out.alloc hb.out.size _⟩
end Go.Proofs.YtmgbebpkkidooaaDoor
