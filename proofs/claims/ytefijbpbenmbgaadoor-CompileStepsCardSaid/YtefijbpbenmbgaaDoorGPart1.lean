/- compile's part and parts (layer 15): what they are asked; parts, walked. No condition. -/
import Derived.Test.YtefijbpbenmbgaaDoorGFill
import Derived.Test.YtefijbpbenmbgaaDoorGLone
import Derived.Test.YtefijbpbenmbgaaDoorCkR
namespace Go.Proofs.YtefijbpbenmbgaaDoor
open Go.RowKit Go.Shelf

/-- What a call comes to that writes the code of trees. -/
def GP (w0 : World) (bc : Nat) (rest : List Tw) (F : Fs) (code : List Ins) (w : World) (e : Ending) (w' : World) : Prop :=
  e = .returned (.tuple #[]) ∧ ∃ c, Gens F code.length c ∧ CM w0 w' bc rest (code ++ c) ∧ Only (Fcm w0.heap.size w) w w'
/-- part writes the code of a tree. -/
def PartOK (w0 : World) (bc : Nat) (x : Tw) (k : Fs) : Prop := ∀ (w : World) (rest : List Tw) (code : List Ins), CM w0 w bc (x :: (k.flat ++ rest)) code → code.length + 3 * (1 + k.flat.length) ≤ 1000000 →
  Calls Tryd.prog 13 #[.pointer (some ⟨bc, 0, none⟩)] w (GP w0 bc rest (.cons x k .nil) code w)
set_option maxRecDepth 20000 in
set_option maxHeartbeats 2000000 in
theorem parts_any {w0 : World} {bc : Nat} {F : Fs} (hF : AllP (PartOK w0 bc) F) {w : World} {rest : List Tw} {code : List Ins} (hM : CM w0 w bc (F.flat ++ rest) code) (hk : code.length + 3 * F.flat.length ≤ 1000000) :
    Calls Tryd.prog 19 #[.pointer (some ⟨bc, 0, none⟩), .int .i64 F.count] w (GP w0 bc rest F code w) := by
  have hcl := count_le F
  obtain ⟨n, hn⟩ := exHid F.count
  rw [hn.out]
  have hnb : n ≤ 1000000 := by have := hn.out; omega
  have st : Hid (∀ d, Gens F (code.length + ([] : List Ins).length) d → Gens F code.length ([] ++ d)) := Lib.hid (fun d h => h)
  have hM0 : Hid (CM w0 w bc (F.flat ++ rest) (code ++ [])) := Lib.hid (by rw [List.append_nil]; exact hM)
  have hk0 : Hid ((code ++ ([] : List Ins)).length + 3 * F.flat.length ≤ 1000000) := Lib.hid (by rw [List.append_nil]; exact hk)
  have hj0 : Hid (0 + F.count = n) := Lib.hid (by have := hn.out; omega)
  replace hF := Lib.hid hF
  clear hM hcl hk hn
  go_enter Tryd.func19, Tryd.ntmps19
  go_wp2_with fail
  go_loopw [5] (fun t5 wr => ∃ (j : Nat) (R : Fs) (c : List Ins), t5 = .int .i64 j ∧ Hid (j + R.count = n) ∧ Hid (CM w0 wr bc (R.flat ++ rest) (code ++ c)) ∧ Hid (∀ d, Gens R (code.length + c.length) d → Gens F code.length (c ++ d)) ∧ Hid (AllP (PartOK w0 bc) R) ∧ Hid ((code ++ c).length + 3 * R.flat.length ≤ 1000000) ∧ Hid (Only (Fcm w0.heap.size w) w wr)) (fun t5 _ => n - (intOf t5).toNat)
  case atStart => exact ⟨0, F, [], rfl, hj0, hM0, st, hF, hk0, Lib.hid (Only.refl _ _)⟩
  case round =>
    clear hM0 st hF hk0 hj0
    obtain ⟨j, R, c, rfl, hjk, hMr, hcr, hAr, hkr, hor⟩ := hrel
    cases R with
    | cons y ky r =>
      have hlt : (j : Int) < (n : Int) := by have := hjk.out; have h2 : (Fs.cons y ky r).count = r.count + 1 := rfl; omega
      have hfl : (Fs.cons y ky r).flat = y :: (ky.flat ++ r.flat) := rfl
      have hm2 := hMr.out
      have hk2 := hkr.out
      rw [hfl, List.cons_append, List.append_assoc] at hm2
      simp only [hfl, List.length_cons, List.length_append] at hk2
      have kP := Lib.hid (hAr.out.1 wr (r.flat ++ rest) (code ++ c) hm2 (by simp only [List.length_append]; omega))
      replace hk2 := Lib.hid hk2
      have hjb : (j : Int) + 1 ≤ 1000000 := by omega
      clear hMr hm2 hkr hfl
      go_wp2_with fail
      refine kP.out.mono ?_
      rintro e' w5 ⟨rfl, cy, hg, hM5, hoP⟩
      have ho5 := Lib.hid (cm_then hor.out hoP)
      have hl := gens_len hg
      rw [flat_one, List.length_cons] at hl
      have hk5 : Hid ((code ++ (c ++ cy)).length + 3 * r.flat.length ≤ 1000000) := Lib.hid (by have := hk2.out; simp only [List.length_append] at *; omega)
      rw [List.append_assoc] at hM5
      replace hM5 := Lib.hid hM5
      have hc5 : Hid (∀ d, Gens r (code.length + (c ++ cy).length) d → Gens F code.length ((c ++ cy) ++ d)) := Lib.hid (fun d hd => by
        rw [List.append_assoc]
        refine hcr.out _ (.seq ?_ ?_)
        · rw [← List.length_append]; exact hg
        · rw [List.length_append, ← Nat.add_assoc] at hd; exact hd)
      have hj5 : Hid (j + 1 + r.count = n) := Lib.hid (by have := hjk.out; have h2 : (Fs.cons y ky r).count = r.count + 1 := rfl; omega)
      clear kP hoP hor hl hg hcr hk2 hjk
      go_wp2_with fail
      go_roundw
      case rel => exact ⟨j + 1, r, c ++ cy, by go_num, hj5, hM5, hc5, Lib.hid hAr.out.2, hk5, ho5⟩
      case measure => simp [intOf]; omega
    | nil =>
      have hlt : ¬ (j : Int) < (n : Int) := by have := hjk.out; have h2 : Fs.nil.count = 0 := rfl; omega
      have hfin := hcr.out [] (.nil _)
      rw [List.append_nil] at hfin
      have hm2 : CM w0 wr bc rest (code ++ c) := hMr.out
      replace hfin := Lib.hid hfin
      replace hm2 := Lib.hid hm2
      clear hMr hcr hAr hkr hjk
      go_wp2_with fail
      refine bodyPost_end (results_none rfl _ _ _) rfl ?_
      exact ⟨rfl, c, hfin.out, hm2.out, hor.out⟩
end Go.Proofs.YtefijbpbenmbgaaDoor
