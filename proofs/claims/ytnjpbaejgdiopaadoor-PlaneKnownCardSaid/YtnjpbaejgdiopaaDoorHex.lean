/- The library's strconv.FormatUint at base 16: the digits of every number of 64 bits, the most worth first, no nought ahead. -/
import Derived.Test.YtnjpbaejgdiopaaDoorNum
import Derived.Test.YtnjpbaejgdiopaaDoorRows
import Derived.WalkKit
import Derived.WalkSpells
import Derived.WalkLawsBesides
import Derived.Handy
import Derived.Lib.Hide
import Derived.Laws.BitsAllLaws
import Derived.Lib.LaidTab
import Derived.Lib.ItoaMem
import Derived.BigGuard
import Derived.RegionTactic
namespace Go.Proofs.YtnjpbaejgdiopaaDoor
open Go.RowKit

def deb64 : List Int := [0, 1, 56, 2, 57, 49, 28, 3, 61, 58, 42, 50, 38, 29, 17, 4, 62, 47, 59, 36, 45, 43, 51, 22, 53, 39, 33, 30, 24, 18, 12, 5, 63, 55, 48, 27, 60, 41, 37, 16, 46, 35, 44, 21, 52, 32, 23, 11, 54, 26, 40, 15, 34, 20, 31, 10, 25, 14, 19, 9, 13, 8, 7, 6]
/-- The library's table by which noughts are counted reads as its text lays it. -/
def DebOK (w : World) : Prop := Lib.TabIs Tryd.prog w "math/bits.deBruijn64tab" .u8 deb64
theorem deb_num : Tryd.prog.globalNamed "math/bits.deBruijn64tab" = some 4 := by kernel_rfl

theorem DebOK.cell {w : World} (h : DebOK w) : w.cell? ⟨4, 15, none⟩ = some (.int .u8 4) := by
  have := Lib.TabIs.cell h deb_num 15 (by decide)
  exact this

set_option maxHeartbeats 400000 in
theorem pow2_16 (w : World) : Calls Tryd.prog 48 #[.int .i64 16] w fun e w' => e = .returned (.bool true) ∧ w = w' := by
  have e : bits .and .i64 16 15 = 0 := by decide
  go_enter Tryd.func48, Tryd.ntmps48
  go_wp2
  go_ret
  exact ⟨rfl, rfl⟩

set_option maxHeartbeats 400000 in
theorem tz64_16 (w : World) (h : DebOK w) : Calls Tryd.prog 53 #[.int .u64 16] w fun e w' => e = .returned (.int .i64 4) ∧ w = w' := by
  have hc := h.cell
  have e1 : bits .and .u64 16 (IntKind.u64.wrap (-16)) = 16 := by decide
  have e2 : IntKind.u64.wrap 4573923408821661840 / 288230376151711744 = 15 := by decide
  go_enter Tryd.func53, Tryd.ntmps53
  go_wp2
  go_ret
  exact ⟨rfl, rfl⟩

set_option maxHeartbeats 400000 in
theorem tz_16 (w : World) (h : DebOK w) : Calls Tryd.prog 49 #[.int .u64 16] w fun e w' => e = .returned (.int .i64 4) ∧ w = w' := by
  go_enter Tryd.func49, Tryd.ntmps49
  go_wp2_with ((with_reducible refine (tz64_16 _ h).mono ?_); rintro e w' ⟨rfl, rfl⟩)
  go_ret
  exact ⟨rfl, rfl⟩

/-- A digit to the base 16. -/
def hexD (d : Nat) : Nat := if d < 10 then 48 + d else 87 + d

theorem DebOK.alloc {w : World} (h : DebOK w) (o : Obj) : DebOK (w.alloc o) := Lib.tabIs_alloc h o

def zeros65 : Array Value := Array.replicate 65 (.int .u8 0)
theorem zeros65_at (i : Nat) (h : i < 65) : zeros65[i]? = some (.int .u8 0) := by
  unfold zeros65
  rw [Array.getElem?_replicate, if_pos h]
theorem zero65 (w : World) : (zeroValue 76).run Tryd.prog w = .ok (.agg zeros65) w := by kernel_rfl

/-- The block's bytes are f. -/
def Buf (W : World) (B : Nat) (f : Nat → Nat) : Prop := ∀ t, t < 65 → W.cell? ⟨B, t, none⟩ = some (.int .u8 (f t)) ∧ W.frozen? ⟨B, t, none⟩ = false
def dg (U t : Nat) : Nat := hexD (U / 16 ^ (64 - t) % 16)
def HB (w : World) (U n : Nat) (W : World) : Prop := ∃ f, Buf W w.heap.size f ∧ (∀ t, n ≤ t → t < 65 → f t = dg U t) ∧ Below w.heap.size w W

theorem HB.start (w : World) (U : Nat) (T : TypeId) : HB w U 65 (w.alloc (.cells zeros65 T)) :=
  ⟨fun _ => 0, fun t ht => ⟨by rw [World.cell?_alloc_new]; exact zeros65_at t ht, World.frozen?_alloc_new _ _ _ _⟩, fun t h1 h2 => by omega, (Below.refl _ _).alloc (Nat.le_refl _) _⟩

theorem HB.next {w W : World} {U n k d : Nat} {f : Nat → Nat} (h1 : Buf W w.heap.size f) (h2 : ∀ t, n ≤ t → t < 65 → f t = dg U t) (h3 : Below w.heap.size w W) (hn : 1 ≤ n) (hnk : n + k = 65) (hd : U / 16 ^ k % 16 = d) :
    HB w U (n - 1) (W.setCell ⟨w.heap.size, n - 1, none⟩ (.int .u8 (hexD d : Nat))) := by
  refine ⟨fun t => if t = n - 1 then hexD d else f t, fun t ht => ?_, fun t t1 t2 => ?_, h3.setCell (Nat.le_refl _) _⟩
  · obtain ⟨c1, c2⟩ := h1 t ht
    refine ⟨?_, by rw [World.frozen?_setCell]; exact c2⟩
    by_cases e : t = n - 1
    · subst e
      dsimp only
      rw [if_pos rfl]
      exact World.cell?_setCell_same _ _ _ c1
    · dsimp only
      rw [if_neg e, World.cell?_setCell_other _ _ _ _ (by intro h; simp at h)]
      exact c1
  · by_cases e : t = n - 1
    · subst e
      dsimp only
      rw [if_pos rfl]
      unfold dg
      rw [show 64 - (n - 1) = k by omega, hd]
    · dsimp only
      rw [if_neg e]
      exact h2 t (by omega) t2

theorem pow16_next {U v k : Nat} (hv : v = U / 16 ^ k) : v / 16 = U / 16 ^ (k + 1) := by
  rw [hv, Nat.pow_succ, Nat.div_div_eq_div_mul]
theorem pow16_few {U v k : Nat} (hU : U < 18446744073709551616) (hv : v = U / 16 ^ k) (hk : k ≤ 15) (hlt : 16 ≤ v) : k + 1 ≤ 15 := by
  rcases Nat.lt_or_ge k 15 with h | h
  · omega
  · obtain rfl : k = 15 := by omega
    have : (16 : Nat) ^ 15 = 1152921504606846976 := by decide
    rw [this] at hv
    omega

/-- The digits of U, the last k + 1 of them, the most worth first. -/
def hexS (U k : Nat) : List UInt8 := (List.range (k + 1)).map fun j => (dg U (64 - k + j)).toUInt8

theorem hexD_le (d : Nat) (h : d < 16) : hexD d < 256 := by unfold hexD; split <;> omega
theorem dg_le (U t : Nat) : dg U t < 256 := hexD_le _ (by omega)

theorem HB.reads {w W : World} {U n k : Nat} (h : HB w U n W) (hnk : n + k = 64) (j : Nat) (hj : j < (hexS U k).length) :
    W.cell? (Addr.add ⟨w.heap.size, n, none⟩ j) = some (.int .u8 ((hexS U k)[j].toNat : Int)) := by
  obtain ⟨f, h1, h2, _⟩ := h
  have hj' : j < k + 1 := by simpa [hexS] using hj
  rw [Lib.add_plain, (h1 (n + j) (by omega)).1, h2 _ (by omega) (by omega)]
  have e : (hexS U k)[j] = (dg U (n + j)).toUInt8 := by simp [hexS, show 64 - k = n by omega]
  rw [e]
  have := dg_le U (n + j)
  simp; omega

/-- What is told: just the digits of U, without a nought ahead. -/
def FbPost (U : Nat) (w : World) (e : Ending) (w' : World) : Prop := ∃ k, k ≤ 15 ∧ U / 16 ^ k < 16 ∧ (k = 0 ∨ 16 ≤ U / 16 ^ (k - 1)) ∧ e = .returned (.tuple #[.slice none 0 0, .string ⟨(hexS U k).toArray⟩]) ∧ Below w.heap.size w w'

theorem hexS_length (U k : Nat) : (hexS U k).length = k + 1 := by simp [hexS]

theorem HB.string {w W : World} {U n k : Nat} (h : HB w U n W) (hnk : n + k = 64) :
    (convert 51 9 (.slice (some ⟨w.heap.size, n, none⟩) (k + 1) (k + 1))).run Tryd.prog W = .ok (.string ⟨(hexS U k).toArray⟩) W := by
  have := run_convert_bytes_back (P := Tryd.prog) W 51 9 5 ⟨w.heap.size, n, none⟩ (k + 1) (hexS U k) Tryd.underlying51 Tryd.underlying5 Tryd.underlying9 (fun j hj => h.reads hnk j hj)
  rw [hexS_length] at this
  exact this

theorem slice65 (a : Addr) (n k : Nat) (hn : 1 ≤ n) (hnk : n + k = 65) (W : World) :
    (Instr.sliceAt 76 (.pointer (some a)) (some (.int .i64 ((n : Int) - 1))) none none).run Tryd.prog W = .ok (.slice (some (a.add (n - 1))) (k + 1) (k + 1)) W := by
  have hal : Tryd.prog.arrayLen 76 = 65 := by simp [Program.arrayLen, Tryd.underlying76]
  rw [run_sliceAt_array_l W 76 a (by simp [Program.arrayLen, Program.elem, Tryd.underlying76]) .i64 _ (by omega) (by rw [hal]; omega)]
  have he : Tryd.prog.elem 76 = 5 := by simp [Program.elem, Tryd.underlying76]
  rw [hal, he, Tryd.sizeOf5]
  simp only [slicedAt, Result.andThen]
  rw [if_neg (by omega), show ((n : Int) - 1).toNat = n - 1 by omega, show 65 - (n - 1) = k + 1 by omega, Nat.mul_one]

def digs : ByteArray := ⟨#[48, 49, 50, 51, 52, 53, 54, 55, 56, 57, 97, 98, 99, 100, 101, 102, 103, 104, 105, 106, 107, 108, 109, 110, 111, 112, 113, 114, 115, 116, 117, 118, 119, 120, 121, 122]⟩
theorem digs_at (d : Nat) (h : d < 16) (w : World) : (Instr.index 9 (.string digs) (.int .u64 (d : Int))).run Tryd.prog w = .ok (.int .u8 (hexD d : Nat)) w := by
  have : d = 0 ∨ d = 1 ∨ d = 2 ∨ d = 3 ∨ d = 4 ∨ d = 5 ∨ d = 6 ∨ d = 7 ∨ d = 8 ∨ d = 9 ∨ d = 10 ∨ d = 11 ∨ d = 12 ∨ d = 13 ∨ d = 14 ∨ d = 15 := by omega
  rcases this with rfl | rfl | rfl | rfl | rfl | rfl | rfl | rfl | rfl | rfl | rfl | rfl | rfl | rfl | rfl | rfl <;> rfl
theorem and15 {v : Nat} (h : v < 18446744073709551616) : bits .and .u64 (v : Int) 15 = ((v % 16 : Nat) : Int) := by
  have e := u64_and_nat v 15 h (by omega)
  rw [show ((15 : Nat) : Int) = 15 by rfl] at e
  rw [e, show 15 = 2 ^ 4 - 1 by decide, Nat.and_two_pow_sub_one_eq_mod]

set_option maxRecDepth 100000 in
set_option maxHeartbeats 1000000 in
theorem fbits_any (U : Nat) (hU : U < 18446744073709551616) (w : World) (h : DebOK w) :
    Calls Tryd.prog 39 #[.slice none 0 0, .int .u64 U, .int .i64 16, .bool false, .bool false] w fun e w' => FbPost U w e w' := by
  have hd := h.alloc
  have hz := zero65
  go_enter Tryd.func39, Tryd.ntmps39
  go_name_bytes PT hPT
  clear hPT
  go_name_bytes DG hDG
  have eDG : DG = digs := by rw [← hDG]; decide +kernel
  subst eDG
  clear hDG
  go_wp2_with (first
    | ((with_reducible refine (pow2_16 _).mono ?_); rintro e w' ⟨rfl, rfl⟩)
    | ((with_reducible refine (tz_16 _ (hd _)).mono ?_); rintro e w' ⟨rfl, rfl⟩))
  clear hz hd h
  go_loopw [1, 13] (fun u i wr => ∃ k n v : Nat, n + k = 65 ∧ k ≤ 15 ∧ i = .int .i64 n ∧ u = .int .u64 v ∧ Hid (v = U / 16 ^ k) ∧ Hid (k = 0 ∨ 16 ≤ U / 16 ^ (k - 1)) ∧ v < 18446744073709551616 ∧ Hid (HB w U n wr)) (fun u _ _ => (RowKit.intOf u).toNat)
  case atStart => exact ⟨0, 65, U, by omega, by omega, rfl, rfl, by show U = U / 16 ^ 0; simp, Or.inl rfl, hU, HB.start _ _ _⟩
  case round =>
    obtain ⟨k, n, v, hnk, hk, rfl, rfl, hv, hks, hv64, hB⟩ := hrel
    by_cases hlt : 16 ≤ v
    · obtain ⟨d, hdd⟩ := exHid (v % 16)
      have hd16 : d < 16 := by rw [← hdd.out]; omega
      have ha := and15 hv64
      rw [hdd.out] at ha
      have hx := digs_at d hd16
      obtain ⟨f, hf1, hf2, hf3⟩ := hB.out
      obtain ⟨hc, hfz⟩ := hf1 (n - 1) (by omega)
      have F1 := Lib.hid hf1
      have F2 := Lib.hid hf2
      clear hf1 hf2
      have hn1 : 1 ≤ n := by omega
      go_wp2
      go_roundw
      case rel =>
        refine ⟨k + 1, n - 1, v / 16, by omega, pow16_few hU hv.out hk hlt, by go_num, by go_num, pow16_next hv.out, ?_, by omega, ?_⟩
        · exact .inr (by show 16 ≤ U / 16 ^ k; rw [← hv.out]; exact hlt)
        · exact HB.next F1.out F2.out hf3 hn1 hnk (by rw [← hv.out]; exact hdd.out)
      case measure => simp [intOf]; omega
    · have hx := digs_at v (by omega)
      obtain ⟨f, hf1, hf2, hf3⟩ := hB.out
      obtain ⟨hc, hfz⟩ := hf1 (n - 1) (by omega)
      have hn1 : 1 ≤ n := by omega
      have HN := Lib.hid (HB.next hf1 hf2 hf3 hn1 hnk (show U / 16 ^ k % 16 = v by rw [← hv.out]; omega))
      have hcv := HB.string HN.out (show n - 1 + k = 64 by omega)
      have hsl := slice65 ⟨w.heap.size, 0, none⟩ n k hn1 hnk
      clear hf1 hf2
      go_wp2
      go_ret2
      obtain ⟨_, _, _, hB2⟩ := HN.out
      exact ⟨k, hk, by rw [← hv.out]; omega, hks.out, rfl, hB2⟩

/-- The text of a number to the base 16. -/
def HexPost (U : Nat) (w : World) (e : Ending) (w' : World) : Prop := ∃ k, k ≤ 15 ∧ U / 16 ^ k < 16 ∧ (k = 0 ∨ 16 ≤ U / 16 ^ (k - 1)) ∧ e = .returned (.string ⟨(hexS U k).toArray⟩) ∧ Below w.heap.size w w'

set_option maxHeartbeats 400000 in
theorem ifmt_any (U : Nat) (hU : U < 18446744073709551616) (w : World) (h : DebOK w) :
    Calls Tryd.prog 29 #[.int .u64 U, .int .i64 16] w (HexPost U w) := by
  go_enter Tryd.func29, Tryd.ntmps29
  go_wp2_with ((with_reducible refine (fbits_any U hU _ h).mono ?_); rintro e w' ⟨k, hk, h1, h2, rfl, hb⟩; have H2 := Lib.hid h2; clear h2)
  go_ret
  exact ⟨k, hk, h1, H2.out, rfl, hb⟩

set_option maxHeartbeats 400000 in
theorem fmt_any (U : Nat) (hU : U < 18446744073709551616) (w : World) (h : DebOK w) :
    Calls Tryd.prog 26 #[.int .u64 U, .int .i64 16] w (HexPost U w) := by
  go_enter Tryd.func26, Tryd.ntmps26
  go_wp2_with ((with_reducible refine (ifmt_any U hU _ h).mono ?_); rintro e w' ⟨k, hk, h1, h2, rfl, hb⟩; have H2 := Lib.hid h2; clear h2)
  go_ret
  exact ⟨k, hk, h1, H2.out, rfl, hb⟩
end Go.Proofs.YtnjpbaejgdiopaaDoor
