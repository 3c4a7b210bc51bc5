/- A part of the proof: URt. No condition. -/
import Derived.Test.YtcabolfookofoaaGreatDoorRows
import Derived.WalkKit
import Derived.WalkSpells
import Derived.WalkLawsBesides
import Derived.Handy
import Derived.Lib.Hide
import Derived.Lib.ItoaLen
import Derived.LoopTactic
import Derived.Laws.BitsAllLaws
import Derived.Laws.Shifts
import Derived.Deep.RegionWith
import Derived.Laws.Concat
import Derived.Laws.BytesString
import Derived.Laws.IdiomStrings
import Derived.Test.YtcabolfookofoaaGreatDoorQ02
set_option linter.unusedVariables false
set_option linter.unusedSimpArgs false
namespace Go.Proofs.YtcabolfookofoaaGreatDoor
open Go.RowKit
theorem ret_agg3 {b b' : Bool} {x x' y y' : Int} (h1 : b = b') (h2 : x = x') (h3 : y = y') : Ending.returned (.agg #[.bool b, .int .u64 x, .int .u64 y]) = .returned (.agg #[.bool b', .int .u64 x', .int .u64 y']) := by rw [h1, h2, h3]
set_option maxHeartbeats 400000 in
theorem of_any (a : Int) (w : World) (ha : I64 a) :
   Calls Tryz.prog 88 #[.int .i64 a] w fun e w' => e = .returned (.agg #[.bool (decide (a < 0)), .int .u64 0, .int .u64 (a.natAbs : Int)]) ∧ Below w.heap.size w w' := by
 obtain ⟨a1, a2⟩ := ha;by_cases h : a < 0
 all_goals
   go_enter Tryz.func88, Tryz.ntmps88
   go_wp2
   go_returns
   refine ⟨ret_agg3 (by simp [h]) rfl ?_, by go_grown⟩
   try simp only [IntKind.wrap_u64] at *
   try omega
theorem of_is {a : Int} {s : Bool} {x : Nat} (Hs : Hid (decide (a < 0) = s)) (Hx : Hid (a.natAbs = x)) (ha : I64 a) (w : World) :
   Calls Tryz.prog 88 #[.int .i64 a] w fun e w' => e = .returned (.agg #[.bool s, .int .u64 0, .int .u64 (x : Int)]) ∧ Below w.heap.size w w' :=
 (of_any a w ha).mono fun e w' ⟨he, hw⟩ => ⟨by rw [he, Hs.out, Hx.out], hw⟩
theorem conv_one (w : World) (v : Int) (c : UInt8) (h : (c.toNat : Int) = v) :
   (convert 36 9 (.slice (some ⟨w.heap.size, 0, none⟩) 1 1)).run Tryz.prog (w.alloc (.cells #[.int .u8 v] 5)) = .ok (.string ⟨#[c]⟩) (w.alloc (.cells #[.int .u8 v] 5)) := by
 have := run_convert_bytes_back (P := Tryz.prog) (w.alloc (.cells #[.int .u8 v] 5)) 36 9 5 ⟨w.heap.size, 0, none⟩ 1 [c] Tryz.underlying36 Tryz.underlying5 Tryz.underlying9 (fun j hj => by
   obtain rfl : j = 0 := by simpa using hj
   show (w.alloc (.cells #[.int .u8 v] 5)).cell? ⟨w.heap.size, 0 + 0, none⟩ = _
   rw [World.cell?_alloc_new];simp [h])
 exact this
theorem dec_len (x : Nat) (h : x ≤ 9223372036854775808) : (Lib.decDigits x).length ≤ 20 := by
 by_cases hx : x ≤ 9223372036854775807
 · have := Lib.itoa_length_le (x : Int) (by omega) (by omega)
   rw [Lib.itoa_nonneg] at this;have h2 := Lib.itoa_length_le (-(x : Int)) (by omega) (by omega);by_cases h0 : x = 0
   · subst h0; rw [Lib.decDigits_one (by omega)]; simp
   · rw [Lib.itoa_neg x (by omega)] at h2
     simp at h2
     omega
 · have h2 := Lib.itoa_length_le (-9223372036854775808) (by omega) (by omega)
   have e : (-9223372036854775808 : Int) = -((9223372036854775808 : Nat) : Int) := by decide
   rw [e, Lib.itoa_neg 9223372036854775808 (by omega)] at h2;rw [show x = 9223372036854775808 by omega];simp at h2
   omega
theorem dec_more (n : Nat) (h : 9 < n) (l : List UInt8) : Lib.decDigits (n / 10) ++ (UInt8.ofNat (48 + n % 10) :: l) = Lib.decDigits n ++ l := by
 rw [Lib.decDigits.eq_def n, dif_neg (by omega), List.append_assoc]; rfl
set_option maxRecDepth 20000 in
set_option maxHeartbeats 1000000 in
theorem refText_any (a : Int) (w : World) (ha : I64 a) :
   Calls Tryz.prog 57 #[.int .i64 a] w fun e w' => e = .returned (.string ⟨(Lib.itoa a).toArray⟩) ∧ Below w.heap.size w w' := by
 have ha' := ha;obtain ⟨a1, a2⟩ := ha';obtain ⟨x, hx⟩ := exHid a.natAbs;obtain ⟨sg, hsg⟩ := exHid (decide (a < 0));have hxb : x ≤ 9223372036854775808 := by rw [← hx.out]; omega
 have hk := Below.refl w.heap.size w;have hlen := dec_len x hxb;go_enter Tryz.func57, Tryz.ntmps57
 go_wp2_with (first
   | ((with_reducible refine (of_is hsg hx ha _).mono ?_); rintro e w1 ⟨rfl, hb1⟩; have hk1 : Below w.heap.size w _ := below_next (by go_grown) hb1; have hz1 := hk1.size))
 go_loopw [4, 5] (fun v i wr => ∃ (n : Nat) (l : List UInt8), i = .int .u64 n ∧ v = .string ⟨l.toArray⟩ ∧ Lib.decDigits n ++ l = Lib.decDigits x ∧ n ≤ x ∧ Below w.heap.size w wr ∧ w1.heap.size < wr.heap.size ∧ wr.cell? ⟨w1.heap.size, 0, none⟩ = some (.bool sg)) (fun _ i _ => (intOf i).toNat)
 case atStart =>
   exact ⟨x, [], rfl, rfl, by simp, Nat.le_refl _, by go_grown, by simp, World.cell?_alloc_new _ _ _ _⟩
 case round =>
   obtain ⟨n, l, rfl, rfl, hd, hn, hb, hsz, hcell⟩ := hrel;have hll : l.length ≤ 20 := by
     have := congrArg List.length hd;rw [List.length_append] at this;omega
   have hsz0 := hb.size;have hkeep : ∀ o, (wr.alloc o).cell? ⟨w1.heap.size, 0, none⟩ = some (.bool sg) := fun o => by
     rw [World.cell?_alloc_old _ _ _ (by simp; omega)]; exact hcell
   by_cases h9 : 9 < n
   · have hmore := dec_more n h9 l
     rw [hd] at hmore;obtain ⟨c, hc⟩ : ∃ c, UInt8.ofNat (48 + n % 10) = c := ⟨_, rfl⟩;have hcv : (c.toNat : Int) = 48 + (n : Int) % 10 := by rw [← hc]; simp; omega
     rw [hc] at hmore;replace hmore := Lib.hid hmore;replace hd := Lib.hid hd;replace hc := Lib.hid hc;have hconv := conv_one wr (48 + (n : Int) % 10) c hcv;have hcat := Lib.hid (ByteArray.mk_append_mk [c] l);replace hcv := Lib.hid hcv;go_wp2
     go_roundw
     case rel => exact ⟨n / 10, c :: l, by go_num, by rw [hcat.out]; rfl, hmore.out, by omega, by go_grown, by simp; omega, hkeep _⟩
     case measure => simp [intOf]; omega
   · obtain ⟨c, hc⟩ : ∃ c, UInt8.ofNat (48 + n) = c := ⟨_, rfl⟩
     have hcv : (c.toNat : Int) = 48 + (n : Int) := by rw [← hc]; simp; omega
     have hone : c :: l = Lib.decDigits x := by
       rw [← hd, Lib.decDigits_one (by omega), hc]; rfl
     replace hone := Lib.hid hone;replace hd := Lib.hid hd;replace hc := Lib.hid hc;have hconv := conv_one wr (48 + (n : Int)) c hcv;have hcat := Lib.hid (ByteArray.mk_append_mk [c] l);have hcat2 := Lib.hid (ByteArray.mk_append_mk [45] (c :: l));replace hcv := Lib.hid hcv;have hneg : Hid (sg = true → (45 :: Lib.decDigits x) = Lib.itoa a) := by
       show sg = true → (45 :: Lib.decDigits x) = Lib.itoa a
       intro h;rw [h] at hsg;have := of_decide_eq_true hsg.out;unfold Lib.itoa;rw [if_pos this, hx.out]
     have hpos : Hid (sg = false → Lib.decDigits x = Lib.itoa a) := by
       show sg = false → Lib.decDigits x = Lib.itoa a
       intro h;rw [h] at hsg;have := of_decide_eq_false hsg.out;unfold Lib.itoa;rw [if_neg this, ← hx.out]
       congr 1
       omega
     cases sg
     · go_wp2
       go_ret
       refine ⟨?_, by go_grown⟩;rw [← hpos.out trivial, ← hone.out];exact congrArg (fun b => Ending.returned (.string b)) hcat.out
     · go_wp2
       go_ret
       refine ⟨?_, by go_grown⟩;rw [← hneg.out trivial, ← hone.out];refine congrArg (fun b => Ending.returned (.string b)) ?_;rw [show (45 :: c :: l : List UInt8) = [45] ++ (c :: l) from rfl, ← hcat2.out];exact congrArg (fun b => (⟨#[45]⟩ : ByteArray) ++ b) hcat.out
end Go.Proofs.YtcabolfookofoaaGreatDoor
