/- A part of the proof: JReadsL. No condition. -/
import Derived.BigQuiet
import Derived.Test.YtfajfflbplnagaaDoorQ30
import Derived.Test.YtfajfflbplnagaaDoorQ45
set_option linter.unusedVariables false
set_option linter.unusedSimpArgs false
namespace Go.Proofs.YtfajfflbplnagaaDoor
open Go.RowKit Go.Shelf
section
variable {w : World} {L cap : Nat} {a : Option Addr} {f : Nat → Nat}
theorem ireads_long (h20 : 20000 < L) (hW : WordsOK w) :
   Calls Tryd.prog 3 #[.slice a L cap] w fun e w' => e = .returned (.bool true) ∧ Below w.heap.size w w' := by
 have hA := awake14_any w hW;have hi : (20000 : Int) < (L : Int) := by omega
 clear hW;go_enter Tryd.func3, Tryd.ntmps3
 go_wp2_with (first
   | ((with_reducible refine hA.mono ?_); rintro e w' ⟨rfl, hb⟩))
 go_ret
 exact ⟨rfl, hb⟩
set_option maxRecDepth 20000 in
set_option maxHeartbeats 1000000 in
theorem ireads_main (h : By w a L f) (hl : L ≤ cap) (hm : cap ≤ 9223372036854775807) (hn : a = none → cap = 0) (h20 : L ≤ 20000) (hW : WordsOK w) :
   Calls Tryd.prog 3 #[.slice a L cap] w fun e w' => e = .returned (.bool true) ∧ Below w.heap.size w w' := by
 have hA := awake14_any w hW;have k1 := fun w' (hb : Below w.heap.size w w') => Read_any (h.kept (F := fun _ => False) (Only.of_below hb) (fun _ _ _ e => e)) hl hm hn (hW.below hb)
 have r1 := fun w' (hb : Below w.heap.size w w') => refRead_any (h.kept (F := fun _ => False) (Only.of_below hb) (fun _ _ _ e => e)) hl hm hn h20
 obtain ⟨Z, hZ⟩ := exHid (readR f L);rw [hZ.out] at k1 r1;obtain ⟨zl, zp, ze⟩ := Z;dsimp only at k1 r1;have hi : ¬ (20000 : Int) < (L : Int) := by omega
 replace k1 := Lib.hid k1;replace r1 := Lib.hid r1;clear hW h hZ;go_enter Tryd.func3, Tryd.ntmps3
 go_wp2_with fail
 refine hA.mono ?_;rintro e w1 ⟨rfl, hb1⟩;clear hA;replace hb1 := Lib.hid hb1;go_wp2_with fail
 refine (k1.out _ hb1.out).mono ?_;rintro e w2 ⟨v1, rfl, hI1, hb2⟩;have hk2 := Lib.hid (below_next hb1.out hb2);have hJ1 := Lib.hid hI1.insIn;clear k1 hI1 hb2;go_wp2_with fail
 refine (r1.out _ hk2.out).mono ?_;rintro e w3 ⟨v2, rfl, hI2, hb3⟩;have hk3 := Lib.hid (below_next hk2.out hb3);have hS := same_ins (hJ1.out.below hb3) hI2.insIn;clear r1 hI2 hb3 hJ1;go_wp2_with fail
 refine hS.mono ?_;rintro e w4 ⟨rfl, hb4⟩;have hk4 := Lib.hid (below_next hk3.out hb4);clear hS hb4;go_wp2_with fail
 go_ret
 exact ⟨rfl, hk4.out⟩
end
theorem instrReads_walk (v0 : Value) (w : World) (h0 : BytesIn w v0) (hW : WordsOK w) :
   Calls Tryd.prog 3 #[v0] w fun e w' => e = .returned (.bool true) ∧ Below w.heap.size w w' := by
 obtain ⟨a, L, cap, f, rfl, hB, hl, hm, hn⟩ := h0;rcases Nat.lt_or_ge 20000 L with h | h
 · exact ireads_long h hW
 · exact ireads_main hB hl hm hn h hW
end Go.Proofs.YtfajfflbplnagaaDoor
