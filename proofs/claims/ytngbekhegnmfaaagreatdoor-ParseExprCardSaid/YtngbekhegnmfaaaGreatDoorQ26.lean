/- A part of the proof: TAllR. No condition. -/
import Derived.Test.YtngbekhegnmfaaaGreatDoorQ25
set_option linter.unusedVariables false
set_option linter.unusedSimpArgs false
namespace Go.Proofs.YtngbekhegnmfaaaGreatDoor
open Go.RowKit Tok
set_option maxHeartbeats 400000 in
theorem refAll_long (s : ByteArray) (w : World) (hs : 16384 < s.size) (hs2 : s.size ≤ 20000) :
   Calls Tryz.prog 43 #[.string s] w fun e w' => e = .returned (.tuple #[.slice none 0 0, .int .i64 0, .int .i64 2]) ∧ w' = w := by
 have h1 : (16384 : Int) < (s.size : Int) := by omega
 go_enter Tryz.func43, Tryz.ntmps43
 go_wp2
 go_ret3
 exact ⟨rfl, rfl⟩
theorem refAll_every (s : ByteArray) (w : World) (hs : s.size ≤ 20000) : Calls Tryz.prog 43 #[.string s] w (AllPost s w) := by
 rcases Nat.lt_or_ge 16384 s.size with h | h
 · refine (refAll_long s w h hs).mono ?_
   rintro e w' ⟨rfl, rfl⟩;unfold AllPost;rw [allT_long h];exact ⟨_, rfl, TksAt.nil _ _, Below.refl _ _⟩
 · exact refAll_any s w h
end Go.Proofs.YtngbekhegnmfaaaGreatDoor
