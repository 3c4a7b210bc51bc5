/- A part of the proof: IFit. No condition. -/
import Derived.Test.YtcabolfookofoaaGreatDoorQ35
import Derived.Test.YtcabolfookofoaaGreatDoorQ36
import Derived.Test.YtcabolfookofoaaGreatDoorQ37
import Derived.Test.YtcabolfookofoaaGreatDoorQ38
set_option linter.unusedVariables false
set_option linter.unusedSimpArgs false
namespace Go.Proofs.YtcabolfookofoaaGreatDoor
open Go.RowKit HI
section
variable {B gt g b p p0 : Nat} {cv : Value} {d : List Int} {L : List T} {w : World} {gn : Nat → Bool} {code : List Ins}
theorem through_any (h : ThrIn B w gt g b cv d L p gn code p0) :
   Calls Tryz.prog 70 #[.pointer (some ⟨gt, 0, none⟩), .int .i64 p0, .int .i64 (d.getD p0 (-1))] w fun e w' => MetPost B gt g b cv (p + 2) gn (stepI code d p0) e w w' := by
 rcases Int.lt_or_le (d.getD p0 (-1)) (takesI (inAt code p0)) with hs | hs
 · exact thr_short h hs
 · by_cases o8 : (inAt code p0).op = 8
   · exact thr_e8 h o8 hs
   by_cases o9 : (inAt code p0).op = 9
   · exact thr_e9 h o9 hs
   by_cases o28 : (inAt code p0).op = 28
   · exact thr_e28 h o28 hs
   by_cases o1 : (inAt code p0).op = 1
   · exact thr_jump h o1 hs
   by_cases o2 : (inAt code p0).op = 2
   · cases hr : meetI d (inAt code p0).a.toNat (thereI (inAt code p0) (d.getD p0 (-1))) with
     | none => exact thr_branch_none h o2 hs hr
     | some d1 => exact thr_branch_some h o2 hs hr
   by_cases o3 : (inAt code p0).op = 3
   · cases hr : meetI d (inAt code p0).a.toNat (thereI (inAt code p0) (d.getD p0 (-1))) with
     | none => exact thr_or_none h o3 hs hr
     | some d1 => exact thr_or_some h o3 hs hr
   by_cases o4 : (inAt code p0).op = 4
   · cases hr : meetI d (inAt code p0).a.toNat (thereI (inAt code p0) (d.getD p0 (-1))) with
     | none => exact thr_and_none h o4 hs hr
     | some d1 => exact thr_and_some h o4 hs hr
   by_cases o53 : (inAt code p0).op = 53
   · cases hr : meetI d (inAt code p0).a.toNat (thereI (inAt code p0) (d.getD p0 (-1))) with
     | none => exact thr_fork_none h o53 hs hr
     | some d1 => exact thr_fork_some h o53 hs hr
   exact thr_rest h ⟨o8, o9, o28, o1, o2, o3, o4, o53⟩ hs
end
theorem takesR_le (op : Nat) : takesR op ≤ 2 := by unfold takesR; (repeat' split) <;> omega
theorem right_takes {x : Ins} {n : Int} (h : rightI x n = true) : 0 ≤ takesI x ∧ takesI x ≤ 2048 ∧ (akI x.op = 1 → 0 ≤ x.a ∧ x.a < n) := by
 unfold rightI at h;simp only [Bool.and_eq_true] at h;obtain ⟨⟨⟨_, h1⟩, _⟩, _⟩ := h;unfold aOK at h1;have h2 := takesR_le x.op;unfold takesI;refine ⟨?_, ?_, fun hk => ?_⟩
 · split
   · rename_i hk
     rw [hk] at h1;simp at h1
     exact h1.1
   · omega
 · split
   · rename_i hk
     rw [hk] at h1;simp at h1
     exact h1.2
   · omega
 · rw [if_pos hk] at h1
   exact of_decide_eq_true h1
def AllRt (code : List Ins) : Prop := ∀ p, p < code.length → rightI (inAt code p) code.length = true
theorem inAt_over {code : List Ins} {p : Nat} (h : code.length ≤ p) : inAt code p = ⟨0, 0, 0, []⟩ := by
 unfold inAt;rw [List.getD_eq_getElem?_getD, List.getElem?_eq_none h]; rfl
theorem AllRt.takes {code : List Ins} (h : AllRt code) (p : Nat) : 0 ≤ takesI (inAt code p) ∧ takesI (inAt code p) ≤ 2048 := by
 rcases Nat.lt_or_ge p code.length with hp | hp
 · have := right_takes (h p hp)
   exact ⟨this.1, this.2.1⟩
 · rw [inAt_over hp]
   decide
theorem AllRt.goal {code : List Ins} (h : AllRt code) {p : Nat} (hp : p < code.length) (hk : akI (inAt code p).op = 1) : 0 ≤ (inAt code p).a ∧ (inAt code p).a < code.length := (right_takes (h p hp)).2.2 hk
theorem allRt_of {code : List Ins} (h : badI code = none) : AllRt code := by
 intro p hp;unfold badI at h;rw [List.findIdx?_eq_none_iff] at h;have := h (inAt code p) (by rw [inAt_get hp]; exact List.getElem_mem hp)
 simpa using this
def FitInv (code : List Ins) (B gt g b : Nat) (cv : Value) (f : Nat) (w : World) : Prop :=
 ∃ d L p gn, TM B w gt g b cv d L p ∧ MetR L d gn ∧ fitI code f d gn = fitsI code ∧ cntI gn code.length < f ∧ f ≤ code.length + 1 ∧ DpI d ((code.length + 1 - f : Nat) : Int) ∧ p + 2 * f ≤ 2 * code.length + 3 ∧ d.length = code.length
theorem least_of {P : Nat → Prop} (h : ∃ n, P n) : P (Classical.epsilon fun n => P n ∧ ∀ m, P m → n ≤ m) ∧ ∀ m, P m → (Classical.epsilon fun n => P n ∧ ∀ m, P m → n ≤ m) ≤ m := by
 have key : ∀ n, P n → ∃ n, P n ∧ ∀ m, P m → n ≤ m := by
   intro n
   induction n using Nat.strongRecOn with
   | _ n ih =>
     intro hn;by_cases hm : ∃ m, m < n ∧ P m
     · obtain ⟨m, hm, hp⟩ := hm
       exact ih m hm hp
     · exact ⟨n, hn, fun m hp => by
         rcases Nat.lt_or_ge m n with h | h
         · exact absurd ⟨m, h, hp⟩ hm
         · exact h⟩
 obtain ⟨n, hn⟩ := h;exact Classical.epsilon_spec (key n hn)
theorem metR_first {L L' : List T} {d : List Int} {gn : Nat → Bool} {x : T} (h : MetR L d gn) (hf : IsFirst x L) (hp : (x :: L').Perm L) : ∃ q : Nat, x.key = q ∧ x.v = d.getD q (-1) ∧ leastI d gn = some q ∧ MetR L' d (goneI gn q) := by
 obtain ⟨q, e1, e2, e3, e4, e5⟩ := h.all x hf.1;have hu : (x :: L').Pairwise fun x y => x.key ≠ y.key := (hp.pairwise_iff (fun {a b} hab => fun e => hab e.symm)).2 h.uniq;rw [List.pairwise_cons] at hu;refine ⟨q, e1, e5, leastI_some.2 ⟨e2, e3, e4, fun r hr => ?_⟩, ⟨fun y hy => ?_, fun r hr hm hg => ?_, hu.2, fun r hr => ?_⟩⟩
 · by_cases e : d.getD r (-1) = -1
   · exact .inl e
   · right
     cases hg : gn r with
     | true => rfl
     | false =>
       obtain ⟨y, hy, hk⟩ := h.has r (by omega) e hg;have := hf.2 y hy;unfold le_ lt_ lexLt at this;exact absurd (Or.inl (by rw [hk, e1]; omega)) this
 · obtain ⟨r, a1, a2, a3, a4, a5⟩ := h.all y (hp.mem_iff.1 (List.mem_cons_of_mem _ hy))
   refine ⟨r, a1, a2, a3, ?_, a5⟩;have hne : r ≠ q := fun e => hu.1 y hy (by rw [a1, e1, e])
   simp [goneI, hne, a4]
 · have hne : r ≠ q ∧ gn r = false := by simpa [goneI] using hg
   obtain ⟨y, hy, hk⟩ := h.has r hr hm hne.2;rcases List.mem_cons.1 (hp.mem_iff.2 hy) with e | e
   · rw [e, e1] at hk
     exact absurd (by omega) hne.1
   · exact ⟨y, e, hk⟩
 · by_cases e : r = q
   · rw [e]; exact e3
   · exact h.gone r (by simpa [goneI, e] using hr)
end Go.Proofs.YtcabolfookofoaaGreatDoor
