/- Plain: the document's Check as a machine with a stack says what the pass says (layer 8). No condition. -/
import Derived.Test.YtnghfjlmmmjekaaRSpec
import Derived.Test.YtnghfjlmmmjekaaRLook
namespace Go.Proofs.Ytnghfjlmmmjekaa
open Go.RowKit Go.Shelf

structure Op3 where
  op : Nat
  came : Nat
  n : Nat
  deriving DecidableEq
/-- What is whole goes off the stack. -/
def popF : List Op3 → List Op3
  | [] => []
  | [u] => if u.came = u.n then [] else [u]
  | u :: v :: r => if u.came = u.n then popF (⟨v.op, v.came + 1, v.n⟩ :: r) else u :: v :: r
termination_by l => l.length
/-- One part more of the top. -/
def popTop : List Op3 → List Op3
  | [] => []
  | v :: r => popF (⟨v.op, v.came + 1, v.n⟩ :: r)
theorem popF_whole (u : Op3) (l : List Op3) (h : u.came = u.n) : popF (u :: l) = popTop l := by
  cases l with
  | nil => rw [popF, if_pos h]; rfl
  | cons v r => rw [popF, if_pos h]; rfl
theorem popF_not (u : Op3) (l : List Op3) (h : u.came ≠ u.n) : popF (u :: l) = u :: l := by
  cases l with
  | nil => rw [popF, if_neg h]
  | cons v r => rw [popF, if_neg h]
def topBad (l : List Op3) (x : Tw) : Bool := match l with
  | [] => false
  | u :: _ => !partR u.op u.came u.n x.op
def machEnd (n : Nat) (l : List Op3) (deep : Nat) : Nat × Int := if n = 0 ∨ l ≠ [] then (n, 3) else if 0 < deep then (deep, 2) else (0, 0)
/-- The document's Check, from twig i on: so many to go, the stack, the first too deep (0: none). -/
def mach (ts : List Tw) : Nat → Nat → List Op3 → Nat → Nat × Int
  | 0, _, l, deep => machEnd ts.length l deep
  | f + 1, i, l, deep => if (0 < i ∧ l = []) ∨ fineB (twAt ts i) = false then (i, 3) else if topBad l (twAt ts i) = true then (i, 3) else
      mach ts f (i + 1) (popF (⟨(twAt ts i).op, 0, (twAt ts i).kids.toNat⟩ :: l)) (if deep = 0 ∧ 40 ≤ l.length then i else deep)
def machAt (ts : List Tw) (i : Nat) (l : List Op3) (deep : Nat) : Nat × Int := mach ts (ts.length - i) i l deep
theorem machAt_end (ts : List Tw) (l : List Op3) (deep : Nat) : machAt ts ts.length l deep = machEnd ts.length l deep := by
  unfold machAt
  rw [Nat.sub_self]
  rfl
theorem machAt_step {ts : List Tw} {i : Nat} (h : i < ts.length) (l : List Op3) (deep : Nat) : machAt ts i l deep = if (0 < i ∧ l = []) ∨ fineB (twAt ts i) = false then (i, 3) else if topBad l (twAt ts i) = true then (i, 3) else
      machAt ts (i + 1) (popF (⟨(twAt ts i).op, 0, (twAt ts i).kids.toNat⟩ :: l)) (if deep = 0 ∧ 40 ≤ l.length then i else deep) := by
  unfold machAt
  rw [show ts.length - i = (ts.length - (i + 1)) + 1 by omega]
  rfl

section
variable (ts : List Tw) (hop : ∀ i, (twAt ts i).op < 256)
theorem kids_mach (k : Kind) (up : Nat) (hk : kindOf up = some k) (kids : Nat) (hkp : k.part = 0 → kids = 0) (l : List Op3) (f : PSt → Bool × PSt) (lo : Nat)
    (hf : ∀ s s' b (u : Op3), f s = (b, s') → s.gone < ts.length → lo < s.gone → topBad (u :: l) (twAt ts s.gone) = false → s.gone < s'.gone + 1 ∧ s'.gone ≤ ts.length ∧ machAt ts s.gone (u :: l) s.tooDeep = (if b then machAt ts s'.gone (popTop (u :: l)) s'.tooDeep else (s'.gone, 3))) :
    ∀ (n p : Nat) (s s' : PSt) (b : Bool), kidsF f ts k (kids : Int) n p s = (b, s') → p + n = kids → lo < s.gone → s.gone ≤ ts.length → s.gone ≤ s'.gone ∧ s'.gone ≤ ts.length ∧ machAt ts s.gone (popF (⟨up, p, kids⟩ :: l)) s.tooDeep = (if b then machAt ts s'.gone (popTop l) s'.tooDeep else (s'.gone, 3))
  | 0, p, s, s', b, h, hpn, h0, hl => by
    cases h
    refine ⟨Nat.le_refl _, hl, ?_⟩
    rw [popF_whole _ _ (show p = kids by omega)]
    rfl
  | n + 1, p, s, s', b, h, hpn, h0, hl => by
    rw [popF_not _ _ (show p ≠ kids by omega)]
    unfold kidsF at h
    split at h
    · rename_i he
      cases h
      refine ⟨Nat.le_refl _, hl, ?_⟩
      rw [he, machAt_end]
      unfold machEnd
      rw [if_pos (.inr (by simp))]
      rfl
    · rename_i he
      have hlt : s.gone < ts.length := by omega
      have hpd := part_doc hk (fun c => by have := hkp c; omega) (twAt ts s.gone).op (i := (p : Int)) (n := (kids : Int)) (by omega) (by omega)
      split at h
      · rename_i hp
        cases h
        refine ⟨Nat.le_refl _, hl, ?_⟩
        rw [machAt_step hlt]
        have tb : topBad (⟨up, p, kids⟩ :: l) (twAt ts s.gone) = true := by
          show (!partR up p kids (twAt ts s.gone).op) = true
          rw [← hpd, hp]
          rfl
        rw [tb, if_pos rfl, ite_self]
        rfl
      · rename_i hp
        have tb : topBad (⟨up, p, kids⟩ :: l) (twAt ts s.gone) = false := by
          show (!partR up p kids (twAt ts s.gone).op) = false
          rw [← hpd]
          simpa using hp
        rcases hq : f s with ⟨b2, s2⟩
        obtain ⟨a1, a2, a3⟩ := hf s s2 b2 _ hq hlt h0 tb
        rw [a3]
        rw [hq] at h
        cases b2 with
        | false =>
          rw [if_pos rfl] at h
          cases h
          exact ⟨by show s.gone ≤ s2.gone; omega, a2, rfl⟩
        | true =>
          rw [if_neg (by simp)] at h
          obtain ⟨c1, c2, c3⟩ := kids_mach k up hk kids hkp l f lo hf n (p + 1) s2 s' b h (by omega) (by omega) a2
          exact ⟨by omega, c2, c3⟩
include hop in
theorem pass_mach : ∀ (fuel : Nat) (l : List Op3) (s s' : PSt) (b : Bool), passF fuel ts (l.length + 1) s = (b, s') → ts.length - s.gone ≤ fuel → s.gone < ts.length → (l = [] → s.gone = 0) → topBad l (twAt ts s.gone) = false →
    s.gone + b.toNat ≤ s'.gone ∧ s'.gone ≤ ts.length ∧ machAt ts s.gone l s.tooDeep = (if b then machAt ts s'.gone (popTop l) s'.tooDeep else (s'.gone, 3))
  | 0, l, s, s', b, h, h1, h2, h3, h4 => by omega
  | fuel + 1, l, s, s', b, h, h1, h2, h3, h4 => by
    have fd := fine_doc (hop s.gone)
    have hemp : ¬ (0 < s.gone ∧ l = []) := fun c => by have := h3 c.2; omega
    rw [machAt_step h2, h4]
    unfold passF at h
    split at h
    · rename_i hk
      cases h
      rw [hk] at fd
      refine ⟨Nat.le_refl _, by show s.gone ≤ _; omega, ?_⟩
      rw [if_pos (.inr fd)]
      rfl
    · rename_i k hk
      rw [hk] at fd
      have fd' : fineB (twAt ts s.gone) = allowsB k (twAt ts s.gone) := fd
      split at h
      · rename_i ha
        cases h
        refine ⟨Nat.le_refl _, by show s.gone ≤ _; omega, ?_⟩
        rw [if_pos (.inr (fd'.trans ha))]
        rfl
      · rename_i ha
        have ha' : allowsB k (twAt ts s.gone) = true := by simpa using ha
        obtain ⟨hk0, hkm⟩ := allows_kids ha'
        have hkk := kind_most hk
        rw [if_neg (by rintro (c | c); exact hemp c; rw [fd', ha'] at c; cases c), if_neg (by simp)]
        have hkid : (twAt ts s.gone).kids = (((twAt ts s.gone).kids.toNat : Nat) : Int) := by omega
        have hd : (if s.tooDeep = 0 ∧ 40 ≤ l.length then s.gone else s.tooDeep) = (nextS s (l.length + 1)).tooDeep := by
          unfold nextS
          dsimp only
          by_cases c : s.tooDeep = 0 ∧ 40 ≤ l.length
          · rw [if_pos c, if_pos ⟨by omega, c.1⟩]
          · rw [if_neg c, if_neg (fun e => c ⟨e.2, by omega⟩)]
        rw [hd]
        rw [hkid] at h
        have := kids_mach ts k (twAt ts s.gone).op hk (twAt ts s.gone).kids.toNat (fun c => by have := hkk.2.2 c; omega) l (passF fuel ts (l.length + 1 + 1)) s.gone
          (fun t t' b' u ht htl ht0 htb => by
            obtain ⟨x1, x2, x3⟩ := pass_mach fuel (u :: l) t t' b' ht (by omega) htl (fun c => by cases c) htb
            exact ⟨by omega, x2, x3⟩) _ 0 (nextS s (l.length + 1)) s' b h (by omega) (Nat.lt_succ_self _) h2
        obtain ⟨y1, y2, y3⟩ := this
        have y1' : s.gone + 1 ≤ s'.gone := y1
        exact ⟨by have := Bool.toNat_le b; omega, y2, y3⟩
/-- What the document's Check answers. -/
def docF (ts : List Tw) : Nat × Int := if 2048 < ts.length then (0, 2) else machAt ts 0 [] 0
include hop in
theorem doc_look : docF ts = ((lookF ts).1, (lookF ts).2.2) := by
  unfold docF lookF
  by_cases h1 : 2048 < ts.length
  · rw [if_pos h1, if_pos h1]
  · rw [if_neg h1, if_neg h1]
    by_cases h0 : ts.length = 0
    · rw [if_pos h0]
      have e := machAt_end ts [] 0
      rw [h0] at e
      rw [e]
      rfl
    · rw [if_neg h0]
      rcases hq : passF ts.length ts 1 ⟨0, 0, 0⟩ with ⟨b, s'⟩
      obtain ⟨a1, a2, a3⟩ := pass_mach ts hop ts.length [] ⟨0, 0, 0⟩ s' b hq (Nat.sub_le _ _) (by show 0 < _; omega) (fun _ => rfl) rfl
      have a3' : machAt ts 0 [] 0 = _ := a3
      rw [a3']
      cases b with
      | false =>
        rw [if_neg (show ¬ (false = true) by decide), if_pos (Or.inl rfl)]
      | true =>
        rw [if_pos rfl]
        have a1' : 0 + 1 ≤ s'.gone := a1
        by_cases hg : s'.gone < ts.length
        · rw [if_pos (Or.inr hg)]
          show machAt ts s'.gone [] s'.tooDeep = _
          rw [machAt_step hg, if_pos (.inl ⟨by omega, rfl⟩)]
        · have e : s'.gone = ts.length := by omega
          rw [if_neg (by rintro (c | c); cases c; exact hg c)]
          show machAt ts s'.gone [] s'.tooDeep = _
          rw [e, machAt_end]
          unfold machEnd
          rw [if_neg (by rintro (c | c); exact h0 c; exact c rfl)]
          by_cases hd : 0 < s'.tooDeep
          · rw [if_pos hd, if_pos hd]
          · rw [if_neg hd, if_neg hd]
end
end Go.Proofs.Ytnghfjlmmmjekaa
