/- The document's walk (layer 11), walked: a tree at its place. No condition. -/
import Derived.Test.YtnghfjlmmmjekaaCkG
namespace Go.Proofs.Ytnghfjlmmmjekaa
open Go.RowKit Go.Shelf

theorem wrongD_l (S : D11) (i : Nat) (e : Int) : (wrongD S i e).l = S.l ∧ (wrongD S i e).made = S.made := ⟨wrong_l S i e, wrong_made S i e⟩
theorem useD_made (x : Tw) (i : Nat) (seen : List (List UInt8 × Nat)) (S : D11) : (useD x i seen S).made = S.made := by
  unfold useD
  split
  · split
    · rfl
    · exact wrong_made _ _ _
  · rfl
theorem dF_made : ∀ (F : Fs) (bl : Bool) (i : Nat) (seen : List (List UInt8 × Nat)) (S : D11), (dF bl F i seen S).made ≤ S.made + F.flat.length
  | .nil, _, _, _, _ => Nat.le_refl _
  | .cons x k r, bl, i, seen, S => by
    have hlen := flat_len x k r
    unfold dF
    split
    · have h1 := dF_made k false (i + 1) seen (makeD S i seen x.text)
      have h2 := dF_made r bl (i + 1 + k.flat.length) (seen ++ [(x.text, S.made)]) (dF false k (i + 1) seen (makeD S i seen x.text))
      have h3 : (makeD S i seen x.text).made = S.made + 1 := rfl
      omega
    · have h1 := dF_made k (decide (x.op = 3)) (i + 1) seen (useD x i seen S)
      have h2 := dF_made r bl (i + 1 + k.flat.length) seen (dF (decide (x.op = 3)) k (i + 1) seen (useD x i seen S))
      have h3 := useD_made x i seen S
      omega
/-- What the walk of a tree comes to. -/
def dTree (x : Tw) (k : Fs) (i : Nat) (seen : List (List UInt8 × Nat)) (S : D11) : D11 := dF (decide (x.op = 3)) k (i + 1) seen (useD x i seen S)
theorem dF_cons {bl : Bool} {x : Tw} {k r : Fs} {i : Nat} {seen : List (List UInt8 × Nat)} {S : D11} (h : ¬ (bl = true ∧ x.op = 4)) : dF bl (.cons x k r) i seen S = dF bl r (i + 1 + k.flat.length) seen (dTree x k i seen S) := by
  conv => lhs; unfold dF
  rw [if_neg h]
  rfl
theorem dF_let {x y : Tw} {ky r : Fs} {i : Nat} {seen : List (List UInt8 × Nat)} {S : D11} (h : x.op = 4) : dF true (.cons x (.cons y ky .nil) r) i seen S = dF true r (i + 1 + (Fs.cons y ky .nil).flat.length) (seen ++ [(x.text, S.made)]) (dTree y ky (i + 1) seen (makeD S i seen x.text)) := by
  conv => lhs; unfold dF
  rw [if_pos ⟨rfl, h⟩]
  rfl
/-- The program's walk of that tree comes to that, wherever the tree stands. -/
def WalkP (w0 : World) (gs gl n cl : Nat) (tv : Value) (ts : List Tw) (x : Tw) (k : Fs) : Prop :=
  ∀ (w : World) (S : D11) (i : Nat) (rest : List Tw) (v : Value) (L : List (List UInt8 × Nat)), SMem w0 w gs gl n cl tv ts S → ts.drop i = x :: (k.flat ++ rest) → VarsAt w w0.heap.size v L → L.length ≤ i → S.made ≤ i →
    Calls Try.prog 24 #[.pointer (some ⟨gs, 0, none⟩), .int .i64 (i : Int), v] w fun e w' => e = .returned (.tuple #[]) ∧ SMem w0 w' gs gl n cl tv ts (dTree x k i L S) ∧ Only (fun k => k = gs ∨ k = gl) w w'
def AllT (P : Tw → Fs → Prop) : Fs → Prop
  | .nil => True
  | .cons x k r => P x k ∧ AllT P k ∧ AllT P r
theorem all_t {P : Tw → Fs → Prop} (h : ∀ x k, (Fs.cons x k .nil).ok → AllT P k → P x k) : ∀ F : Fs, F.ok → AllT P F
  | .nil, _ => trivial
  | .cons x k r, ⟨a, b, c, d⟩ => ⟨h x k ⟨a, b, c, trivial⟩ (all_t h k c), all_t h k c, all_t h r d⟩
theorem let_one {x : Tw} {k : Fs} (hok : (Fs.cons x k .nil).ok) (h4 : x.op = 4) : ∃ y ky, k = .cons y ky .nil := by
  obtain ⟨⟨kd, hk, ha, hp⟩, hn, hko, _⟩ := hok
  have h : (kindOf 4).map (fun k => (k.least, k.most)) = some (1, 1) := by decide
  rw [h4] at hk
  rw [hk] at h
  simp at h
  unfold allowsB at ha
  simp only [Bool.and_eq_true, decide_eq_true_eq] at ha
  have h1 := ha.1.2
  have h2 := ha.1.1.2
  rw [h.1, hn] at h2
  rw [h.2, hn] at h1
  cases k with
  | nil => exact absurd h2 (by decide)
  | cons y ky r =>
    cases r with
    | nil => exact ⟨y, ky, rfl⟩
    | cons a b c =>
      have e : (Fs.cons y ky (.cons a b c)).count = c.count + 1 + 1 := rfl
      rw [e] at h1
      omega
theorem VarsAt.keep {w W : World} {base : Nat} {v : Value} {L : List (List UInt8 × Nat)} {F : Nat → Prop} (h : VarsAt w base v L) (ho : Only F w W) (hF : ∀ g, F g → ∀ cur t fr, w.heap[g]? = some (.cells cur t fr) → t ≠ 56) : VarsAt W base v L :=
  ownsRow_only h ho (fun g hg e => by
    rcases h.2 with ⟨hv, _⟩ | ⟨g', cap, cur, hv, hb, hgg, _⟩
    · rw [hv] at hg; cases hg
    · rw [hv] at hg
      have e1 : g = g' := by simpa [Value.ownBlock] using hg.symm
      subst e1
      exact hF g e _ _ _ hgg rfl)
end Go.Proofs.Ytnghfjlmmmjekaa
