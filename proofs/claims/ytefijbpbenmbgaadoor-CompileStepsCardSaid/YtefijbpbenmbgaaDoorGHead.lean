/- Plain: the code of one tree, told by its first twig; forests that are told the same are the same (layer 15). No condition. -/
import Derived.Test.YtefijbpbenmbgaaDoorGenP
namespace Go.Proofs.YtefijbpbenmbgaaDoor
open Go.RowKit Go.Shelf

theorem gens_nil {F : Fs} {p : Nat} {c : List Ins} (h : Gens F p c) (hF : F = .nil) : c = [] := by
  cases h <;> first | rfl | cases hF
/-- What the code of one tree comes to (of the twigs that the wakes have). -/
theorem gens_head {F : Fs} {p : Nat} {c : List Ins} (h : Gens F p c) : ∀ x k, F = .cons x k .nil →
    (x.op = 1 → ∃ d, Gens k p d ∧ c = d ++ [mkI 28 0]) ∧ (x.op = 3 → Gens k p c) ∧
    (x.op = 7 → ∀ a ka b kb, k = .cons a ka (.cons b kb .nil) → ∃ d e, Gens (.cons a ka .nil) p d ∧ Gens (.cons b kb .nil) (p + d.length + 1) e ∧ c = d ++ mkI 2 ((p + d.length + 1 + e.length + 1 : Nat) : Int) :: (e ++ [mkI 1 (p : Int)])) ∧
    (x.op ∈ loneOps → ∃ d, Gens k p d ∧ c = d ++ [loneI x]) := by
  induction h with
  | nil => intro x k e; cases e
  | @seq y ky r p c d h1 h2 i1 i2 =>
    intro x k e
    injection e with e1 e2 e3
    subst e1 e2
    rw [gens_nil h2 e3, List.append_nil]
    exact i1 y ky rfl
  | @flow y ky p c hy h1 _ =>
    intro x k e
    injection e with e1 e2
    subst e1 e2
    exact ⟨fun _ => ⟨c, h1, rfl⟩, fun e => by omega, fun e => by omega, fun e => absurd hy (lone_facts e).2.1⟩
  | @block y ky p c hy h1 _ =>
    intro x k e
    injection e with e1 e2
    subst e1 e2
    exact ⟨fun e => by omega, fun _ => h1, fun e => by omega, fun e => by have := lone_facts e; omega⟩
  | @lone y ky p c hy h1 _ =>
    intro x k e
    injection e with e1 e2
    subst e1 e2
    have := lone_facts hy
    exact ⟨fun e => by omega, fun e => by omega, fun e => by omega, fun _ => ⟨c, h1, rfl⟩⟩
  | @loop y a ka b kb p c d hy h1 h2 _ _ =>
    intro x k e
    injection e with e1 e2
    subst e1
    refine ⟨fun e => by omega, fun e => by omega, fun _ a' ka' b' kb' e' => ?_, fun e => by have := lone_facts e; omega⟩
    rw [← e2] at e'
    injection e' with q1 q2 q3
    injection q3 with q3 q4
    subst q1 q2 q3 q4
    exact ⟨c, d, h1, h2, rfl⟩
  | @store y ky p c s hy _ _ _ _ =>
    intro x k e
    injection e with e1 e2
    subst e1
    exact ⟨fun e => by omega, fun e => by omega, fun e => by omega, fun e => by have := lone_facts e; omega⟩
  | @load y p s hy _ _ =>
    intro x k e
    injection e with e1 e2
    subst e1
    exact ⟨fun e => by omega, fun e => by omega, fun e => by omega, fun e => by have := lone_facts e; omega⟩
  | @if2 y a ka b kb p c d hy _ _ _ _ =>
    intro x k e
    injection e with e1 e2
    subst e1
    exact ⟨fun e => by omega, fun e => by omega, fun e => by omega, fun e => by have := lone_facts e; omega⟩
  | @if3 y a ka b kb f kf p c d e' hy _ _ _ _ _ _ =>
    intro x k e
    injection e with e1 e2
    subst e1
    exact ⟨fun e => by omega, fun e => by omega, fun e => by omega, fun e => by have := lone_facts e; omega⟩
  | @either y a ka b kb p c d hy _ _ _ _ =>
    intro x k e
    injection e with e1 e2
    subst e1
    exact ⟨fun e => by omega, fun e => by omega, fun e => by omega, fun e => by have := lone_facts e; omega⟩
  | @fork y a ka p c hy _ _ =>
    intro x k e
    injection e with e1 e2
    subst e1
    exact ⟨fun e => by omega, fun e => by omega, fun e => by omega, fun e => by have := lone_facts e; omega⟩
theorem flat_inj : ∀ (F G : Fs) (r s : List Tw), F.ok → G.ok → F.count = G.count → F.flat ++ r = G.flat ++ s → F = G ∧ r = s
  | .nil, .nil, r, s, _, _, _, h => ⟨rfl, h⟩
  | .nil, .cons _ _ _, _, _, _, _, hc, _ => by simp [Fs.count] at hc
  | .cons _ _ _, .nil, _, _, _, _, hc, _ => by simp [Fs.count] at hc
  | .cons x k F, .cons y l G, r, s, hF, hG, hc, h => by
    have h' : x :: (k.flat ++ (F.flat ++ r)) = y :: (l.flat ++ (G.flat ++ s)) := by simpa [Fs.flat] using h
    injection h' with h1 h2
    subst h1
    have hk : k.count = l.count := by
      have a := hF.2.1
      have b := hG.2.1
      omega
    obtain ⟨rfl, h3⟩ := flat_inj k l _ _ hF.2.2.1 hG.2.2.1 hk h2
    obtain ⟨rfl, h4⟩ := flat_inj F G r s hF.2.2.2 hG.2.2.2 (by simp only [Fs.count] at hc; omega) h3
    exact ⟨rfl, h4⟩
def loopT : List Tw := [⟨1, 1, 0, [102]⟩, ⟨3, 1, 0, []⟩, ⟨7, 2, 0, []⟩, ⟨21, 0, 0, []⟩, ⟨3, 0, 0, []⟩]
def loopK : Fs := .cons ⟨3, 1, 0, []⟩ (.cons ⟨7, 2, 0, []⟩ (.cons ⟨21, 0, 0, []⟩ .nil (.cons ⟨3, 0, 0, []⟩ .nil .nil)) .nil) .nil
def loopC : List Ins := [mkI 21 0, mkI 2 3, mkI 1 0, mkI 28 0]
theorem loop_ok : (Fs.cons ⟨1, 1, 0, [102]⟩ loopK .nil).ok := by
  refine ⟨⟨_, rfl, by kernel_rfl, by kernel_rfl, trivial⟩, rfl, ?_, trivial⟩
  refine ⟨⟨_, rfl, by kernel_rfl, by kernel_rfl, trivial⟩, rfl, ?_, trivial⟩
  refine ⟨⟨_, rfl, by kernel_rfl, by kernel_rfl, by kernel_rfl, trivial⟩, rfl, ?_, trivial⟩
  exact ⟨⟨_, rfl, by kernel_rfl, trivial⟩, rfl, trivial, ⟨_, rfl, by kernel_rfl, trivial⟩, rfl, trivial, trivial⟩
/-- The loop's code. -/
theorem loop_code {x : Tw} {K : Fs} {c : List Ins} (hok : (Fs.cons x K .nil).ok) (hx : loopT = x :: K.flat) (h : Gens (.cons x K .nil) 0 c) : c = loopC ∧ x.kids = 1 := by
  have he := flat_inj (.cons ⟨1, 1, 0, [102]⟩ loopK .nil) (.cons x K .nil) [] [] loop_ok hok rfl (by rw [flat_one, flat_one, ← hx]; rfl)
  injection he.1 with e1 e2
  subst e1 e2
  refine ⟨?_, rfl⟩
  obtain ⟨d, h1, rfl⟩ := (gens_head h _ _ rfl).1 rfl
  have h2 := (gens_head h1 _ _ rfl).2.1 rfl
  obtain ⟨a, b, h3, h4, rfl⟩ := (gens_head h2 _ _ rfl).2.2.1 rfl _ _ _ _ rfl
  obtain ⟨g, h5, rfl⟩ := (gens_head h3 _ _ rfl).2.2.2 (by decide)
  have h6 := (gens_head h4 _ _ rfl).2.1 rfl
  rw [gens_nil h5 rfl, gens_nil h6 rfl]
  rfl
end Go.Proofs.YtefijbpbenmbgaaDoor
