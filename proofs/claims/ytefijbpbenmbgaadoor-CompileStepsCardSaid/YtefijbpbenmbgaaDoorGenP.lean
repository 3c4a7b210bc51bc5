/- Plain: the code of right trees of twigs (layer 15, compile), as a relation. No condition. -/
import Derived.Test.YtefijbpbenmbgaaDoorFs
import Derived.Test.YtefijbpbenmbgaaDoorIP
import Derived.Test.YtefijbpbenmbgaaDoorRKd
namespace Go.Proofs.YtefijbpbenmbgaaDoor
open Go.RowKit Go.Shelf

def mkI (op : Nat) (a : Int) : Ins := ⟨op, a, 0, []⟩
def opI (op : Nat) : Nat := if op = 11 then 6 else op
/-- The Ops of twigs that have one instruction behind their parts. -/
def loneOps : List Nat := [8, 9, 10, 11, 20, 21, 22, 23, 24, 25, 32, 33, 34, 35, 36, 37, 38, 39, 40, 41, 42, 43, 44, 45, 46, 47, 48, 50, 51, 52, 54, 55, 56, 57]
def loneI (x : Tw) : Ins := ⟨opI x.op, if x.op = 25 ∨ x.op = 50 ∨ x.op = 51 then x.kids else 0, x.num, x.text⟩
/-- A twig's slot. -/
def SlotFit (x : Tw) (s : Int) : Prop := -1 ≤ s ∧ s < 100 ∧ (x.op = 2 ∨ x.op = 4 ∨ x.op = 5 ∨ x.op = 26 → 0 ≤ s)
def SlotsFit : List Tw → List Int → Prop
  | [], [] => True
  | x :: r, s :: t => SlotFit x s ∧ SlotsFit r t
  | _, _ => False
/-- The code of trees, one behind the other, from a place on. -/
inductive Gens : Fs → Nat → List Ins → Prop
  | nil (p : Nat) : Gens .nil p []
  | seq {x k r p c d} : Gens (.cons x k .nil) p c → Gens r (p + c.length) d → Gens (.cons x k r) p (c ++ d)
  | flow {x k p c} : x.op = 1 → Gens k p c → Gens (.cons x k .nil) p (c ++ [mkI 28 0])
  | block {x k p c} : x.op = 2 ∨ x.op = 3 → Gens k p c → Gens (.cons x k .nil) p c
  | store {x k p c s} : x.op = 4 ∨ x.op = 5 → 0 ≤ s → s < 100 → Gens k p c → Gens (.cons x k .nil) p (c ++ [mkI 27 s])
  | load {x p s} : x.op = 26 → 0 ≤ s → s < 100 → Gens (.cons x .nil .nil) p [mkI 26 s]
  | if2 {x a ka b kb p c d} : x.op = 6 → Gens (.cons a ka .nil) p c → Gens (.cons b kb .nil) (p + c.length + 1) d →
      Gens (.cons x (.cons a ka (.cons b kb .nil)) .nil) p (c ++ mkI 2 ((p + c.length + 1 + d.length : Nat) : Int) :: d)
  | if3 {x a ka b kb f kf p c d e} : x.op = 6 → Gens (.cons a ka .nil) p c → Gens (.cons b kb .nil) (p + c.length + 1) d → Gens (.cons f kf .nil) (p + c.length + 1 + d.length + 1) e →
      Gens (.cons x (.cons a ka (.cons b kb (.cons f kf .nil))) .nil) p (c ++ mkI 2 ((p + c.length + 1 + d.length + 1 : Nat) : Int) :: (d ++ mkI 1 ((p + c.length + 1 + d.length + 1 + e.length : Nat) : Int) :: e))
  | loop {x a ka b kb p c d} : x.op = 7 → Gens (.cons a ka .nil) p c → Gens (.cons b kb .nil) (p + c.length + 1) d →
      Gens (.cons x (.cons a ka (.cons b kb .nil)) .nil) p (c ++ mkI 2 ((p + c.length + 1 + d.length + 1 : Nat) : Int) :: (d ++ [mkI 1 (p : Int)]))
  | either {x a ka b kb p c d} : x.op = 30 ∨ x.op = 31 → Gens (.cons a ka .nil) p c → Gens (.cons b kb .nil) (p + c.length + 1) d →
      Gens (.cons x (.cons a ka (.cons b kb .nil)) .nil) p (c ++ mkI (x.op - 27) ((p + c.length + 1 + d.length + 1 : Nat) : Int) :: (d ++ [mkI 5 0]))
  | fork {x a ka p c} : x.op = 53 → Gens (.cons a ka .nil) (p + 2) c →
      Gens (.cons x (.cons a ka .nil) .nil) p (mkI 53 ((p + 2 : Nat) : Int) :: mkI 1 ((p + 2 + c.length + 1 : Nat) : Int) :: (c ++ [mkI 28 0]))
  | lone {x k p c} : x.op ∈ loneOps → Gens k p c → Gens (.cons x k .nil) p (c ++ [loneI x])
theorem flat_one (x : Tw) (k : Fs) : (Fs.cons x k .nil).flat = x :: k.flat := by
  show x :: (k.flat ++ []) = _
  rw [List.append_nil]
/-- No more than three instructions a twig. -/
theorem gens_len {F : Fs} {p : Nat} {c : List Ins} (h : Gens F p c) : c.length ≤ 3 * F.flat.length := by
  induction h with
  | nil => simp
  | @seq x k r p c d _ _ h1 h2 =>
    rw [flat_one, List.length_cons] at h1
    show _ ≤ 3 * (x :: (k.flat ++ r.flat)).length
    simp only [List.length_append, List.length_cons] at *
    omega
  | @flow x k p c _ _ h =>
    simp only [Fs.flat, List.length_append, List.length_cons, List.length_nil] at *
    omega
  | @block x k p c _ _ h =>
    simp only [Fs.flat, List.length_append, List.length_cons, List.length_nil] at *
    omega
  | @store x k p c s _ _ _ _ h =>
    simp only [Fs.flat, List.length_append, List.length_cons, List.length_nil] at *
    omega
  | @lone x k p c _ _ h =>
    simp only [Fs.flat, List.length_append, List.length_cons, List.length_nil] at *
    omega
  | @load x p s _ _ _ => simp [Fs.flat]
  | @if2 x a ka b kb p c d _ _ _ h1 h2 =>
    simp only [Fs.flat, List.length_append, List.length_cons, List.length_nil] at *
    omega
  | @loop x a ka b kb p c d _ _ _ h1 h2 =>
    simp only [Fs.flat, List.length_append, List.length_cons, List.length_nil] at *
    omega
  | @either x a ka b kb p c d _ _ _ h1 h2 =>
    simp only [Fs.flat, List.length_append, List.length_cons, List.length_nil] at *
    omega
  | @if3 x a ka b kb f kf p c d e _ _ _ _ h1 h2 h3 =>
    simp only [Fs.flat, List.length_append, List.length_cons, List.length_nil] at *
    omega
  | @fork x a ka p c _ _ h =>
    simp only [Fs.flat, List.length_append, List.length_cons, List.length_nil] at *
    omega
/-- Does an instruction cost a step? -/
def costsB (i : Ins) : Bool := i.op != 1 && (i.op != 5 && i.op != 28)
def countsB (x : Tw) : Bool := x.op != 1 && (x.op != 2 && x.op != 3)
theorem lone_facts {op : Nat} (h : op ∈ loneOps) : op < 58 ∧ op ≠ 1 ∧ op ≠ 2 ∧ op ≠ 3 ∧ op ≠ 4 ∧ op ≠ 5 ∧ op ≠ 6 ∧ op ≠ 7 ∧ op ≠ 26 ∧ op ≠ 28 ∧ op ≠ 30 ∧ op ≠ 31 ∧ op ≠ 53 := by
  have : ∀ o ∈ loneOps, o < 58 ∧ o ≠ 1 ∧ o ≠ 2 ∧ o ≠ 3 ∧ o ≠ 4 ∧ o ≠ 5 ∧ o ≠ 6 ∧ o ≠ 7 ∧ o ≠ 26 ∧ o ≠ 28 ∧ o ≠ 30 ∧ o ≠ 31 ∧ o ≠ 53 := by decide
  exact this op h
theorem lone_costs {x : Tw} (h : x.op ∈ loneOps) : costsB (loneI x) = true ∧ countsB x = true := by
  obtain ⟨h0, h1, h2, h3, h4, h5, h6, h7, h26, h28, _⟩ := lone_facts h
  unfold costsB countsB loneI opI
  dsimp only
  constructor
  · by_cases c : x.op = 11
    · rw [if_pos c]; decide
    · rw [if_neg c]; simp [h1, h5, h28]
  · simp [h1, h2, h3]
/-- Each twig but blocks, the flow and its parameters has just one instruction that costs a step. -/
theorem gens_steps {F : Fs} {p : Nat} {c : List Ins} (h : Gens F p c) : c.countP costsB = F.flat.countP countsB := by
  have hz : ∀ a, costsB (mkI 28 a) = false := fun _ => rfl
  have h1' : ∀ a, costsB (mkI 1 a) = false := fun _ => rfl
  have h5' : ∀ a, costsB (mkI 5 a) = false := fun _ => rfl
  have h2' : ∀ a, costsB (mkI 2 a) = true := fun _ => rfl
  have h26' : ∀ a, costsB (mkI 26 a) = true := fun _ => rfl
  have h27' : ∀ a, costsB (mkI 27 a) = true := fun _ => rfl
  have h53' : ∀ a, costsB (mkI 53 a) = true := fun _ => rfl
  have t : ∀ x : Tw, x.op ≠ 1 → x.op ≠ 2 → x.op ≠ 3 → countsB x = true := fun x a b c => by simp [countsB, a, b, c]
  induction h with
  | nil => rfl
  | @seq x k r p c d _ _ h1 h2 =>
    rw [flat_one] at h1
    show _ = (x :: (k.flat ++ r.flat)).countP countsB
    rw [← List.cons_append, List.countP_append, List.countP_append, h1, h2]
  | @flow x k p c hx _ h =>
    have : countsB x = false := by simp [countsB, hx]
    simp only [flat_one, List.countP_append, List.countP_cons, List.countP_nil, h, this]
    simp [hz]
  | @block x k p c hx _ h =>
    have : countsB x = false := by rcases hx with hx | hx <;> simp [countsB, hx]
    rw [flat_one, List.countP_cons, h, this]
    simp
  | @store x k p c s hx _ _ _ h =>
    simp only [flat_one, List.countP_append, List.countP_cons, List.countP_nil, h, t x (by omega) (by omega) (by omega)]
    simp [h27']
  | @load x p s hx _ _ =>
    have ht := t x (by omega) (by omega) (by omega)
    simp [h26', Fs.flat, ht]
  | @lone x k p c hx _ h =>
    obtain ⟨a, b⟩ := lone_costs hx
    simp only [flat_one, List.countP_append, List.countP_cons, List.countP_nil, h, b]
    simp [a]
  | @if2 x a ka b kb p c d hx _ _ h1 h2 =>
    rw [flat_one] at h1 h2 ⊢
    rw [List.countP_cons, t x (by omega) (by omega) (by omega)]
    simp only [Fs.flat, List.append_nil, List.countP_append, List.countP_cons] at *
    rw [h2']
    simp only [↓reduceIte]
    omega
  | @if3 x a ka b kb f kf p c d e hx _ _ _ h1 h2 h3 =>
    rw [flat_one] at h1 h2 h3 ⊢
    rw [List.countP_cons, t x (by omega) (by omega) (by omega)]
    simp only [Fs.flat, List.append_nil, List.countP_append, List.countP_cons] at *
    rw [h2', h1']
    simp only [↓reduceIte, Bool.false_eq_true]
    omega
  | @loop x a ka b kb p c d hx _ _ h1 h2 =>
    rw [flat_one] at h1 h2 ⊢
    rw [List.countP_cons, t x (by omega) (by omega) (by omega)]
    simp only [Fs.flat, List.append_nil, List.countP_append, List.countP_cons, List.countP_nil] at *
    rw [h2', h1']
    simp only [↓reduceIte, Bool.false_eq_true]
    omega
  | @either x a ka b kb p c d hx _ _ h1 h2 =>
    rw [flat_one] at h1 h2 ⊢
    have hy : costsB (mkI (x.op - 27) ((p + c.length + 1 + d.length + 1 : Nat) : Int)) = true := by rcases hx with hx | hx <;> rw [hx] <;> rfl
    rw [List.countP_cons, t x (by omega) (by omega) (by omega)]
    simp only [Fs.flat, List.append_nil, List.countP_append, List.countP_cons, List.countP_nil] at *
    rw [hy, h5']
    simp only [↓reduceIte, Bool.false_eq_true]
    omega
  | @fork x a ka p c hx _ h1 =>
    rw [flat_one] at h1
    have ht := t x (by omega) (by omega) (by omega)
    simp only [flat_one, List.countP_append, List.countP_cons, List.countP_nil, ht, h53', h1', hz] at *
    simp only [↓reduceIte, Bool.false_eq_true]
    omega
/-- What twigs there are. -/
theorem kind_ops {op : Nat} {k : Kind} (h : kindOf op = some k) : op ∈ loneOps ∨ op = 1 ∨ op = 2 ∨ op = 3 ∨ ((op = 4 ∨ op = 5) ∧ k.least = 1 ∧ k.most = 1) ∨ (op = 26 ∧ k.most = 0) ∨ (op = 6 ∧ k.least = 2 ∧ k.most = 3) ∨ ((op = 7 ∨ op = 30 ∨ op = 31) ∧ k.least = 2 ∧ k.most = 2) ∨ (op = 53 ∧ k.least = 1 ∧ k.most = 1) := by
  have a : ∀ p ∈ kindsL, p.1 ∈ loneOps ∨ p.1 = 1 ∨ p.1 = 2 ∨ p.1 = 3 ∨ ((p.1 = 4 ∨ p.1 = 5) ∧ p.2.least = 1 ∧ p.2.most = 1) ∨ (p.1 = 26 ∧ p.2.most = 0) ∨ (p.1 = 6 ∧ p.2.least = 2 ∧ p.2.most = 3) ∨ ((p.1 = 7 ∨ p.1 = 30 ∨ p.1 = 31) ∧ p.2.least = 2 ∧ p.2.most = 2) ∨ (p.1 = 53 ∧ p.2.least = 1 ∧ p.2.most = 1) := by decide
  exact a _ (lookK_pair h)
theorem forest0 {k : Fs} (h : k.count = 0) : k = .nil := by
  cases k with
  | nil => rfl
  | cons x k r => simp [Fs.count] at h
theorem forestS {k : Fs} {n : Nat} (h : k.count = n + 1) : ∃ a ka r, k = .cons a ka r ∧ r.count = n := by
  cases k with
  | nil => simp [Fs.count] at h
  | cons x k r => exact ⟨x, k, r, rfl, by simp only [Fs.count] at h; omega⟩
/-- A right tree's shape. -/
inductive Shape (x : Tw) : Fs → Prop
  | lone {k} : x.op ∈ loneOps → Shape x k
  | flow {k} : x.op = 1 → Shape x k
  | block {k} : x.op = 2 ∨ x.op = 3 → Shape x k
  | store {a ka} : x.op = 4 ∨ x.op = 5 → Shape x (.cons a ka .nil)
  | load : x.op = 26 → Shape x .nil
  | if2 {a ka b kb} : x.op = 6 → x.kids = 2 → Shape x (.cons a ka (.cons b kb .nil))
  | if3 {a ka b kb c kc} : x.op = 6 → x.kids = 3 → Shape x (.cons a ka (.cons b kb (.cons c kc .nil)))
  | loop {a ka b kb} : x.op = 7 → Shape x (.cons a ka (.cons b kb .nil))
  | either {a ka b kb} : x.op = 30 ∨ x.op = 31 → Shape x (.cons a ka (.cons b kb .nil))
  | fork {a ka} : x.op = 53 → Shape x (.cons a ka .nil)
theorem shape_of {x : Tw} {k : Fs} (h : (Fs.cons x k .nil).ok) : Shape x k := by
  obtain ⟨⟨kd, hk, ha, _⟩, hn, _, _⟩ := h
  have hlm : (kd.least : Int) ≤ x.kids ∧ x.kids ≤ (kd.most : Int) := by
    unfold allowsB at ha
    simp only [Bool.and_eq_true, decide_eq_true_eq] at ha
    exact ⟨ha.1.1.2, ha.1.2⟩
  rcases kind_ops hk with c | c | c | c | ⟨c, l, m⟩ | ⟨c, m⟩ | ⟨c, l, m⟩ | ⟨c, l, m⟩ | ⟨c, l, m⟩
  · exact .lone c
  · exact .flow c
  · exact .block (.inl c)
  · exact .block (.inr c)
  · obtain ⟨a, ka, r, rfl, hr⟩ := forestS (n := 0) (show k.count = 0 + 1 by omega)
    rw [forest0 hr]
    exact .store c
  · rw [forest0 (show k.count = 0 by omega)]
    exact .load c
  · rcases (show k.count = 2 ∨ k.count = 3 by omega) with e | e
    · obtain ⟨a, ka, r, rfl, hr⟩ := forestS (n := 1) e
      obtain ⟨b, kb, r, rfl, hr2⟩ := forestS (n := 0) hr
      rw [forest0 hr2]
      exact .if2 c (by simp only [Fs.count] at *; omega)
    · obtain ⟨a, ka, r, rfl, hr⟩ := forestS (n := 2) e
      obtain ⟨b, kb, r, rfl, hr2⟩ := forestS (n := 1) hr
      obtain ⟨f, kf, r, rfl, hr3⟩ := forestS (n := 0) hr2
      rw [forest0 hr3]
      exact .if3 c (by simp only [Fs.count] at *; omega)
  · obtain ⟨a, ka, r, rfl, hr⟩ := forestS (n := 1) (show k.count = 1 + 1 by omega)
    obtain ⟨b, kb, r, rfl, hr2⟩ := forestS (n := 0) hr
    rw [forest0 hr2]
    rcases c with c | c
    · exact .loop c
    · exact .either c
  · obtain ⟨a, ka, r, rfl, hr⟩ := forestS (n := 0) (show k.count = 0 + 1 by omega)
    rw [forest0 hr]
    exact .fork c
end Go.Proofs.YtefijbpbenmbgaaDoor
