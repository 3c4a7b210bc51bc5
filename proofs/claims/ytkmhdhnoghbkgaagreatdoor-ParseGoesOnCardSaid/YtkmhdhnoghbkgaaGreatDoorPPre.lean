/- The grammar of layer 9, plain: over tokens that begin alike, what is read is the same, or goes behind what is alike. No condition. -/
import Derived.Test.YtkmhdhnoghbkgaaGreatDoorQ12
set_option linter.unusedVariables false
namespace Go.Proofs.YtkmhdhnoghbkgaaGreatDoor
open Go.RowKit Tok

def Far {α : Type} (K : Nat) (s : St α) : Prop := match s with
  | .ok _ j => K ≤ j
  | .bad j => K ≤ j
  | .out => True
def Agr {α : Type} (K : Nat) (s t : St α) : Prop := s = .out ∨ t = .out ∨ s = t ∨ (Far K s ∧ Far K t)
/-- Two rules: they read the same, or both go behind K; from K on they stay there. -/
def Sim {α : Type} (K : Nat) (F G : Nat → St α) : Prop := ∀ i, Agr K (F i) (G i) ∧ (K ≤ i → Far K (F i) ∧ Far K (G i))
theorem Far.and {α β : Type} {K : Nat} {s : St α} {f : α → Nat → St β} (h : Far K s) (hf : ∀ a k, K ≤ k → Far K (f a k)) : Far K (s.and f) := by
  cases s with
  | ok a k => exact hf a k h
  | bad k => exact h
  | out => exact trivial
theorem Sim.and {α β : Type} {K : Nat} {F G : Nat → St α} {f g : α → Nat → St β} (h : Sim K F G) (hf : ∀ a, Sim K (f a) (g a)) : Sim K (fun i => (F i).and f) (fun i => (G i).and g) := by
  intro i
  obtain ⟨h1, h2⟩ := h i
  have hF : Far K (F i) → Far K ((F i).and f) := fun h => h.and (fun a k hk => ((hf a k).2 hk).1)
  have hG : Far K (G i) → Far K ((G i).and g) := fun h => h.and (fun a k hk => ((hf a k).2 hk).2)
  refine ⟨?_, fun hi => ⟨hF (h2 hi).1, hG (h2 hi).2⟩⟩
  rcases h1 with h1 | h1 | h1 | ⟨h3, h4⟩
  · dsimp only
    rw [h1]
    exact .inl rfl
  · dsimp only
    rw [h1]
    exact .inr (.inl rfl)
  · dsimp only
    rw [h1]
    cases G i with
    | ok a k => exact (hf a k).1
    | bad k => exact .inr (.inr (.inl rfl))
    | out => exact .inl rfl
  · exact .inr (.inr (.inr ⟨hF h3, hG h4⟩))
theorem Sim.ok {α : Type} {K : Nat} (a : α) : Sim K (St.ok a) (St.ok a) := fun _ => ⟨.inr (.inr (.inl rfl)), fun h => ⟨h, h⟩⟩
theorem Sim.ite {α : Type} {K : Nat} {p : Prop} [Decidable p] {A B A' B' : Nat → St α} (h : Sim K A A') (h' : Sim K B B') : Sim K (fun i => if p then A i else B i) (fun i => if p then A' i else B' i) := by
  by_cases hp : p
  · simp only [if_pos hp]; exact h
  · simp only [if_neg hp]; exact h'
theorem Sim.arg {α μ : Type} {K : Nat} {m m' : Nat → μ} {F G : μ → Nat → St α} (hm : ∀ i, i < K → m i = m' i) (h : ∀ x, Sim K (F x) (G x)) : Sim K (fun i => F (m i) i) (fun i => G (m' i) i) := by
  intro i
  have hfar : K ≤ i → Far K (F (m i) i) ∧ Far K (G (m' i) i) := fun hi => ⟨((h (m i) i).2 hi).1, ((h (m' i) i).2 hi).2⟩
  refine ⟨?_, hfar⟩
  rcases Nat.lt_or_ge i K with hi | hi
  · dsimp only
    rw [hm i hi]
    exact (h (m' i) i).1
  · exact .inr (.inr (.inr (hfar hi)))
theorem Sim.go {α : Type} {K : Nat} {F G : Nat → St α} (h : Sim K F G) : Sim K (fun i => F i) (fun i => G i) := h
section
variable {ks ls : List Tk} {K : Nat}
theorem mark_pre (h : ∀ i, i < K → ks[i]? = ls[i]?) (i : Nat) (hi : i < K) : markT ks i = markT ls i := by
  unfold markT
  rw [h i hi]
theorem sim_want (h : ∀ i, i < K → ks[i]? = ls[i]?) (m : List UInt8) : Sim K (wantT ks m) (wantT ls m) := by
  have hf : ∀ (ks : List Tk) i, K ≤ i → Far K (wantT ks m i) := fun ks i hi => by
    unfold wantT
    split
    · exact Nat.le_succ_of_le hi
    · exact hi
  intro i
  refine ⟨?_, fun hi => ⟨hf ks i hi, hf ls i hi⟩⟩
  rcases Nat.lt_or_ge i K with hi | hi
  · right; right; left
    unfold wantT
    rw [mark_pre h i hi]
  · exact .inr (.inr (.inr ⟨hf ks i hi, hf ls i hi⟩))
theorem sim_own (h : ∀ i, i < K → ks[i]? = ls[i]?) : Sim K (ownT ks) (ownT ls) := by
  have hf : ∀ (ks : List Tk) i, K ≤ i → Far K (ownT ks i) := fun ks i hi => by
    unfold ownT
    split
    · split
      · exact Nat.le_succ_of_le hi
      · exact hi
    · exact hi
  intro i
  refine ⟨?_, fun hi => ⟨hf ks i hi, hf ls i hi⟩⟩
  rcases Nat.lt_or_ge i K with hi | hi
  · right; right; left
    unfold ownT
    rw [h i hi]
  · exact .inr (.inr (.inr ⟨hf ks i hi, hf ls i hi⟩))
theorem gM_sim (h : ∀ i, i < K → ks[i]? = ls[i]?) {G G' : NT → Nat → St Ch} (ih : ∀ q, Sim K (G q) (G' q)) (m : List UInt8) : Sim K (gM ks G m) (gM ls G' m) := by
  show Sim K (fun i => gM ks G m i) (fun i => gM ls G' m i)
  unfold gM
  refine Sim.ite ((ih _).and fun c => Sim.ok _) ?_
  refine Sim.ite (ih _) ?_
  refine Sim.ite ((sim_want h m).and fun _ => Sim.ok _) ?_
  refine Sim.ite ((sim_want h m).and fun _ => (ih _).and fun c => Sim.ok _) ?_
  refine Sim.ite ((sim_want h m).and fun _ => (ih _).and fun c => Sim.ok _) ?_
  refine Sim.ite ((sim_want h m).and fun _ => (sim_own h).and fun nm => (ih _).and fun c => Sim.ok _) ?_
  refine Sim.ite ((sim_want h m).and fun _ => (ih _).and fun c => Sim.ok _) ?_
  refine Sim.ite ((sim_want h m).and fun _ => (sim_own h).and fun nm => Sim.ok _) ?_
  exact (sim_own h).and fun nm => Sim.ok _
def primF (ks : List Tk) (f : Nat) (p : Option Tk × List UInt8) (i : Nat) : St Ch := match p.1 with
  | some x => if x.kind = 2 then St.ok (Ch.none.under 23 x.num []) (i + 1) else if x.kind = 3 then .ok (Ch.none.under 24 0 x.text) (i + 1) else gM ks (gP ks f) p.2 i
  | none => gM ks (gP ks f) [] i
/-- The same rule, twice. -/
theorem gP_self (h : ∀ i, i < K → ks[i]? = ks[i]?) : ∀ f q, Sim K (gP ks f q) (gP ks f q)
  | 0, q => fun _ => ⟨.inl rfl, fun _ => ⟨trivial, trivial⟩⟩
  | f + 1, q => by
    have ih := gP_self h f
    have hm := mark_pre h
    cases q with
    | flow => exact (sim_want h _).and fun _ => (sim_own h).and fun nm => (ih _).and fun ps => (ih _).and fun b => Sim.ok _
    | param => exact (sim_own h).and fun nm => Sim.ok _
    | block => exact (ih _).and fun c => Sim.ok _
    | stmts => exact ih _
    | stmtsGo a =>
      exact Sim.arg (F := fun m i => if m = B.rbr then .ok a i else (gP ks f .stmt i).and fun c i => gP ks f (.stmtsGo (a.then c)) i) (G := fun m i => if m = B.rbr then .ok a i else (gP ks f .stmt i).and fun c i => gP ks f (.stmtsGo (a.then c)) i) hm
        (fun m => Sim.ite (Sim.ok a) ((ih _).and fun c => ih _))
    | stmt =>
      exact Sim.arg
        (F := fun m i => if m = B.let then (wantT ks B.let i).and fun _ i => gP ks f (.set 4) i
          else if m = B.if then gP ks f .choice i
          else if m = B.while then (wantT ks B.while i).and fun _ i => (gP ks f .expr i).and fun c i => (gP ks f .block i).and fun b i => .ok ((c.then b).under 7 0 []) i
          else if m = B.ret ∨ m = B.fail ∨ m = B.sleep ∨ m = B.do then (wantT ks m i).and fun _ j => (gP ks f .expr j).and fun c j => .ok (c.under (opOfT m) 0 []) j
          else gP ks f (.set 5) i)
        (G := fun m i => if m = B.let then (wantT ks B.let i).and fun _ i => gP ks f (.set 4) i
          else if m = B.if then gP ks f .choice i
          else if m = B.while then (wantT ks B.while i).and fun _ i => (gP ks f .expr i).and fun c i => (gP ks f .block i).and fun b i => .ok ((c.then b).under 7 0 []) i
          else if m = B.ret ∨ m = B.fail ∨ m = B.sleep ∨ m = B.do then (wantT ks m i).and fun _ j => (gP ks f .expr j).and fun c j => .ok (c.under (opOfT m) 0 []) j
          else gP ks f (.set 5) i) hm
        (fun m => Sim.ite ((sim_want h _).and fun _ => ih _) (Sim.ite (ih _) (Sim.ite ((sim_want h _).and fun _ => (ih _).and fun c => (ih _).and fun b => Sim.ok _)
          (Sim.ite ((sim_want h _).and fun _ => (ih _).and fun c => Sim.ok _) (ih _)))))
    | choice =>
      exact (sim_want h _).and fun _ => (ih _).and fun c => (ih _).and fun b =>
        Sim.arg (F := fun m i => if m = B.else then (wantT ks B.else i).and fun _ i => (gP ks f .block i).and fun d i => .ok (((c.then b).then d).under 6 0 []) i else .ok ((c.then b).under 6 0 []) i)
          (G := fun m i => if m = B.else then (wantT ks B.else i).and fun _ i => (gP ks f .block i).and fun d i => .ok (((c.then b).then d).under 6 0 []) i else .ok ((c.then b).under 6 0 []) i) hm
          (fun m => Sim.ite ((sim_want h _).and fun _ => (ih _).and fun d => Sim.ok _) (Sim.ok _))
    | expr => exact ih _
    | and => exact ih _
    | not =>
      exact Sim.arg (F := fun m i => if m = B.not then (wantT ks B.not i).and fun _ i => (gP ks f .not i).and fun c i => .ok (c.under 43 0 []) i else gP ks f .cmp i)
        (G := fun m i => if m = B.not then (wantT ks B.not i).and fun _ i => (gP ks f .not i).and fun c i => .ok (c.under 43 0 []) i else gP ks f .cmp i) hm
        (fun m => Sim.ite ((sim_want h _).and fun _ => (ih _).and fun c => Sim.ok _) (ih _))
    | cmp =>
      exact (ih _).and fun c =>
        Sim.arg (F := fun m i => if m = B.eqq ∨ m = B.neq ∨ m = B.les ∨ m = B.leq then (wantT ks m i).and fun _ j => (gP ks f .sum j).and fun d j => .ok ((c.then d).under (opOfT m) 0 []) j else .ok c i)
          (G := fun m i => if m = B.eqq ∨ m = B.neq ∨ m = B.les ∨ m = B.leq then (wantT ks m i).and fun _ j => (gP ks f .sum j).and fun d j => .ok ((c.then d).under (opOfT m) 0 []) j else .ok c i) hm
          (fun m => Sim.ite ((sim_want h _).and fun _ => (ih _).and fun d => Sim.ok _) (Sim.ok _))
    | sum => exact ih _
    | term => exact ih _
    | pre =>
      exact Sim.arg
        (F := fun m i => if m = B.sub then (wantT ks B.sub i).and fun _ i => (gP ks f .pre i).and fun c i => .ok (c.under 44 0 []) i
          else if m = B.await ∨ m = B.settle then (wantT ks m i).and fun _ j => (gP ks f .pre j).and fun c j => .ok (c.under (opOfT m) 0 []) j else gP ks f .post i)
        (G := fun m i => if m = B.sub then (wantT ks B.sub i).and fun _ i => (gP ks f .pre i).and fun c i => .ok (c.under 44 0 []) i
          else if m = B.await ∨ m = B.settle then (wantT ks m i).and fun _ j => (gP ks f .pre j).and fun c j => .ok (c.under (opOfT m) 0 []) j else gP ks f .post i) hm
        (fun m => Sim.ite ((sim_want h _).and fun _ => (ih _).and fun c => Sim.ok _) (Sim.ite ((sim_want h _).and fun _ => (ih _).and fun c => Sim.ok _) (ih _)))
    | post => exact (ih _).and fun c => ih _
    | postGo a =>
      exact Sim.arg (F := fun m i => if m = B.lsq then (gP ks f (.between B.lsq .expr B.rsq) i).and fun c i => gP ks f (.postGo ((a.then c).under 42 0 [])) i else .ok a i)
        (G := fun m i => if m = B.lsq then (gP ks f (.between B.lsq .expr B.rsq) i).and fun c i => gP ks f (.postGo ((a.then c).under 42 0 [])) i else .ok a i) hm
        (fun m => Sim.ite ((ih _).and fun c => ih _) (Sim.ok _))
    | prim =>
      have hgo : ∀ (ks : List Tk) (f : Nat), gP ks (f + 1) .prim = fun i => primF ks f (ks[i]?, markT ks i) i := fun ks f => rfl
      rw [hgo ks f]
      refine Sim.arg (m := fun i => (ks[i]?, markT ks i)) (m' := fun i => (ks[i]?, markT ks i)) (F := primF ks f) (G := primF ks f) (fun i hi => rfl) ?_
      rintro ⟨o, m⟩
      have hs : ∀ c : Ch, Sim K (fun i => St.ok c (i + 1)) (fun i => St.ok c (i + 1)) := fun c i => ⟨.inr (.inr (.inl rfl)), fun hi => ⟨Nat.le_succ_of_le hi, Nat.le_succ_of_le hi⟩⟩
      cases o with
      | none => exact gM_sim h ih []
      | some x => exact Sim.ite (hs _) (Sim.ite (hs _) (gM_sim h ih m))
    | two => exact (ih _).and fun c => (sim_want h _).and fun _ => (ih _).and fun d => Sim.ok _
    | set op => exact (sim_own h).and fun nm => (sim_want h _).and fun _ => (ih _).and fun c => Sim.ok _
    | list o p e =>
      exact (sim_want h _).and fun _ =>
        Sim.arg (F := fun m i => if m = e then (wantT ks e i).and fun _ i => .ok Ch.none i else (gP ks f p i).and fun c i => (gP ks f (.listGo p e c) i))
          (G := fun m i => if m = e then (wantT ks e i).and fun _ i => .ok Ch.none i else (gP ks f p i).and fun c i => (gP ks f (.listGo p e c) i)) hm
          (fun m => Sim.ite ((sim_want h _).and fun _ => Sim.ok _) ((ih _).and fun c => ih _))
    | listGo p e a =>
      exact Sim.arg (F := fun m i => if m = B.com then (wantT ks B.com i).and fun _ i => (gP ks f p i).and fun c i => gP ks f (.listGo p e (a.then c)) i else (wantT ks e i).and fun _ i => .ok a i)
        (G := fun m i => if m = B.com then (wantT ks B.com i).and fun _ i => (gP ks f p i).and fun c i => gP ks f (.listGo p e (a.then c)) i else (wantT ks e i).and fun _ i => .ok a i) hm
        (fun m => Sim.ite ((sim_want h _).and fun _ => (ih _).and fun c => ih _) ((sim_want h _).and fun _ => Sim.ok _))
    | between o p e => exact (sim_want h _).and fun _ => (ih _).and fun c => (sim_want h _).and fun _ => Sim.ok _
    | row p ms => exact (ih _).and fun c => ih _
    | rowGo p ms a =>
      exact Sim.arg (F := fun m i => if m ∈ ms then (wantT ks m i).and fun _ j => (gP ks f p j).and fun c j => gP ks f (.rowGo p ms ((a.then c).under (opOfT m) 0 [])) j else .ok a i)
        (G := fun m i => if m ∈ ms then (wantT ks m i).and fun _ j => (gP ks f p j).and fun c j => gP ks f (.rowGo p ms ((a.then c).under (opOfT m) 0 [])) j else .ok a i) hm
        (fun m => Sim.ite ((sim_want h _).and fun _ => (ih _).and fun c => ih _) (Sim.ok _))
/-- From K on each rule stays there. -/
theorem gP_far (ks : List Tk) (f : Nat) (q : NT) (i : Nat) (hi : K ≤ i) : Far K (gP ks f q i) := ((gP_self (fun _ _ => rfl) f q i).2 hi).1
theorem gP_sim (h : ∀ i, i < K → ks[i]? = ls[i]?) : ∀ f g q, Sim K (gP ks f q) (gP ls g q)
  | 0, g, q => fun i => ⟨.inl rfl, fun hi => ⟨trivial, (gP_far ls g q i hi)⟩⟩
  | f + 1, 0, q => fun i => ⟨.inr (.inl rfl), fun hi => ⟨gP_far ks (f + 1) q i hi, trivial⟩⟩
  | f + 1, g + 1, q => by
    have ih := gP_sim h f g
    have hm := mark_pre h
    cases q with
    | flow => exact (sim_want h _).and fun _ => (sim_own h).and fun nm => (ih _).and fun ps => (ih _).and fun b => Sim.ok _
    | param => exact (sim_own h).and fun nm => Sim.ok _
    | block => exact (ih _).and fun c => Sim.ok _
    | stmts => exact ih _
    | stmtsGo a =>
      exact Sim.arg (F := fun m i => if m = B.rbr then .ok a i else (gP ks f .stmt i).and fun c i => gP ks f (.stmtsGo (a.then c)) i) (G := fun m i => if m = B.rbr then .ok a i else (gP ls g .stmt i).and fun c i => gP ls g (.stmtsGo (a.then c)) i) hm
        (fun m => Sim.ite (Sim.ok a) ((ih _).and fun c => ih _))
    | stmt =>
      exact Sim.arg
        (F := fun m i => if m = B.let then (wantT ks B.let i).and fun _ i => gP ks f (.set 4) i
          else if m = B.if then gP ks f .choice i
          else if m = B.while then (wantT ks B.while i).and fun _ i => (gP ks f .expr i).and fun c i => (gP ks f .block i).and fun b i => .ok ((c.then b).under 7 0 []) i
          else if m = B.ret ∨ m = B.fail ∨ m = B.sleep ∨ m = B.do then (wantT ks m i).and fun _ j => (gP ks f .expr j).and fun c j => .ok (c.under (opOfT m) 0 []) j
          else gP ks f (.set 5) i)
        (G := fun m i => if m = B.let then (wantT ls B.let i).and fun _ i => gP ls g (.set 4) i
          else if m = B.if then gP ls g .choice i
          else if m = B.while then (wantT ls B.while i).and fun _ i => (gP ls g .expr i).and fun c i => (gP ls g .block i).and fun b i => .ok ((c.then b).under 7 0 []) i
          else if m = B.ret ∨ m = B.fail ∨ m = B.sleep ∨ m = B.do then (wantT ls m i).and fun _ j => (gP ls g .expr j).and fun c j => .ok (c.under (opOfT m) 0 []) j
          else gP ls g (.set 5) i) hm
        (fun m => Sim.ite ((sim_want h _).and fun _ => ih _) (Sim.ite (ih _) (Sim.ite ((sim_want h _).and fun _ => (ih _).and fun c => (ih _).and fun b => Sim.ok _)
          (Sim.ite ((sim_want h _).and fun _ => (ih _).and fun c => Sim.ok _) (ih _)))))
    | choice =>
      exact (sim_want h _).and fun _ => (ih _).and fun c => (ih _).and fun b =>
        Sim.arg (F := fun m i => if m = B.else then (wantT ks B.else i).and fun _ i => (gP ks f .block i).and fun d i => .ok (((c.then b).then d).under 6 0 []) i else .ok ((c.then b).under 6 0 []) i)
          (G := fun m i => if m = B.else then (wantT ls B.else i).and fun _ i => (gP ls g .block i).and fun d i => .ok (((c.then b).then d).under 6 0 []) i else .ok ((c.then b).under 6 0 []) i) hm
          (fun m => Sim.ite ((sim_want h _).and fun _ => (ih _).and fun d => Sim.ok _) (Sim.ok _))
    | expr => exact ih _
    | and => exact ih _
    | not =>
      exact Sim.arg (F := fun m i => if m = B.not then (wantT ks B.not i).and fun _ i => (gP ks f .not i).and fun c i => .ok (c.under 43 0 []) i else gP ks f .cmp i)
        (G := fun m i => if m = B.not then (wantT ls B.not i).and fun _ i => (gP ls g .not i).and fun c i => .ok (c.under 43 0 []) i else gP ls g .cmp i) hm
        (fun m => Sim.ite ((sim_want h _).and fun _ => (ih _).and fun c => Sim.ok _) (ih _))
    | cmp =>
      exact (ih _).and fun c =>
        Sim.arg (F := fun m i => if m = B.eqq ∨ m = B.neq ∨ m = B.les ∨ m = B.leq then (wantT ks m i).and fun _ j => (gP ks f .sum j).and fun d j => .ok ((c.then d).under (opOfT m) 0 []) j else .ok c i)
          (G := fun m i => if m = B.eqq ∨ m = B.neq ∨ m = B.les ∨ m = B.leq then (wantT ls m i).and fun _ j => (gP ls g .sum j).and fun d j => .ok ((c.then d).under (opOfT m) 0 []) j else .ok c i) hm
          (fun m => Sim.ite ((sim_want h _).and fun _ => (ih _).and fun d => Sim.ok _) (Sim.ok _))
    | sum => exact ih _
    | term => exact ih _
    | pre =>
      exact Sim.arg
        (F := fun m i => if m = B.sub then (wantT ks B.sub i).and fun _ i => (gP ks f .pre i).and fun c i => .ok (c.under 44 0 []) i
          else if m = B.await ∨ m = B.settle then (wantT ks m i).and fun _ j => (gP ks f .pre j).and fun c j => .ok (c.under (opOfT m) 0 []) j else gP ks f .post i)
        (G := fun m i => if m = B.sub then (wantT ls B.sub i).and fun _ i => (gP ls g .pre i).and fun c i => .ok (c.under 44 0 []) i
          else if m = B.await ∨ m = B.settle then (wantT ls m i).and fun _ j => (gP ls g .pre j).and fun c j => .ok (c.under (opOfT m) 0 []) j else gP ls g .post i) hm
        (fun m => Sim.ite ((sim_want h _).and fun _ => (ih _).and fun c => Sim.ok _) (Sim.ite ((sim_want h _).and fun _ => (ih _).and fun c => Sim.ok _) (ih _)))
    | post => exact (ih _).and fun c => ih _
    | postGo a =>
      exact Sim.arg (F := fun m i => if m = B.lsq then (gP ks f (.between B.lsq .expr B.rsq) i).and fun c i => gP ks f (.postGo ((a.then c).under 42 0 [])) i else .ok a i)
        (G := fun m i => if m = B.lsq then (gP ls g (.between B.lsq .expr B.rsq) i).and fun c i => gP ls g (.postGo ((a.then c).under 42 0 [])) i else .ok a i) hm
        (fun m => Sim.ite ((ih _).and fun c => ih _) (Sim.ok _))
    | prim =>
      have hgo : ∀ (ks : List Tk) (f : Nat), gP ks (f + 1) .prim = fun i => primF ks f (ks[i]?, markT ks i) i := fun ks f => rfl
      rw [hgo ks f, hgo ls g]
      refine Sim.arg (m := fun i => (ks[i]?, markT ks i)) (m' := fun i => (ls[i]?, markT ls i)) (F := primF ks f) (G := primF ls g) (fun i hi => by rw [h i hi, hm i hi]) ?_
      rintro ⟨o, m⟩
      have hs : ∀ c : Ch, Sim K (fun i => St.ok c (i + 1)) (fun i => St.ok c (i + 1)) := fun c i => ⟨.inr (.inr (.inl rfl)), fun hi => ⟨Nat.le_succ_of_le hi, Nat.le_succ_of_le hi⟩⟩
      cases o with
      | none => exact gM_sim h ih []
      | some x => exact Sim.ite (hs _) (Sim.ite (hs _) (gM_sim h ih m))
    | two => exact (ih _).and fun c => (sim_want h _).and fun _ => (ih _).and fun d => Sim.ok _
    | set op => exact (sim_own h).and fun nm => (sim_want h _).and fun _ => (ih _).and fun c => Sim.ok _
    | list o p e =>
      exact (sim_want h _).and fun _ =>
        Sim.arg (F := fun m i => if m = e then (wantT ks e i).and fun _ i => .ok Ch.none i else (gP ks f p i).and fun c i => (gP ks f (.listGo p e c) i))
          (G := fun m i => if m = e then (wantT ls e i).and fun _ i => .ok Ch.none i else (gP ls g p i).and fun c i => (gP ls g (.listGo p e c) i)) hm
          (fun m => Sim.ite ((sim_want h _).and fun _ => Sim.ok _) ((ih _).and fun c => ih _))
    | listGo p e a =>
      exact Sim.arg (F := fun m i => if m = B.com then (wantT ks B.com i).and fun _ i => (gP ks f p i).and fun c i => gP ks f (.listGo p e (a.then c)) i else (wantT ks e i).and fun _ i => .ok a i)
        (G := fun m i => if m = B.com then (wantT ls B.com i).and fun _ i => (gP ls g p i).and fun c i => gP ls g (.listGo p e (a.then c)) i else (wantT ls e i).and fun _ i => .ok a i) hm
        (fun m => Sim.ite ((sim_want h _).and fun _ => (ih _).and fun c => ih _) ((sim_want h _).and fun _ => Sim.ok _))
    | between o p e => exact (sim_want h _).and fun _ => (ih _).and fun c => (sim_want h _).and fun _ => Sim.ok _
    | row p ms => exact (ih _).and fun c => ih _
    | rowGo p ms a =>
      exact Sim.arg (F := fun m i => if m ∈ ms then (wantT ks m i).and fun _ j => (gP ks f p j).and fun c j => gP ks f (.rowGo p ms ((a.then c).under (opOfT m) 0 [])) j else .ok a i)
        (G := fun m i => if m ∈ ms then (wantT ls m i).and fun _ j => (gP ls g p j).and fun c j => gP ls g (.rowGo p ms ((a.then c).under (opOfT m) 0 [])) j else .ok a i) hm
        (fun m => Sim.ite ((sim_want h _).and fun _ => (ih _).and fun c => ih _) (Sim.ok _))
end
end Go.Proofs.YtkmhdhnoghbkgaaGreatDoor
