/- A part of the proof: PPre, ShB. No condition. -/
import Derived.Test.YtjiemkidmlgbeaaGreatDoorQ09
import Derived.Test.YtjiemkidmlgbeaaGreatDoorQ23
set_option linter.unusedVariables false
set_option linter.unusedSimpArgs false
namespace Go.Proofs.YtjiemkidmlgbeaaGreatDoor
open Go.RowKit Tok
def Far {α : Type} (K : Nat) (s : St α) : Prop := match s with
 | .ok _ j => K ≤ j
 | .bad j => K ≤ j
 | .out => True
def Agr {α : Type} (K : Nat) (s t : St α) : Prop := s = .out ∨ t = .out ∨ s = t ∨ (Far K s ∧ Far K t)
def Sim {α : Type} (K : Nat) (F G : Nat → St α) : Prop := ∀ i, Agr K (F i) (G i) ∧ (K ≤ i → Far K (F i) ∧ Far K (G i))
theorem Far.and {α β : Type} {K : Nat} {s : St α} {f : α → Nat → St β} (h : Far K s) (hf : ∀ a k, K ≤ k → Far K (f a k)) : Far K (s.and f) := by
 cases s with
 | ok a k => exact hf a k h
 | bad k => exact h
 | out => exact trivial
theorem Sim.and {α β : Type} {K : Nat} {F G : Nat → St α} {f g : α → Nat → St β} (h : Sim K F G) (hf : ∀ a, Sim K (f a) (g a)) : Sim K (fun i => (F i).and f) (fun i => (G i).and g) := by
 intro i;obtain ⟨h1, h2⟩ := h i;have hF : Far K (F i) → Far K ((F i).and f) := fun h => h.and (fun a k hk => ((hf a k).2 hk).1);have hG : Far K (G i) → Far K ((G i).and g) := fun h => h.and (fun a k hk => ((hf a k).2 hk).2);refine ⟨?_, fun hi => ⟨hF (h2 hi).1, hG (h2 hi).2⟩⟩;rcases h1 with h1 | h1 | h1 | ⟨h3, h4⟩
 · dsimp only
   rw [h1];exact .inl rfl
 · dsimp only
   rw [h1];exact .inr (.inl rfl)
 · dsimp only
   rw [h1];cases G i with
   | ok a k => exact (hf a k).1
   | bad k => exact .inr (.inr (.inl rfl))
   | out => exact .inl rfl
 · exact .inr (.inr (.inr ⟨hF h3, hG h4⟩))
theorem Sim.ok {α : Type} {K : Nat} (a : α) : Sim K (St.ok a) (St.ok a) := fun _ => ⟨.inr (.inr (.inl rfl)), fun h => ⟨h, h⟩⟩
theorem Sim.ite {α : Type} {K : Nat} {p : Prop} [Decidable p] {A B A' B' : Nat → St α} (h : Sim K A A') (h' : Sim K B B') : Sim K (fun i => if p then A i else B i) (fun i => if p then A' i else B' i) := by
 by_cases hp : p
 · simp only [if_pos hp]; exact h
 · simp only [if_neg hp]; exact h'
theorem Sim.arg {α μ : Type} {K : Nat} {m m' : Nat → μ} {F G : μ → Nat → St α} (hm : ∀ i, i < K → m i = m' i) (h : ∀ x, Sim K (F x) (G x)) : Sim K (fun i => F (m i) i) (fun i => G (m' i) i) := by
 intro i;have hfar : K ≤ i → Far K (F (m i) i) ∧ Far K (G (m' i) i) := fun hi => ⟨((h (m i) i).2 hi).1, ((h (m' i) i).2 hi).2⟩;refine ⟨?_, hfar⟩;rcases Nat.lt_or_ge i K with hi | hi
 · dsimp only
   rw [hm i hi];exact (h (m' i) i).1
 · exact .inr (.inr (.inr (hfar hi)))
section
variable {ks ls : List Tk} {K : Nat}
theorem mark_pre (h : ∀ i, i < K → ks[i]? = ls[i]?) (i : Nat) (hi : i < K) : markT ks i = markT ls i := by
 unfold markT;rw [h i hi]
theorem sim_want (h : ∀ i, i < K → ks[i]? = ls[i]?) (m : List UInt8) : Sim K (wantT ks m) (wantT ls m) := by
 have hf : ∀ (ks : List Tk) i, K ≤ i → Far K (wantT ks m i) := fun ks i hi => by
   unfold wantT;split
   · exact Nat.le_succ_of_le hi
   · exact hi
 intro i;refine ⟨?_, fun hi => ⟨hf ks i hi, hf ls i hi⟩⟩;rcases Nat.lt_or_ge i K with hi | hi
 · right; right; left
   unfold wantT;rw [mark_pre h i hi]
 · exact .inr (.inr (.inr ⟨hf ks i hi, hf ls i hi⟩))
theorem sim_own (h : ∀ i, i < K → ks[i]? = ls[i]?) : Sim K (ownT ks) (ownT ls) := by
 have hf : ∀ (ks : List Tk) i, K ≤ i → Far K (ownT ks i) := fun ks i hi => by
   unfold ownT;split
   · split
     · exact Nat.le_succ_of_le hi
     · exact hi
   · exact hi
 intro i;refine ⟨?_, fun hi => ⟨hf ks i hi, hf ls i hi⟩⟩;rcases Nat.lt_or_ge i K with hi | hi
 · right; right; left
   unfold ownT;rw [h i hi]
 · exact .inr (.inr (.inr ⟨hf ks i hi, hf ls i hi⟩))
theorem gM_sim (h : ∀ i, i < K → ks[i]? = ls[i]?) {G G' : NT → Nat → St Ch} (ih : ∀ q, Sim K (G q) (G' q)) (m : List UInt8) : Sim K (gM ks G m) (gM ls G' m) := by
 show Sim K (fun i => gM ks G m i) (fun i => gM ls G' m i)
 unfold gM;refine Sim.ite ((ih _).and fun c => Sim.ok _) ?_;refine Sim.ite (ih _) ?_;refine Sim.ite ((sim_want h m).and fun _ => Sim.ok _) ?_;refine Sim.ite ((sim_want h m).and fun _ => (ih _).and fun c => Sim.ok _) ?_;refine Sim.ite ((sim_want h m).and fun _ => (ih _).and fun c => Sim.ok _) ?_;refine Sim.ite ((sim_want h m).and fun _ => (sim_own h).and fun nm => (ih _).and fun c => Sim.ok _) ?_;refine Sim.ite ((sim_want h m).and fun _ => (ih _).and fun c => Sim.ok _) ?_;refine Sim.ite ((sim_want h m).and fun _ => (sim_own h).and fun nm => Sim.ok _) ?_;exact (sim_own h).and fun nm => Sim.ok _
def primF (ks : List Tk) (f : Nat) (p : Option Tk × List UInt8) (i : Nat) : St Ch := match p.1 with
 | some x => if x.kind = 2 then St.ok (Ch.none.under 23 x.num []) (i + 1) else if x.kind = 3 then .ok (Ch.none.under 24 0 x.text) (i + 1) else gM ks (gP ks f) p.2 i
 | none => gM ks (gP ks f) [] i
theorem gP_self (h : ∀ i, i < K → ks[i]? = ks[i]?) : ∀ f q, Sim K (gP ks f q) (gP ks f q)
 | 0, q => fun _ => ⟨.inl rfl, fun _ => ⟨trivial, trivial⟩⟩
 | f + 1, q => by
   have ih := gP_self h f;have hm := mark_pre h;cases q with
   | flow => exact (sim_want h _).and fun _ => (sim_own h).and fun nm => (ih _).and fun ps => (ih _).and fun b => Sim.ok _
   | param => exact (sim_own h).and fun nm => Sim.ok _
   | block => exact (ih _).and fun c => Sim.ok _
   | stmts => exact ih _
   | stmtsGo a =>
     exact Sim.arg (F := fun m i => if m = B.rbr then .ok a i else (gP ks f .stmt i).and fun c i => gP ks f (.stmtsGo (a.then c)) i) (G := fun m i => if m = B.rbr then .ok a i else (gP ks f .stmt i).and fun c i => gP ks f (.stmtsGo (a.then c)) i) hm
       (fun m => Sim.ite (Sim.ok a) ((ih _).and fun c => ih _))
   | stmt =>
     exact Sim.arg
       (F := fun m i => if m = B.letW then (wantT ks B.letW i).and fun _ i => gP ks f (.set 4) i
         else if m = B.ifW then gP ks f .choice i
         else if m = B.whileW then (wantT ks B.whileW i).and fun _ i => (gP ks f .expr i).and fun c i => (gP ks f .block i).and fun b i => .ok ((c.then b).under 7 0 []) i
         else if m = B.ret ∨ m = B.fail ∨ m = B.sleep ∨ m = B.doW then (wantT ks m i).and fun _ j => (gP ks f .expr j).and fun c j => .ok (c.under (opOfT m) 0 []) j
         else gP ks f (.set 5) i)
       (G := fun m i => if m = B.letW then (wantT ks B.letW i).and fun _ i => gP ks f (.set 4) i
         else if m = B.ifW then gP ks f .choice i
         else if m = B.whileW then (wantT ks B.whileW i).and fun _ i => (gP ks f .expr i).and fun c i => (gP ks f .block i).and fun b i => .ok ((c.then b).under 7 0 []) i
         else if m = B.ret ∨ m = B.fail ∨ m = B.sleep ∨ m = B.doW then (wantT ks m i).and fun _ j => (gP ks f .expr j).and fun c j => .ok (c.under (opOfT m) 0 []) j
         else gP ks f (.set 5) i) hm
       (fun m => Sim.ite ((sim_want h _).and fun _ => ih _) (Sim.ite (ih _) (Sim.ite ((sim_want h _).and fun _ => (ih _).and fun c => (ih _).and fun b => Sim.ok _)
         (Sim.ite ((sim_want h _).and fun _ => (ih _).and fun c => Sim.ok _) (ih _)))))
   | choice =>
     exact (sim_want h _).and fun _ => (ih _).and fun c => (ih _).and fun b =>
       Sim.arg (F := fun m i => if m = B.elseW then (wantT ks B.elseW i).and fun _ i => (gP ks f .block i).and fun d i => .ok (((c.then b).then d).under 6 0 []) i else .ok ((c.then b).under 6 0 []) i)
         (G := fun m i => if m = B.elseW then (wantT ks B.elseW i).and fun _ i => (gP ks f .block i).and fun d i => .ok (((c.then b).then d).under 6 0 []) i else .ok ((c.then b).under 6 0 []) i) hm
         (fun m => Sim.ite ((sim_want h _).and fun _ => (ih _).and fun d => Sim.ok _) (Sim.ok _))
   | expr => exact ih _
   | and => exact ih _
   | not =>
     exact Sim.arg (F := fun m i => if m = B.not then (wantT ks B.not i).and fun _ i => (gP ks f .not i).and fun c i => .ok (c.under 43 0 []) i else gP ks f .cmp i)
       (G := fun m i => if m = B.not then (wantT ks B.not i).and fun _ i => (gP ks f .not i).and fun c i => .ok (c.under 43 0 []) i else gP ks f .cmp i) hm
       (fun m => Sim.ite ((sim_want h _).and fun _ => (ih _).and fun c => Sim.ok _) (ih _))
   | cmp =>
     exact (ih _).and fun c =>
       Sim.arg (F := fun m i => if m = B.eqq ∨ m = B.neq ∨ m = B.les ∨ m = B.leq then (wantT ks m i).and fun _ j => (gP ks f .sum j).and fun d j => .ok ((c.then d).under (opOfT m) 0 []) j else .ok c i)
         (G := fun m i => if m = B.eqq ∨ m = B.neq ∨ m = B.les ∨ m = B.leq then (wantT ks m i).and fun _ j => (gP ks f .sum j).and fun d j => .ok ((c.then d).under (opOfT m) 0 []) j else .ok c i) hm
         (fun m => Sim.ite ((sim_want h _).and fun _ => (ih _).and fun d => Sim.ok _) (Sim.ok _))
   | sum => exact ih _
   | term => exact ih _
   | pre =>
     exact Sim.arg
       (F := fun m i => if m = B.sub then (wantT ks B.sub i).and fun _ i => (gP ks f .pre i).and fun c i => .ok (c.under 44 0 []) i
         else if m = B.await ∨ m = B.settle then (wantT ks m i).and fun _ j => (gP ks f .pre j).and fun c j => .ok (c.under (opOfT m) 0 []) j else gP ks f .post i)
       (G := fun m i => if m = B.sub then (wantT ks B.sub i).and fun _ i => (gP ks f .pre i).and fun c i => .ok (c.under 44 0 []) i
         else if m = B.await ∨ m = B.settle then (wantT ks m i).and fun _ j => (gP ks f .pre j).and fun c j => .ok (c.under (opOfT m) 0 []) j else gP ks f .post i) hm
       (fun m => Sim.ite ((sim_want h _).and fun _ => (ih _).and fun c => Sim.ok _) (Sim.ite ((sim_want h _).and fun _ => (ih _).and fun c => Sim.ok _) (ih _)))
   | post => exact (ih _).and fun c => ih _
   | postGo a =>
     exact Sim.arg (F := fun m i => if m = B.lsq then (gP ks f (.between B.lsq .expr B.rsq) i).and fun c i => gP ks f (.postGo ((a.then c).under 42 0 [])) i else .ok a i)
       (G := fun m i => if m = B.lsq then (gP ks f (.between B.lsq .expr B.rsq) i).and fun c i => gP ks f (.postGo ((a.then c).under 42 0 [])) i else .ok a i) hm
       (fun m => Sim.ite ((ih _).and fun c => ih _) (Sim.ok _))
   | prim =>
     have hgo : ∀ (ks : List Tk) (f : Nat), gP ks (f + 1) .prim = fun i => primF ks f (ks[i]?, markT ks i) i := fun ks f => rfl;rw [hgo ks f];refine Sim.arg (m := fun i => (ks[i]?, markT ks i)) (m' := fun i => (ks[i]?, markT ks i)) (F := primF ks f) (G := primF ks f) (fun i hi => rfl) ?_;rintro ⟨o, m⟩;have hs : ∀ c : Ch, Sim K (fun i => St.ok c (i + 1)) (fun i => St.ok c (i + 1)) := fun c i => ⟨.inr (.inr (.inl rfl)), fun hi => ⟨Nat.le_succ_of_le hi, Nat.le_succ_of_le hi⟩⟩;cases o with
     | none => exact gM_sim h ih []
     | some x => exact Sim.ite (hs _) (Sim.ite (hs _) (gM_sim h ih m))
   | two => exact (ih _).and fun c => (sim_want h _).and fun _ => (ih _).and fun d => Sim.ok _
   | set op => exact (sim_own h).and fun nm => (sim_want h _).and fun _ => (ih _).and fun c => Sim.ok _
   | list o p e =>
     exact (sim_want h _).and fun _ =>
       Sim.arg (F := fun m i => if m = e then (wantT ks e i).and fun _ i => .ok Ch.none i else (gP ks f p i).and fun c i => (gP ks f (.listGo p e c) i))
         (G := fun m i => if m = e then (wantT ks e i).and fun _ i => .ok Ch.none i else (gP ks f p i).and fun c i => (gP ks f (.listGo p e c) i)) hm
         (fun m => Sim.ite ((sim_want h _).and fun _ => Sim.ok _) ((ih _).and fun c => ih _))
   | listGo p e a =>
     exact Sim.arg (F := fun m i => if m = B.com then (wantT ks B.com i).and fun _ i => (gP ks f p i).and fun c i => gP ks f (.listGo p e (a.then c)) i else (wantT ks e i).and fun _ i => .ok a i)
       (G := fun m i => if m = B.com then (wantT ks B.com i).and fun _ i => (gP ks f p i).and fun c i => gP ks f (.listGo p e (a.then c)) i else (wantT ks e i).and fun _ i => .ok a i) hm
       (fun m => Sim.ite ((sim_want h _).and fun _ => (ih _).and fun c => ih _) ((sim_want h _).and fun _ => Sim.ok _))
   | between o p e => exact (sim_want h _).and fun _ => (ih _).and fun c => (sim_want h _).and fun _ => Sim.ok _
   | row p ms => exact (ih _).and fun c => ih _
   | rowGo p ms a =>
     exact Sim.arg (F := fun m i => if m ∈ ms then (wantT ks m i).and fun _ j => (gP ks f p j).and fun c j => gP ks f (.rowGo p ms ((a.then c).under (opOfT m) 0 [])) j else .ok a i)
       (G := fun m i => if m ∈ ms then (wantT ks m i).and fun _ j => (gP ks f p j).and fun c j => gP ks f (.rowGo p ms ((a.then c).under (opOfT m) 0 [])) j else .ok a i) hm
       (fun m => Sim.ite ((sim_want h _).and fun _ => (ih _).and fun c => ih _) (Sim.ok _))
theorem gP_far (ks : List Tk) (f : Nat) (q : NT) (i : Nat) (hi : K ≤ i) : Far K (gP ks f q i) := ((gP_self (fun _ _ => rfl) f q i).2 hi).1
theorem gP_sim (h : ∀ i, i < K → ks[i]? = ls[i]?) : ∀ f g q, Sim K (gP ks f q) (gP ls g q)
 | 0, g, q => fun i => ⟨.inl rfl, fun hi => ⟨trivial, (gP_far ls g q i hi)⟩⟩
 | f + 1, 0, q => fun i => ⟨.inr (.inl rfl), fun hi => ⟨gP_far ks (f + 1) q i hi, trivial⟩⟩
 | f + 1, g + 1, q => by
   have ih := gP_sim h f g;have hm := mark_pre h;cases q with
   | flow => exact (sim_want h _).and fun _ => (sim_own h).and fun nm => (ih _).and fun ps => (ih _).and fun b => Sim.ok _
   | param => exact (sim_own h).and fun nm => Sim.ok _
   | block => exact (ih _).and fun c => Sim.ok _
   | stmts => exact ih _
   | stmtsGo a =>
     exact Sim.arg (F := fun m i => if m = B.rbr then .ok a i else (gP ks f .stmt i).and fun c i => gP ks f (.stmtsGo (a.then c)) i) (G := fun m i => if m = B.rbr then .ok a i else (gP ls g .stmt i).and fun c i => gP ls g (.stmtsGo (a.then c)) i) hm
       (fun m => Sim.ite (Sim.ok a) ((ih _).and fun c => ih _))
   | stmt =>
     exact Sim.arg
       (F := fun m i => if m = B.letW then (wantT ks B.letW i).and fun _ i => gP ks f (.set 4) i
         else if m = B.ifW then gP ks f .choice i
         else if m = B.whileW then (wantT ks B.whileW i).and fun _ i => (gP ks f .expr i).and fun c i => (gP ks f .block i).and fun b i => .ok ((c.then b).under 7 0 []) i
         else if m = B.ret ∨ m = B.fail ∨ m = B.sleep ∨ m = B.doW then (wantT ks m i).and fun _ j => (gP ks f .expr j).and fun c j => .ok (c.under (opOfT m) 0 []) j
         else gP ks f (.set 5) i)
       (G := fun m i => if m = B.letW then (wantT ls B.letW i).and fun _ i => gP ls g (.set 4) i
         else if m = B.ifW then gP ls g .choice i
         else if m = B.whileW then (wantT ls B.whileW i).and fun _ i => (gP ls g .expr i).and fun c i => (gP ls g .block i).and fun b i => .ok ((c.then b).under 7 0 []) i
         else if m = B.ret ∨ m = B.fail ∨ m = B.sleep ∨ m = B.doW then (wantT ls m i).and fun _ j => (gP ls g .expr j).and fun c j => .ok (c.under (opOfT m) 0 []) j
         else gP ls g (.set 5) i) hm
       (fun m => Sim.ite ((sim_want h _).and fun _ => ih _) (Sim.ite (ih _) (Sim.ite ((sim_want h _).and fun _ => (ih _).and fun c => (ih _).and fun b => Sim.ok _)
         (Sim.ite ((sim_want h _).and fun _ => (ih _).and fun c => Sim.ok _) (ih _)))))
   | choice =>
     exact (sim_want h _).and fun _ => (ih _).and fun c => (ih _).and fun b =>
       Sim.arg (F := fun m i => if m = B.elseW then (wantT ks B.elseW i).and fun _ i => (gP ks f .block i).and fun d i => .ok (((c.then b).then d).under 6 0 []) i else .ok ((c.then b).under 6 0 []) i)
         (G := fun m i => if m = B.elseW then (wantT ls B.elseW i).and fun _ i => (gP ls g .block i).and fun d i => .ok (((c.then b).then d).under 6 0 []) i else .ok ((c.then b).under 6 0 []) i) hm
         (fun m => Sim.ite ((sim_want h _).and fun _ => (ih _).and fun d => Sim.ok _) (Sim.ok _))
   | expr => exact ih _
   | and => exact ih _
   | not =>
     exact Sim.arg (F := fun m i => if m = B.not then (wantT ks B.not i).and fun _ i => (gP ks f .not i).and fun c i => .ok (c.under 43 0 []) i else gP ks f .cmp i)
       (G := fun m i => if m = B.not then (wantT ls B.not i).and fun _ i => (gP ls g .not i).and fun c i => .ok (c.under 43 0 []) i else gP ls g .cmp i) hm
       (fun m => Sim.ite ((sim_want h _).and fun _ => (ih _).and fun c => Sim.ok _) (ih _))
   | cmp =>
     exact (ih _).and fun c =>
       Sim.arg (F := fun m i => if m = B.eqq ∨ m = B.neq ∨ m = B.les ∨ m = B.leq then (wantT ks m i).and fun _ j => (gP ks f .sum j).and fun d j => .ok ((c.then d).under (opOfT m) 0 []) j else .ok c i)
         (G := fun m i => if m = B.eqq ∨ m = B.neq ∨ m = B.les ∨ m = B.leq then (wantT ls m i).and fun _ j => (gP ls g .sum j).and fun d j => .ok ((c.then d).under (opOfT m) 0 []) j else .ok c i) hm
         (fun m => Sim.ite ((sim_want h _).and fun _ => (ih _).and fun d => Sim.ok _) (Sim.ok _))
   | sum => exact ih _
   | term => exact ih _
   | pre =>
     exact Sim.arg
       (F := fun m i => if m = B.sub then (wantT ks B.sub i).and fun _ i => (gP ks f .pre i).and fun c i => .ok (c.under 44 0 []) i
         else if m = B.await ∨ m = B.settle then (wantT ks m i).and fun _ j => (gP ks f .pre j).and fun c j => .ok (c.under (opOfT m) 0 []) j else gP ks f .post i)
       (G := fun m i => if m = B.sub then (wantT ls B.sub i).and fun _ i => (gP ls g .pre i).and fun c i => .ok (c.under 44 0 []) i
         else if m = B.await ∨ m = B.settle then (wantT ls m i).and fun _ j => (gP ls g .pre j).and fun c j => .ok (c.under (opOfT m) 0 []) j else gP ls g .post i) hm
       (fun m => Sim.ite ((sim_want h _).and fun _ => (ih _).and fun c => Sim.ok _) (Sim.ite ((sim_want h _).and fun _ => (ih _).and fun c => Sim.ok _) (ih _)))
   | post => exact (ih _).and fun c => ih _
   | postGo a =>
     exact Sim.arg (F := fun m i => if m = B.lsq then (gP ks f (.between B.lsq .expr B.rsq) i).and fun c i => gP ks f (.postGo ((a.then c).under 42 0 [])) i else .ok a i)
       (G := fun m i => if m = B.lsq then (gP ls g (.between B.lsq .expr B.rsq) i).and fun c i => gP ls g (.postGo ((a.then c).under 42 0 [])) i else .ok a i) hm
       (fun m => Sim.ite ((ih _).and fun c => ih _) (Sim.ok _))
   | prim =>
     have hgo : ∀ (ks : List Tk) (f : Nat), gP ks (f + 1) .prim = fun i => primF ks f (ks[i]?, markT ks i) i := fun ks f => rfl;rw [hgo ks f, hgo ls g];refine Sim.arg (m := fun i => (ks[i]?, markT ks i)) (m' := fun i => (ls[i]?, markT ls i)) (F := primF ks f) (G := primF ls g) (fun i hi => by rw [h i hi, hm i hi]) ?_;rintro ⟨o, m⟩;have hs : ∀ c : Ch, Sim K (fun i => St.ok c (i + 1)) (fun i => St.ok c (i + 1)) := fun c i => ⟨.inr (.inr (.inl rfl)), fun hi => ⟨Nat.le_succ_of_le hi, Nat.le_succ_of_le hi⟩⟩;cases o with
     | none => exact gM_sim h ih []
     | some x => exact Sim.ite (hs _) (Sim.ite (hs _) (gM_sim h ih m))
   | two => exact (ih _).and fun c => (sim_want h _).and fun _ => (ih _).and fun d => Sim.ok _
   | set op => exact (sim_own h).and fun nm => (sim_want h _).and fun _ => (ih _).and fun c => Sim.ok _
   | list o p e =>
     exact (sim_want h _).and fun _ =>
       Sim.arg (F := fun m i => if m = e then (wantT ks e i).and fun _ i => .ok Ch.none i else (gP ks f p i).and fun c i => (gP ks f (.listGo p e c) i))
         (G := fun m i => if m = e then (wantT ls e i).and fun _ i => .ok Ch.none i else (gP ls g p i).and fun c i => (gP ls g (.listGo p e c) i)) hm
         (fun m => Sim.ite ((sim_want h _).and fun _ => Sim.ok _) ((ih _).and fun c => ih _))
   | listGo p e a =>
     exact Sim.arg (F := fun m i => if m = B.com then (wantT ks B.com i).and fun _ i => (gP ks f p i).and fun c i => gP ks f (.listGo p e (a.then c)) i else (wantT ks e i).and fun _ i => .ok a i)
       (G := fun m i => if m = B.com then (wantT ls B.com i).and fun _ i => (gP ls g p i).and fun c i => gP ls g (.listGo p e (a.then c)) i else (wantT ls e i).and fun _ i => .ok a i) hm
       (fun m => Sim.ite ((sim_want h _).and fun _ => (ih _).and fun c => ih _) ((sim_want h _).and fun _ => Sim.ok _))
   | between o p e => exact (sim_want h _).and fun _ => (ih _).and fun c => (sim_want h _).and fun _ => Sim.ok _
   | row p ms => exact (ih _).and fun c => ih _
   | rowGo p ms a =>
     exact Sim.arg (F := fun m i => if m ∈ ms then (wantT ks m i).and fun _ j => (gP ks f p j).and fun c j => gP ks f (.rowGo p ms ((a.then c).under (opOfT m) 0 [])) j else .ok a i)
       (G := fun m i => if m ∈ ms then (wantT ls m i).and fun _ j => (gP ls g p j).and fun c j => gP ls g (.rowGo p ms ((a.then c).under (opOfT m) 0 [])) j else .ok a i) hm
       (fun m => Sim.ite ((sim_want h _).and fun _ => (ih _).and fun c => ih _) (Sim.ok _))
end
end Go.Proofs.YtjiemkidmlgbeaaGreatDoor
namespace Go.Proofs.YtjiemkidmlgbeaaGreatDoor
open Go.RowKit Tok
def toK (t : Tg) : Tk := ⟨t.kind, t.text, t.num.toNat, 0⟩
def mkG (t : Tg) : List UInt8 := if t.kind = 1 ∨ t.kind = 4 then t.text else []
def Lz (ks : List Tk) : Nat → List Tg → Nat → Prop
 | i, [], j => i = j
 | i, t :: r, j => ks[i]? = some (toK t) ∧ Lz ks (i + 1) r j
theorem Lz.split {ks : List Tk} : ∀ {a b : List Tg} {i j : Nat}, Lz ks i (a ++ b) j → ∃ m, Lz ks i a m ∧ Lz ks m b j
 | [], _, i, _, h => ⟨i, rfl, h⟩
 | _ :: _, _, _, _, ⟨h1, h2⟩ => by
   obtain ⟨m, h3, h4⟩ := Lz.split h2;exact ⟨m, ⟨h1, h3⟩, h4⟩
theorem lz_all {ts : List Tg} : ∀ (rest pre : List Tg), pre ++ rest = ts → Lz (ts.map toK) pre.length rest ts.length
 | [], pre, h => by
   rw [List.append_nil] at h;rw [h];rfl
 | t :: r, pre, h => by
   refine ⟨?_, ?_⟩
   · rw [← h]
     simp
   · have := lz_all (ts := ts) r (pre ++ [t]) (by rw [List.append_assoc]; exact h)
     rw [List.length_append] at this;exact this
section
variable {ks : List Tk}
theorem mark_at {i : Nat} {t : Tg} (h : ks[i]? = some (toK t)) : markT ks i = mkG t := by
 unfold markT;rw [h];rfl
theorem want_at {i : Nat} {m : List UInt8} (h : markT ks i = m) : wantT ks m i = .ok () (i + 1) := by
 unfold wantT;rw [if_pos h]
theorem own_at {i : Nat} {s : List UInt8} (h : ks[i]? = some (toK (wordTg s))) (hk : kwB s = false) : ownT ks i = .ok s (i + 1) := by
 unfold ownT;rw [h];exact if_pos ⟨rfl, hk⟩
theorem own_parts {s : List UInt8} (h : ownL s = true) : nameL s = true ∧ kwB s = false := by
 unfold ownL at h;rw [Bool.and_eq_true] at h;exact ⟨h.1, by simpa using h.2⟩
def Ev (ks : List Tk) (q : NT) (i : Nat) (c : Ch) (j : Nat) : Prop := ∃ f0, ∀ f, f0 ≤ f → gP ks f q i = .ok c j
section
variable {q q1 q2 q3 : NT} {i i1 i2 i3 j j1 j2 j3 : Nat} {c c1 c2 c3 d : Ch}
theorem Ev.step0 (hr : ∀ f, gP ks (f + 1) q i = .ok c j) : Ev ks q i c j := ⟨1, fun f h => by
 obtain ⟨g, rfl⟩ : ∃ g, f = g + 1 := ⟨f - 1, by omega⟩;exact hr g⟩
theorem Ev.step1 (h1 : Ev ks q1 i1 c1 j1) (hr : ∀ f, gP ks f q1 i1 = .ok c1 j1 → gP ks (f + 1) q i = .ok c j) : Ev ks q i c j := by
 obtain ⟨f1, h1⟩ := h1;refine ⟨f1 + 1, fun f h => ?_⟩;obtain ⟨g, rfl⟩ : ∃ g, f = g + 1 := ⟨f - 1, by omega⟩;exact hr g (h1 g (by omega))
theorem Ev.step2 (h1 : Ev ks q1 i1 c1 j1) (h2 : Ev ks q2 i2 c2 j2) (hr : ∀ f, gP ks f q1 i1 = .ok c1 j1 → gP ks f q2 i2 = .ok c2 j2 → gP ks (f + 1) q i = .ok c j) : Ev ks q i c j := by
 obtain ⟨f1, h1⟩ := h1;obtain ⟨f2, h2⟩ := h2;refine ⟨f1 + f2 + 1, fun f h => ?_⟩;obtain ⟨g, rfl⟩ : ∃ g, f = g + 1 := ⟨f - 1, by omega⟩;exact hr g (h1 g (by omega)) (h2 g (by omega))
theorem Ev.step3 (h1 : Ev ks q1 i1 c1 j1) (h2 : Ev ks q2 i2 c2 j2) (h3 : Ev ks q3 i3 c3 j3) (hr : ∀ f, gP ks f q1 i1 = .ok c1 j1 → gP ks f q2 i2 = .ok c2 j2 → gP ks f q3 i3 = .ok c3 j3 → gP ks (f + 1) q i = .ok c j) : Ev ks q i c j := by
 obtain ⟨f1, h1⟩ := h1;obtain ⟨f2, h2⟩ := h2;obtain ⟨f3, h3⟩ := h3;refine ⟨f1 + f2 + f3 + 1, fun f h => ?_⟩;obtain ⟨g, rfl⟩ : ∃ g, f = g + 1 := ⟨f - 1, by omega⟩;exact hr g (h1 g (by omega)) (h2 g (by omega)) (h3 g (by omega))
theorem Ev.at (h : Ev ks q i c j) {f : Nat} (hf : gP ks f q i ≠ .out) : gP ks f q i = .ok c j := by
 obtain ⟨f0, h0⟩ := h;have h1 := h0 f0 (Nat.le_refl _);have hs : Agr (j + 1) (gP ks f q i) (gP ks f0 q i) := ((gP_sim (K := j + 1) (ks := ks) (ls := ks) (fun _ _ => rfl) f f0 q) i).1;rcases hs with e | e | e | ⟨-, e⟩
 · exact absurd e hf
 · rw [h1] at e; cases e
 · rw [e, h1]
 · rw [h1] at e
   have e' : j + 1 ≤ j := e;omega
end
def lvl (m : List UInt8) : Nat :=
 if m = B.or then 1 else if m = B.and then 2 else if m = B.eqq ∨ m = B.neq ∨ m = B.les ∨ m = B.leq then 4
 else if m ∈ addS then 5 else if m ∈ mulS then 6 else if m = B.lsq then 8 else 0
def ntOf (a : Nat) : NT := if a = 1 then .expr else if a = 2 then .and else if a = 3 then .not else if a = 4 then .cmp else if a = 5 then .sum else if a = 6 then .term else if a = 7 then .pre else if a = 8 then .post else .prim
def goOf (w : Nat) (c : Ch) : NT := if w = 1 then .rowGo .and [B.or] c else if w = 2 then .rowGo .not [B.and] c else if w = 5 then .rowGo .term addS c else if w = 6 then .rowGo .pre mulS c else .postGo c
def leftN (w : Nat) : Prop := w = 1 ∨ w = 2 ∨ w = 5 ∨ w = 6
def rowM (w : Nat) : List (List UInt8) := if w = 1 then [B.or] else if w = 2 then [B.and] else if w = 5 then addS else if w = 6 then mulS else []
theorem row_lvl {w : Nat} (hw : leftN w) {m : List UInt8} (h : m ∈ rowM w) : lvl m = w := by
 have h1 : ∀ m ∈ rowM 1, lvl m = 1 := by decide
 have h2 : ∀ m ∈ rowM 2, lvl m = 2 := by decide
 have h5 : ∀ m ∈ rowM 5, lvl m = 5 := by decide
 have h6 : ∀ m ∈ rowM 6, lvl m = 6 := by decide
 rcases hw with rfl | rfl | rfl | rfl
 · exact h1 m h
 · exact h2 m h
 · exact h5 m h
 · exact h6 m h
section
variable {i j j1 j2 w : Nat} {c d a : Ch}
theorem ev_row0 {p : NT} {ms : List (List UInt8)} (h : markT ks j ∉ ms) : Ev ks (.rowGo p ms c) j c j := .step0 fun f => by
 show (if markT ks j ∈ ms then _ else St.ok c j) = _
 rw [if_neg h]
theorem ev_row1 {p : NT} {ms : List (List UInt8)} {m : List UInt8} (hm : markT ks j = m) (h : m ∈ ms) (h1 : Ev ks p (j + 1) c j1) (h2 : Ev ks (.rowGo p ms ((a.then c).under (opOfT m) 0 [])) j1 d j2) : Ev ks (.rowGo p ms a) j d j2 :=
 .step2 h1 h2 fun f e1 e2 => by
   subst hm;show (if markT ks j ∈ ms then (wantT ks (markT ks j) j).and _ else St.ok a j) = _
   rw [if_pos h, want_at rfl];show (gP ks f p (j + 1)).and _ = _
   rw [e1];exact e2
theorem ev_row {p : NT} {ms : List (List UInt8)} (h1 : Ev ks p i c j) (h2 : Ev ks (.rowGo p ms c) j d j2) : Ev ks (.row p ms) i d j2 :=
 .step2 h1 h2 fun f e1 e2 => by
   show (gP ks f p i).and _ = _
   rw [e1];exact e2
theorem ev_stop (hw : leftN w ∨ w = 8) (h : lvl (markT ks j) ≠ w) : Ev ks (goOf w c) j c j := by
 rcases hw with hw | rfl
 · have hn : markT ks j ∉ rowM w := fun e => h (row_lvl hw e)
   rcases hw with rfl | rfl | rfl | rfl <;> exact ev_row0 hn
 · refine .step0 fun f => ?_
   show (if markT ks j = B.lsq then _ else St.ok c j) = _
   rw [if_neg (fun e => h (by rw [e]; decide))]
theorem ev_begin (hw : leftN w ∨ w = 8) (h1 : Ev ks (ntOf (w + 1)) i c j) (h2 : Ev ks (goOf w c) j d j2) : Ev ks (ntOf w) i d j2 := by
 rcases hw with (rfl | rfl | rfl | rfl) | rfl
 · exact .step1 (q1 := .row .and [B.or]) (ev_row h1 h2) fun f e => e
 · exact .step1 (q1 := .row .not [B.and]) (ev_row h1 h2) fun f e => e
 · exact .step1 (q1 := .row .term addS) (ev_row h1 h2) fun f e => e
 · exact .step1 (q1 := .row .pre mulS) (ev_row h1 h2) fun f e => e
 · refine .step2 (q1 := .prim) (q2 := .postGo c) h1 h2 fun f e1 e2 => ?_
   show (gP ks f .prim i).and _ = _
   rw [e1];exact e2
theorem ev_go (hw : leftN w) {m : List UInt8} (hm : markT ks j = m) (h : m ∈ rowM w) (h1 : Ev ks (ntOf (w + 1)) (j + 1) c j1) (h2 : Ev ks (goOf w ((a.then c).under (opOfT m) 0 [])) j1 d j2) : Ev ks (goOf w a) j d j2 := by
 rcases hw with rfl | rfl | rfl | rfl <;> exact ev_row1 hm h h1 h2
def LeadOK (w : Nat) (m : List UInt8) : Prop := (3 < w → m ≠ B.not) ∧ (7 < w → m ≠ B.sub ∧ m ≠ B.await ∧ m ≠ B.settle) ∧ m ∉ [B.cls, B.rsq, B.rbr, B.com]
theorem LeadOK.mono {w v : Nat} {m : List UInt8} (h : LeadOK w m) (hv : v ≤ w) : LeadOK v m := ⟨fun e => h.1 (by omega), fun e => h.2.1 (by omega), h.2.2⟩
theorem lead_opn (w : Nat) : LeadOK w B.opn := ⟨fun _ => by decide, fun _ => by decide, by decide⟩
theorem ev_down1 (h1 : 1 ≤ w) (h8 : w ≤ 8) (h : Ev ks (ntOf (w + 1)) i c j) (hl : LeadOK (w + 1) (markT ks i)) (hf : lvl (markT ks j) ≠ w) : Ev ks (ntOf w) i c j := by
 by_cases hw : leftN w ∨ w = 8
 · exact ev_begin hw h (ev_stop hw hf)
 · unfold leftN at hw
   rcases (show w = 3 ∨ w = 4 ∨ w = 7 by omega) with rfl | rfl | rfl
   · refine .step1 (q1 := .cmp) h fun f e => ?_
     show (if markT ks i = B.not then _ else gP ks f .cmp i) = _
     rw [if_neg (hl.1 (by decide))];exact e
   · refine .step1 (q1 := .sum) h fun f e => ?_
     show (gP ks f .sum i).and _ = _
     rw [e];show (if markT ks j = B.eqq ∨ markT ks j = B.neq ∨ markT ks j = B.les ∨ markT ks j = B.leq then _ else St.ok c j) = _
     rw [if_neg];intro e;refine hf ?_;rcases e with e | e | e | e <;> rw [e] <;> decide
   · obtain ⟨l1, l2, l3⟩ := hl.2.1 (by decide)
     refine .step1 (q1 := .post) h fun f e => ?_;show (if markT ks i = B.sub then _ else if markT ks i = B.await ∨ markT ks i = B.settle then _ else gP ks f .post i) = _
     rw [if_neg l1, if_neg (fun e => e.elim l2 l3)];exact e
theorem ev_down : ∀ (n : Nat) {w : Nat}, 1 ≤ w → w + n ≤ 9 → Ev ks (ntOf (w + n)) i c j → LeadOK (w + n) (markT ks i) → lvl (markT ks j) < w → Ev ks (ntOf w) i c j
 | 0, _, _, _, h, _, _ => h
 | n + 1, w, h1, h9, h, hl, hf => by
   refine ev_down n h1 (by omega) ?_ (hl.mono (by omega)) hf;exact ev_down1 (by omega) (by omega) h hl (by omega)
end
def oneC (x : Tw) (k : Fs) : Ch := ⟨x :: k.flat, 1⟩
def listC (F : Fs) : Ch := ⟨F.flat, F.count⟩
theorem list_cons (a : Ch) (x : Tw) (k r : Fs) : (a.then (oneC x k)).then (listC r) = a.then (listC (.cons x k r)) := by
 unfold Ch.then oneC listC;simp [Fs.flat, Fs.count]
 omega
theorem list_one (x : Tw) (k : Fs) : listC (.cons x k .nil) = oneC x k := by
 unfold oneC listC;simp [Fs.flat, Fs.count]
theorem list_first (x : Tw) (k r : Fs) : (oneC x k).then (listC r) = listC (.cons x k r) := by
 unfold Ch.then oneC listC;simp [Fs.flat, Fs.count]
 omega
theorem then_nil (a : Ch) : a.then (listC .nil) = a := by
 unfold Ch.then listC;simp [Fs.flat, Fs.count]
theorem under_list (F : Fs) (op num : Nat) (s : List UInt8) : (listC F).under op num s = oneC ⟨op, (F.count : Int), (num : Int), s⟩ F := rfl
theorem under_one (x : Tw) (k : Fs) (op num : Nat) (s : List UInt8) : (oneC x k).under op num s = oneC ⟨op, 1, (num : Int), s⟩ (.cons x k .nil) := by
 rw [← list_one, under_list];rfl
theorem under_two (x y : Tw) (k l : Fs) (op num : Nat) (s : List UInt8) : ((oneC x k).then (oneC y l)).under op num s = oneC ⟨op, 2, (num : Int), s⟩ (.cons x k (.cons y l .nil)) := by
 rw [← list_one y l, list_first, under_list];rfl
theorem under_three (x y z : Tw) (k l m : Fs) (op num : Nat) (s : List UInt8) : (((oneC x k).then (oneC y l)).then (oneC z m)).under op num s = oneC ⟨op, 3, (num : Int), s⟩ (.cons x k (.cons y l (.cons z m .nil))) := by
 rw [← list_one z m, list_cons, list_first, under_list];rfl
def Every (P : Tw → Fs → Prop) : Fs → Prop
 | .nil => True
 | .cons x k r => P x k ∧ Every P k ∧ Every P r
theorem every_of {P : Tw → Fs → Prop} (h : ∀ x k, (Fs.cons x k .nil).ok → Every P k → P x k) : ∀ F : Fs, F.ok → Every P F
 | .nil, _ => trivial
 | .cons _ k r, ⟨a, b, c, d⟩ => ⟨h _ k ⟨a, b, c, trivial⟩ (every_of h k c), every_of h k c, every_of h r d⟩
def LeadP (x : Tw) (k : Fs) : Prop := exprB x.op = true → ∃ t r, bareS x k = t :: r ∧ LeadOK (widthN x.op) (mkG t)
theorem lead_at {x : Tw} {k : Fs} (h : LeadP x k) (he : exprB x.op = true) (a : Nat) : ∃ t r, atS a x k = t :: r ∧ LeadOK a (mkG t) ∧ LeadOK (widthN x.op) (mkG t) := by
 rcases Nat.lt_or_ge (widthN x.op) a with hw | hw
 · exact ⟨signTg B.opn, _, atS_narrow hw, lead_opn _, lead_opn _⟩
 · obtain ⟨t, r, h1, h2⟩ := h he
   exact ⟨t, r, by rw [atS_wide hw, h1], h2.mono hw, h2⟩
theorem mark_ok {op : Nat} (h : (op = 20 ∨ op = 21 ∨ op = 22 ∨ op = 57) ∨ asksW op ∨ (op = 50 ∨ op = 51) ∨ (op = 43 ∨ op = 44 ∨ op = 54 ∨ op = 55)) : ∃ kd m, markTg op = [⟨kd, m, 0, 0⟩] ∧ (kd = 1 ∨ kd = 4) ∧ LeadOK (widthN op) m := by
 unfold asksW at h;rcases (show op = 20 ∨ op = 21 ∨ op = 22 ∨ op = 57 ∨ op = 45 ∨ op = 46 ∨ op = 47 ∨ op = 48 ∨ op = 52 ∨ op = 50 ∨ op = 51 ∨ op = 43 ∨ op = 44 ∨ op = 54 ∨ op = 55 by omega) with rfl | rfl | rfl | rfl | rfl | rfl | rfl | rfl | rfl | rfl | rfl | rfl | rfl | rfl | rfl
 all_goals
   refine ⟨_, _, rfl, by decide, ?_⟩;unfold LeadOK
   decide
theorem own_lead {s : List UInt8} (h : ownL s = true) (w : Nat) : LeadOK w s := by
 obtain ⟨h1, h2⟩ := own_parts h;have k : ∀ m : List UInt8, kwB m = true → s ≠ m := fun m hm e => by rw [e, hm] at h2; cases h2
 have n : ∀ m : List UInt8, nameL m = false → s ≠ m := fun m hm e => by rw [e, hm] at h1; cases h1
 refine ⟨fun _ => k _ (by decide), fun _ => ⟨n _ (by decide), k _ (by decide), k _ (by decide)⟩, ?_⟩;intro e;simp only [List.mem_cons, List.not_mem_nil, or_false] at e;rcases e with e | e | e | e
 · exact n _ (by decide) e
 · exact n _ (by decide) e
 · exact n _ (by decide) e
 · exact n _ (by decide) e
theorem lead_all : ∀ x k, (Fs.cons x k .nil).ok → Every LeadP k → LeadP x k := by
 intro x k hok hk he;have hone : ∀ {l m : List Tg} {w : Nat}, (∃ t r, l = t :: r ∧ LeadOK w (mkG t)) → ∃ t r, l ++ m = t :: r ∧ LeadOK w (mkG t) := by
   rintro l m w ⟨t, r, rfl, h⟩;exact ⟨t, r ++ m, rfl, h⟩
 have hmk : ∀ {op : Nat} {m : List Tg}, ((op = 20 ∨ op = 21 ∨ op = 22 ∨ op = 57) ∨ asksW op ∨ (op = 50 ∨ op = 51) ∨ (op = 43 ∨ op = 44 ∨ op = 54 ∨ op = 55)) → ∃ t r, markTg op ++ m = t :: r ∧ LeadOK (widthN op) (mkG t) := by
   intro op m h;obtain ⟨kd, s, e, hkd, hl⟩ := mark_ok h;refine hone ⟨_, _, e, ?_⟩;unfold mkG;rw [if_pos hkd];exact hl
 cases view hok with
 | bare op ho =>
   rw [bare_bare ho, ← List.append_nil (markTg op)];exact hmk (.inl ho)
 | int n => exact ⟨_, _, bare_int n, by show LeadOK 9 []; unfold LeadOK; decide⟩
 | text s h => exact ⟨_, _, bare_text, by show LeadOK 9 []; unfold LeadOK; decide⟩
 | own op s ho h =>
   rcases ho with rfl | rfl | rfl
   · exact ⟨_, _, bare_name, own_lead h _⟩
   · exact ⟨_, _, bare_take, by show LeadOK 9 B.take; unfold LeadOK; decide⟩
   · exact absurd he (show ¬ exprB 2 = true by decide)
 | one op a ka ho ha =>
   by_cases h1 : asksW op
   · rw [bare_asks h1]
     exact hmk (.inr (.inl h1))
   · by_cases h2 : op = 43 ∨ op = 44 ∨ op = 54 ∨ op = 55
     · rw [bare_pre h2]
       exact hmk (.inr (.inr (.inr h2)))
     · unfold asksW at h1
       have : 8 ≤ op ∧ op ≤ 11 := by omega
       exact absurd he (show ¬ exprB op = true by rcases (show op = 8 ∨ op = 9 ∨ op = 10 ∨ op = 11 by omega) with rfl | rfl | rfl | rfl <;> decide)
 | set op s a ka ho h ha => exact absurd he (show ¬ exprB op = true by rcases ho with rfl | rfl <;> decide)
 | two op a ka b kb h1 h2 ha hb =>
   have hA : LeadP a ka := hk.1;by_cases c1 : op = 41
   · subst c1
     exact ⟨_, _, bare_num, by show LeadOK 9 B.num; unfold LeadOK; decide⟩
   · by_cases c2 : op = 42
     · subst c2
       rw [bare_at];obtain ⟨t, r, e, l, _⟩ := lead_at hA ha 8;exact hone ⟨t, r, e, l⟩
     · by_cases c3 : 32 ≤ op ∧ op ≤ 35
       · rw [bare_cmp c3.1 c3.2]
         obtain ⟨t, r, e, l, _⟩ := lead_at hA ha 5;refine hone ⟨t, r, e, l.mono ?_⟩;show widthN op ≤ 5
         unfold widthN;rw [if_neg (by omega), if_neg (by omega), if_neg (by omega), if_pos c3]
         decide
       · have hl : leftW op := by unfold leftW; omega
         rw [bare_left hl];obtain ⟨t, r, e, l, _⟩ := lead_at hA ha (widthN op);exact hone ⟨t, r, e, l⟩
 | list k hk hn => exact ⟨_, _, bare_list, by show LeadOK 9 B.lsq; unfold LeadOK; decide⟩
 | call op s k ho h hk hn =>
   rw [bare_call ho];exact hmk (.inr (.inr (.inl ho)))
 | fork b kb hb => exact ⟨_, _, bare_fork, by show LeadOK 9 B.fork; unfold LeadOK; decide⟩
 | block k hk hn => exact absurd he (show ¬ exprB 3 = true by decide)
 | cond2 op a ka b kb ho ha hb => exact absurd he (show ¬ exprB op = true by rcases ho with rfl | rfl <;> decide)
 | cond3 a ka b kb c kc ha hb hc => exact absurd he (show ¬ exprB 6 = true by decide)
 | flow s k h hk hn => exact absurd he (show ¬ exprB 1 = true by decide)
def RdP (ks : List Tk) (x : Tw) (k : Fs) : Prop := ∀ i j, Lz ks i (bareS x k) j → lvl (markT ks j) < widthN x.op → Ev ks (ntOf (widthN x.op)) i (oneC x k) j
def SpP (ks : List Tk) (x : Tw) (k : Fs) : Prop := ∀ i j, Lz ks i (bareS x k) j → lvl (markT ks j) ≤ widthN x.op → ∀ d j2, Ev ks (goOf (widthN x.op) (oneC x k)) j d j2 → Ev ks (ntOf (widthN x.op)) i d j2
theorem lz_lead {x : Tw} {k : Fs} (h : LeadP x k) (he : exprB x.op = true) {i j : Nat} (hl : Lz ks i (bareS x k) j) : LeadOK (widthN x.op) (markT ks i) := by
 obtain ⟨t, r, e, l⟩ := h he;rw [e] at hl;rw [mark_at hl.1];exact l
theorem ev_opn {i j j' : Nat} {c : Ch} (h1 : ks[i]? = some (toK (signTg B.opn))) (h : Ev ks .expr (i + 1) c j) (h2 : ks[j]? = some (toK (signTg B.cls))) (hj : j + 1 = j') : Ev ks .prim i c j' := by
 subst hj;have hb : Ev ks (.between B.opn .expr B.cls) i c (j + 1) := .step1 h fun f e => by
   show (wantT ks B.opn i).and _ = _
   rw [want_at (m := B.opn) (mark_at h1)];show (gP ks f .expr (i + 1)).and _ = _
   rw [e];show (wantT ks B.cls j).and _ = _
   rw [want_at (m := B.cls) (mark_at h2)];rfl
 refine .step1 hb fun f e => ?_
 unfold gP;rw [h1];dsimp only;rw [if_neg (by show ¬ 4 = 2; decide), if_neg (by show ¬ 4 = 3; decide), mark_at h1];exact e
theorem rd_at {x : Tw} {k : Fs} (h : RdP ks x k) (hL : LeadP x k) (he : exprB x.op = true) {a : Nat} (h1 : 1 ≤ a) (h9 : a ≤ 9) {i j : Nat} (hl : Lz ks i (atS a x k) j) (hf : lvl (markT ks j) < a) : Ev ks (ntOf a) i (oneC x k) j := by
 obtain ⟨w1, w9⟩ := width_pos x.op;rcases Nat.lt_or_ge (widthN x.op) a with hw | hw
 · rw [atS_narrow hw] at hl
   obtain ⟨l1, l2⟩ := hl;obtain ⟨m, l3, l4, l5⟩ := l2.split;have hm : markT ks m = B.cls := mark_at l4;have hi := h (i + 1) m l3 (by rw [hm]; show 0 < _; omega);have hE : Ev ks .expr (i + 1) (oneC x k) m := by
     obtain ⟨n, hn⟩ : ∃ n, widthN x.op = 1 + n := ⟨widthN x.op - 1, by omega⟩;have hlead := lz_lead hL he l3;rw [hn] at hi hlead;exact ev_down n (w := 1) (Nat.le_refl _) (by omega) hi hlead (by rw [hm]; decide)
   have hp := ev_opn l1 hE l4 l5;obtain ⟨n, hn⟩ : ∃ n, 9 = a + n := ⟨9 - a, by omega⟩;refine ev_down n h1 (by omega) ?_ (by rw [mark_at l1]; exact lead_opn _) hf;rw [← hn];exact hp
 · rw [atS_wide hw] at hl
   have hi := h i j hl (by omega);obtain ⟨n, hn⟩ : ∃ n, widthN x.op = a + n := ⟨widthN x.op - a, by omega⟩;have hlead := lz_lead hL he hl;rw [hn] at hi hlead;exact ev_down n h1 (by omega) hi hlead hf
theorem rd_expr {x : Tw} {k : Fs} (h : RdP ks x k) (hL : LeadP x k) (he : exprB x.op = true) {i j : Nat} (hl : Lz ks i (bareS x k) j) (hf : lvl (markT ks j) = 0) : Ev ks .expr i (oneC x k) j :=
 rd_at h hL he (a := 1) (Nat.le_refl _) (by decide) (by rw [atS_one]; exact hl) (by omega)
theorem rd_left {x : Tw} {k : Fs} (h : RdP ks x k) (hS : leftN (widthN x.op) ∨ widthN x.op = 8 → SpP ks x k) (hL : LeadP x k) (he : exprB x.op = true) {w : Nat} (hw : leftN w ∨ w = 8) {i j : Nat} (hl : Lz ks i (atS w x k) j) (hf : lvl (markT ks j) ≤ w) {d : Ch} {j2 : Nat} (h2 : Ev ks (goOf w (oneC x k)) j d j2) : Ev ks (ntOf w) i d j2 := by
 by_cases e : widthN x.op = w
 · rw [atS_wide (by omega)] at hl
   have := hS (by rw [e]; exact hw) i j hl (by omega) d j2;rw [e] at this;exact this h2
 · have e2 : atS w x k = atS (w + 1) x k := by
     rcases Nat.lt_or_ge (widthN x.op) w with c | c
     · rw [atS_narrow c, atS_narrow (by omega)]
     · rw [atS_wide c, atS_wide (by omega)]
   rw [e2] at hl;have w8 : 1 ≤ w ∧ w ≤ 8 := by unfold leftN at hw; omega
   exact ev_begin hw (rd_at h hL he (by omega) (by omega) hl (by omega)) h2
end
end Go.Proofs.YtjiemkidmlgbeaaGreatDoor
