/- A part of the proof: PPre, DPre, DPost, DBlock. No condition. -/
import Derived.Test.YtngbekhegnmfaaaGreatDoorQ08
import Derived.Test.YtngbekhegnmfaaaGreatDoorQ10
set_option linter.unusedVariables false
set_option linter.unusedSimpArgs false
namespace Go.Proofs.YtngbekhegnmfaaaGreatDoor
open Go.RowKit Tok
def Far {α : Type} (K : Nat) (s : St α) : Prop := match s with
 | .ok _ j => K ≤ j
 | .bad j => K ≤ j
 | .out => True
def Agr {α : Type} (K : Nat) (s t : St α) : Prop := s = .out ∨ t = .out ∨ s = t ∨ (Far K s ∧ Far K t)
def Sim {α : Type} (K : Nat) (F G : Nat → St α) : Prop := ∀ i, Agr K (F i) (G i) ∧ (K ≤ i → Far K (F i) ∧ Far K (G i))
theorem Far.and {α β : Type} {K : Nat} {s : St α} {f : α → Nat → St β} (h : Far K s) (hf : ∀ a k, K ≤ k → Far K (f a k)) : Far K (s.and f) := by
 cases s with
 | ok a k => exact hf a k h
 | bad k => exact h
 | out => exact trivial
theorem Sim.and {α β : Type} {K : Nat} {F G : Nat → St α} {f g : α → Nat → St β} (h : Sim K F G) (hf : ∀ a, Sim K (f a) (g a)) : Sim K (fun i => (F i).and f) (fun i => (G i).and g) := by
 intro i;obtain ⟨h1, h2⟩ := h i;have hF : Far K (F i) → Far K ((F i).and f) := fun h => h.and (fun a k hk => ((hf a k).2 hk).1);have hG : Far K (G i) → Far K ((G i).and g) := fun h => h.and (fun a k hk => ((hf a k).2 hk).2);refine ⟨?_, fun hi => ⟨hF (h2 hi).1, hG (h2 hi).2⟩⟩;rcases h1 with h1 | h1 | h1 | ⟨h3, h4⟩
 · dsimp only
   rw [h1];exact .inl rfl
 · dsimp only
   rw [h1];exact .inr (.inl rfl)
 · dsimp only
   rw [h1];cases G i with
   | ok a k => exact (hf a k).1
   | bad k => exact .inr (.inr (.inl rfl))
   | out => exact .inl rfl
 · exact .inr (.inr (.inr ⟨hF h3, hG h4⟩))
theorem Sim.ok {α : Type} {K : Nat} (a : α) : Sim K (St.ok a) (St.ok a) := fun _ => ⟨.inr (.inr (.inl rfl)), fun h => ⟨h, h⟩⟩
theorem Sim.ite {α : Type} {K : Nat} {p : Prop} [Decidable p] {A B A' B' : Nat → St α} (h : Sim K A A') (h' : Sim K B B') : Sim K (fun i => if p then A i else B i) (fun i => if p then A' i else B' i) := by
 by_cases hp : p
 · simp only [if_pos hp]; exact h
 · simp only [if_neg hp]; exact h'
theorem Sim.arg {α μ : Type} {K : Nat} {m m' : Nat → μ} {F G : μ → Nat → St α} (hm : ∀ i, i < K → m i = m' i) (h : ∀ x, Sim K (F x) (G x)) : Sim K (fun i => F (m i) i) (fun i => G (m' i) i) := by
 intro i;have hfar : K ≤ i → Far K (F (m i) i) ∧ Far K (G (m' i) i) := fun hi => ⟨((h (m i) i).2 hi).1, ((h (m' i) i).2 hi).2⟩;refine ⟨?_, hfar⟩;rcases Nat.lt_or_ge i K with hi | hi
 · dsimp only
   rw [hm i hi];exact (h (m' i) i).1
 · exact .inr (.inr (.inr (hfar hi)))
section
variable {ks ls : List Tk} {K : Nat}
theorem mark_pre (h : ∀ i, i < K → ks[i]? = ls[i]?) (i : Nat) (hi : i < K) : markT ks i = markT ls i := by
 unfold markT;rw [h i hi]
theorem sim_want (h : ∀ i, i < K → ks[i]? = ls[i]?) (m : List UInt8) : Sim K (wantT ks m) (wantT ls m) := by
 have hf : ∀ (ks : List Tk) i, K ≤ i → Far K (wantT ks m i) := fun ks i hi => by
   unfold wantT;split
   · exact Nat.le_succ_of_le hi
   · exact hi
 intro i;refine ⟨?_, fun hi => ⟨hf ks i hi, hf ls i hi⟩⟩;rcases Nat.lt_or_ge i K with hi | hi
 · right; right; left
   unfold wantT;rw [mark_pre h i hi]
 · exact .inr (.inr (.inr ⟨hf ks i hi, hf ls i hi⟩))
theorem sim_own (h : ∀ i, i < K → ks[i]? = ls[i]?) : Sim K (ownT ks) (ownT ls) := by
 have hf : ∀ (ks : List Tk) i, K ≤ i → Far K (ownT ks i) := fun ks i hi => by
   unfold ownT;split
   · split
     · exact Nat.le_succ_of_le hi
     · exact hi
   · exact hi
 intro i;refine ⟨?_, fun hi => ⟨hf ks i hi, hf ls i hi⟩⟩;rcases Nat.lt_or_ge i K with hi | hi
 · right; right; left
   unfold ownT;rw [h i hi]
 · exact .inr (.inr (.inr ⟨hf ks i hi, hf ls i hi⟩))
theorem gM_sim (h : ∀ i, i < K → ks[i]? = ls[i]?) {G G' : NT → Nat → St Ch} (ih : ∀ q, Sim K (G q) (G' q)) (m : List UInt8) : Sim K (gM ks G m) (gM ls G' m) := by
 show Sim K (fun i => gM ks G m i) (fun i => gM ls G' m i)
 unfold gM;refine Sim.ite ((ih _).and fun c => Sim.ok _) ?_;refine Sim.ite (ih _) ?_;refine Sim.ite ((sim_want h m).and fun _ => Sim.ok _) ?_;refine Sim.ite ((sim_want h m).and fun _ => (ih _).and fun c => Sim.ok _) ?_;refine Sim.ite ((sim_want h m).and fun _ => (ih _).and fun c => Sim.ok _) ?_;refine Sim.ite ((sim_want h m).and fun _ => (sim_own h).and fun nm => (ih _).and fun c => Sim.ok _) ?_;refine Sim.ite ((sim_want h m).and fun _ => (ih _).and fun c => Sim.ok _) ?_;refine Sim.ite ((sim_want h m).and fun _ => (sim_own h).and fun nm => Sim.ok _) ?_;exact (sim_own h).and fun nm => Sim.ok _
def primF (ks : List Tk) (f : Nat) (p : Option Tk × List UInt8) (i : Nat) : St Ch := match p.1 with
 | some x => if x.kind = 2 then St.ok (Ch.none.under 23 x.num []) (i + 1) else if x.kind = 3 then .ok (Ch.none.under 24 0 x.text) (i + 1) else gM ks (gP ks f) p.2 i
 | none => gM ks (gP ks f) [] i
theorem gP_self (h : ∀ i, i < K → ks[i]? = ks[i]?) : ∀ f q, Sim K (gP ks f q) (gP ks f q)
 | 0, q => fun _ => ⟨.inl rfl, fun _ => ⟨trivial, trivial⟩⟩
 | f + 1, q => by
   have ih := gP_self h f;have hm := mark_pre h;cases q with
   | flow => exact (sim_want h _).and fun _ => (sim_own h).and fun nm => (ih _).and fun ps => (ih _).and fun b => Sim.ok _
   | param => exact (sim_own h).and fun nm => Sim.ok _
   | block => exact (ih _).and fun c => Sim.ok _
   | stmts => exact ih _
   | stmtsGo a =>
     exact Sim.arg (F := fun m i => if m = B.rbr then .ok a i else (gP ks f .stmt i).and fun c i => gP ks f (.stmtsGo (a.then c)) i) (G := fun m i => if m = B.rbr then .ok a i else (gP ks f .stmt i).and fun c i => gP ks f (.stmtsGo (a.then c)) i) hm
       (fun m => Sim.ite (Sim.ok a) ((ih _).and fun c => ih _))
   | stmt =>
     exact Sim.arg
       (F := fun m i => if m = B.let then (wantT ks B.let i).and fun _ i => gP ks f (.set 4) i
         else if m = B.if then gP ks f .choice i
         else if m = B.while then (wantT ks B.while i).and fun _ i => (gP ks f .expr i).and fun c i => (gP ks f .block i).and fun b i => .ok ((c.then b).under 7 0 []) i
         else if m = B.ret ∨ m = B.fail ∨ m = B.sleep ∨ m = B.do then (wantT ks m i).and fun _ j => (gP ks f .expr j).and fun c j => .ok (c.under (opOfT m) 0 []) j
         else gP ks f (.set 5) i)
       (G := fun m i => if m = B.let then (wantT ks B.let i).and fun _ i => gP ks f (.set 4) i
         else if m = B.if then gP ks f .choice i
         else if m = B.while then (wantT ks B.while i).and fun _ i => (gP ks f .expr i).and fun c i => (gP ks f .block i).and fun b i => .ok ((c.then b).under 7 0 []) i
         else if m = B.ret ∨ m = B.fail ∨ m = B.sleep ∨ m = B.do then (wantT ks m i).and fun _ j => (gP ks f .expr j).and fun c j => .ok (c.under (opOfT m) 0 []) j
         else gP ks f (.set 5) i) hm
       (fun m => Sim.ite ((sim_want h _).and fun _ => ih _) (Sim.ite (ih _) (Sim.ite ((sim_want h _).and fun _ => (ih _).and fun c => (ih _).and fun b => Sim.ok _)
         (Sim.ite ((sim_want h _).and fun _ => (ih _).and fun c => Sim.ok _) (ih _)))))
   | choice =>
     exact (sim_want h _).and fun _ => (ih _).and fun c => (ih _).and fun b =>
       Sim.arg (F := fun m i => if m = B.else then (wantT ks B.else i).and fun _ i => (gP ks f .block i).and fun d i => .ok (((c.then b).then d).under 6 0 []) i else .ok ((c.then b).under 6 0 []) i)
         (G := fun m i => if m = B.else then (wantT ks B.else i).and fun _ i => (gP ks f .block i).and fun d i => .ok (((c.then b).then d).under 6 0 []) i else .ok ((c.then b).under 6 0 []) i) hm
         (fun m => Sim.ite ((sim_want h _).and fun _ => (ih _).and fun d => Sim.ok _) (Sim.ok _))
   | expr => exact ih _
   | and => exact ih _
   | not =>
     exact Sim.arg (F := fun m i => if m = B.not then (wantT ks B.not i).and fun _ i => (gP ks f .not i).and fun c i => .ok (c.under 43 0 []) i else gP ks f .cmp i)
       (G := fun m i => if m = B.not then (wantT ks B.not i).and fun _ i => (gP ks f .not i).and fun c i => .ok (c.under 43 0 []) i else gP ks f .cmp i) hm
       (fun m => Sim.ite ((sim_want h _).and fun _ => (ih _).and fun c => Sim.ok _) (ih _))
   | cmp =>
     exact (ih _).and fun c =>
       Sim.arg (F := fun m i => if m = B.eqq ∨ m = B.neq ∨ m = B.les ∨ m = B.leq then (wantT ks m i).and fun _ j => (gP ks f .sum j).and fun d j => .ok ((c.then d).under (opOfT m) 0 []) j else .ok c i)
         (G := fun m i => if m = B.eqq ∨ m = B.neq ∨ m = B.les ∨ m = B.leq then (wantT ks m i).and fun _ j => (gP ks f .sum j).and fun d j => .ok ((c.then d).under (opOfT m) 0 []) j else .ok c i) hm
         (fun m => Sim.ite ((sim_want h _).and fun _ => (ih _).and fun d => Sim.ok _) (Sim.ok _))
   | sum => exact ih _
   | term => exact ih _
   | pre =>
     exact Sim.arg
       (F := fun m i => if m = B.sub then (wantT ks B.sub i).and fun _ i => (gP ks f .pre i).and fun c i => .ok (c.under 44 0 []) i
         else if m = B.await ∨ m = B.settle then (wantT ks m i).and fun _ j => (gP ks f .pre j).and fun c j => .ok (c.under (opOfT m) 0 []) j else gP ks f .post i)
       (G := fun m i => if m = B.sub then (wantT ks B.sub i).and fun _ i => (gP ks f .pre i).and fun c i => .ok (c.under 44 0 []) i
         else if m = B.await ∨ m = B.settle then (wantT ks m i).and fun _ j => (gP ks f .pre j).and fun c j => .ok (c.under (opOfT m) 0 []) j else gP ks f .post i) hm
       (fun m => Sim.ite ((sim_want h _).and fun _ => (ih _).and fun c => Sim.ok _) (Sim.ite ((sim_want h _).and fun _ => (ih _).and fun c => Sim.ok _) (ih _)))
   | post => exact (ih _).and fun c => ih _
   | postGo a =>
     exact Sim.arg (F := fun m i => if m = B.lsq then (gP ks f (.between B.lsq .expr B.rsq) i).and fun c i => gP ks f (.postGo ((a.then c).under 42 0 [])) i else .ok a i)
       (G := fun m i => if m = B.lsq then (gP ks f (.between B.lsq .expr B.rsq) i).and fun c i => gP ks f (.postGo ((a.then c).under 42 0 [])) i else .ok a i) hm
       (fun m => Sim.ite ((ih _).and fun c => ih _) (Sim.ok _))
   | prim =>
     have hgo : ∀ (ks : List Tk) (f : Nat), gP ks (f + 1) .prim = fun i => primF ks f (ks[i]?, markT ks i) i := fun ks f => rfl;rw [hgo ks f];refine Sim.arg (m := fun i => (ks[i]?, markT ks i)) (m' := fun i => (ks[i]?, markT ks i)) (F := primF ks f) (G := primF ks f) (fun i hi => rfl) ?_;rintro ⟨o, m⟩;have hs : ∀ c : Ch, Sim K (fun i => St.ok c (i + 1)) (fun i => St.ok c (i + 1)) := fun c i => ⟨.inr (.inr (.inl rfl)), fun hi => ⟨Nat.le_succ_of_le hi, Nat.le_succ_of_le hi⟩⟩;cases o with
     | none => exact gM_sim h ih []
     | some x => exact Sim.ite (hs _) (Sim.ite (hs _) (gM_sim h ih m))
   | two => exact (ih _).and fun c => (sim_want h _).and fun _ => (ih _).and fun d => Sim.ok _
   | set op => exact (sim_own h).and fun nm => (sim_want h _).and fun _ => (ih _).and fun c => Sim.ok _
   | list o p e =>
     exact (sim_want h _).and fun _ =>
       Sim.arg (F := fun m i => if m = e then (wantT ks e i).and fun _ i => .ok Ch.none i else (gP ks f p i).and fun c i => (gP ks f (.listGo p e c) i))
         (G := fun m i => if m = e then (wantT ks e i).and fun _ i => .ok Ch.none i else (gP ks f p i).and fun c i => (gP ks f (.listGo p e c) i)) hm
         (fun m => Sim.ite ((sim_want h _).and fun _ => Sim.ok _) ((ih _).and fun c => ih _))
   | listGo p e a =>
     exact Sim.arg (F := fun m i => if m = B.com then (wantT ks B.com i).and fun _ i => (gP ks f p i).and fun c i => gP ks f (.listGo p e (a.then c)) i else (wantT ks e i).and fun _ i => .ok a i)
       (G := fun m i => if m = B.com then (wantT ks B.com i).and fun _ i => (gP ks f p i).and fun c i => gP ks f (.listGo p e (a.then c)) i else (wantT ks e i).and fun _ i => .ok a i) hm
       (fun m => Sim.ite ((sim_want h _).and fun _ => (ih _).and fun c => ih _) ((sim_want h _).and fun _ => Sim.ok _))
   | between o p e => exact (sim_want h _).and fun _ => (ih _).and fun c => (sim_want h _).and fun _ => Sim.ok _
   | row p ms => exact (ih _).and fun c => ih _
   | rowGo p ms a =>
     exact Sim.arg (F := fun m i => if m ∈ ms then (wantT ks m i).and fun _ j => (gP ks f p j).and fun c j => gP ks f (.rowGo p ms ((a.then c).under (opOfT m) 0 [])) j else .ok a i)
       (G := fun m i => if m ∈ ms then (wantT ks m i).and fun _ j => (gP ks f p j).and fun c j => gP ks f (.rowGo p ms ((a.then c).under (opOfT m) 0 [])) j else .ok a i) hm
       (fun m => Sim.ite ((sim_want h _).and fun _ => (ih _).and fun c => ih _) (Sim.ok _))
theorem gP_far (ks : List Tk) (f : Nat) (q : NT) (i : Nat) (hi : K ≤ i) : Far K (gP ks f q i) := ((gP_self (fun _ _ => rfl) f q i).2 hi).1
end
end Go.Proofs.YtngbekhegnmfaaaGreatDoor
namespace Go.Proofs.YtngbekhegnmfaaaGreatDoor
open Go.RowKit Go.Shelf Tok
abbrev dp (R : Nat) : Array Value := #[.pointer (some ⟨R, 0, none⟩)]
theorem SR.place {w : World} {R cap p : Nat} {bd lg : Bool} {a : Option Addr} {ks : List Tk} (h : SR w R a cap ks p bd lg) : placeN w R = p := by
 unfold placeN;rw [h.c1];simp [intOf]
theorem DP.shift {c : Ch} {i j k : Nat} {bd lg lg1 : Bool} {ts : List Tw} {n : Int} (h : DP (.ok c j) i bd lg ts n j false lg1) : DP (.ok c k) i bd lg ts n k false lg1 := by
 obtain ⟨h1, h2, h3⟩ := h;refine ⟨h1, fun e => ?_, fun e => ?_⟩
 · have := (h2 e).2; cases this
 · obtain ⟨_, a2, a3, a4, a5⟩ := h3 e
   exact ⟨rfl, a2, a3, a4, a5⟩
theorem isB_no {ks : List Tk} {p : Nat} {m : List UInt8} (h : isB ks p false m = false) : markT ks p ≠ m := by
 unfold isB at h
 simpa using h
theorem DP.place {s : St Ch} {i i1 K : Nat} {bd lg bd1 lg1 : Bool} {ts : List Tw} {n : Int} (h : DP s i bd lg ts n i1 bd1 lg1) (hi : K ≤ i) (hs : Far K s) (hne : bd = false → s ≠ .out) : K ≤ i1 := by
 obtain ⟨_, h2, h3⟩ := h;cases bd with
 | true => rw [(h2 rfl).1]; exact hi
 | false =>
   have h4 := h3 rfl;cases s with
   | out => exact absurd rfl (hne rfl)
   | bad j => rw [h4.1]; exact hs
   | ok c j => rw [h4.1]; exact hs
section
variable {R cap : Nat} {a : Option Addr} {ks : List Tk}
set_option maxRecDepth 20000 in
set_option maxHeartbeats 1000000 in
theorem pre_mark {G : Nat → St Ch} (hP : DDoesF 120 (dp R) G R a cap ks) {w : World} {i : Nat} {lg : Bool} (h : SR w R a cap ks i false lg) (op : Nat) {m : List UInt8}
   (hm : (op = 44 ∧ m = B.sub) ∨ (op = 54 ∧ m = B.await) ∨ (op = 55 ∧ m = B.settle)) (hq : markT ks i = m) (hne : G (i + 1) ≠ .out) :
   Calls Tryz.prog 120 #[.pointer (some ⟨R, 0, none⟩)] w (DDone ((G (i + 1)).and fun c j => .ok (c.under op 0 []) j) i false lg R a cap ks w) := by
 have hRl := h.lt;have hB : isB ks i false m = true := by unfold isB; rw [decide_eq_true hq]; rfl
 have kH := fun (W : World) (x : List UInt8) (hx : x ≠ []) (h : SR W R a cap ks i false lg) => has_any h hx
 have hno : ∀ x, x ≠ m → isB ks i false x = false := fun x hx => by unfold isB; rw [decide_eq_false (fun e => hx (e.symm.trans hq))]; rfl
 have kP := Lib.hid (fun (W : World) (h : SR W R a cap ks (i + 1) false lg) => hP W (i + 1) lg h hne);have k1 := Lib.hid (fun (W : World) (h : SR W R a cap ks i false lg) => has_any h (show B.sub ≠ [] by decide));have k2 := Lib.hid (fun (W : World) (h : SR W R a cap ks i false lg) => has_any h (show B.await ≠ [] by decide));have k3 := Lib.hid (fun (W : World) (h : SR W R a cap ks i false lg) => has_any h (show B.settle ≠ [] by decide));have hh := Lib.hid h;clear hP hne kH h;rcases hm with ⟨rfl, rfl⟩ | ⟨rfl, rfl⟩ | ⟨rfl, rfl⟩
 · rw [hB] at k1
   simp only [↓reduceIte] at k1;unfold B.sub at k1;clear hB hno hq k2 k3;go_enter Tryz.func120, Tryz.ntmps120
   go_wp2_with fail
   refine (k1.out _ hh.out).mono ?_;rintro e' w1 ⟨rfl, hs1, ho1⟩;go_wp2_with fail
   refine (kP.out _ hs1).mono ?_;rintro e' w2 ⟨v, ts, i2, bd2, lg2, rfl, hv, hl, hd, hs2, ho2⟩;obtain ⟨va, vc, rfl, _, _⟩ := id hv.shape;have hz := ho1.size;have hz2 := ho2.size;have c3 := Lib.hid (top_any hs2 44 0 1 0 [] hv (by omega));have ho3 := Lib.hid (ho1.then ho2);clear k1 kP hs1 ho1 hv hs2 ho2;go_wp2_with fail
   refine c3.out.mono ?_;rintro e' w3 ⟨v3, rfl, hv3, hs3, ho4⟩;go_wp2_with fail
   go_ret
   have hd2 := hd.top 44 0 [];exact ⟨_, _, _, _, _, rfl, hv3.low9 (by omega), topL_len _ _ (by omega), ⟨hd2.1, fun e => (by cases e), hd2.2.2⟩, hs3, ho3.out.then ho4⟩
 · rw [hno _ (by decide)] at k1
   rw [hB] at k2;simp only [↓reduceIte, Bool.false_eq_true] at k1 k2;unfold B.sub at k1;unfold B.await at k2;clear hB hno hq k3;go_enter Tryz.func120, Tryz.ntmps120
   go_wp2_with fail
   refine (k1.out _ hh.out).mono ?_;rintro e' w0 ⟨rfl, hs0, ho0⟩;go_wp2_with fail
   refine (k2.out _ hs0).mono ?_;rintro e' w1 ⟨rfl, hs1, ho1⟩;go_wp2_with fail
   refine (kP.out _ hs1).mono ?_;rintro e' w2 ⟨v, ts, i2, bd2, lg2, rfl, hv, hl, hd, hs2, ho2⟩;obtain ⟨va, vc, rfl, _, _⟩ := id hv.shape;have hz0 := ho0.size;have hz := ho1.size;have hz2 := ho2.size;have c3 := Lib.hid (top_any hs2 54 0 1 0 [] hv (by omega));have ho3 := Lib.hid ((ho0.then ho1).then ho2);clear k1 k2 kP hs1 ho1 hv hs2 ho2 hs0 ho0;go_wp2_with fail
   refine c3.out.mono ?_;rintro e' w3 ⟨v3, rfl, hv3, hs3, ho4⟩;go_wp2_with fail
   go_ret
   have hd2 := hd.top 54 0 [];exact ⟨_, _, _, _, _, rfl, hv3.low9 (by omega), topL_len _ _ (by omega), ⟨hd2.1, fun e => (by cases e), hd2.2.2⟩, hs3, ho3.out.then ho4⟩
 · rw [hno _ (by decide)] at k1
   rw [hno _ (by decide)] at k2;rw [hB] at k3;simp only [↓reduceIte, Bool.false_eq_true] at k1 k2 k3;unfold B.sub at k1;unfold B.await at k2;unfold B.settle at k3;clear hB hno hq;go_enter Tryz.func120, Tryz.ntmps120
   go_wp2_with fail
   refine (k1.out _ hh.out).mono ?_;rintro e' w0 ⟨rfl, hs0, ho0⟩;go_wp2_with fail
   refine (k2.out _ hs0).mono ?_;rintro e' w4 ⟨rfl, hs4, ho4⟩;go_wp2_with fail
   refine (k3.out _ hs4).mono ?_;rintro e' w1 ⟨rfl, hs1, ho1⟩;go_wp2_with fail
   refine (kP.out _ hs1).mono ?_;rintro e' w2 ⟨v, ts, i2, bd2, lg2, rfl, hv, hl, hd, hs2, ho2⟩;obtain ⟨va, vc, rfl, _, _⟩ := id hv.shape;have hz0 := ho0.size;have hz4 := ho4.size;have hz := ho1.size;have hz2 := ho2.size;have c3 := Lib.hid (top_any hs2 55 0 1 0 [] hv (by omega));have ho3 := Lib.hid (((ho0.then ho4).then ho1).then ho2);clear k1 k2 k3 kP hs1 ho1 hv hs2 ho2 hs0 ho0 hs4 ho4;go_wp2_with fail
   refine c3.out.mono ?_;rintro e' w3 ⟨v3, rfl, hv3, hs3, ho4⟩;go_wp2_with fail
   go_ret
   have hd2 := hd.top 55 0 [];exact ⟨_, _, _, _, _, rfl, hv3.low9 (by omega), topL_len _ _ (by omega), ⟨hd2.1, fun e => (by cases e), hd2.2.2⟩, hs3, ho3.out.then ho4⟩
end
end Go.Proofs.YtngbekhegnmfaaaGreatDoor
namespace Go.Proofs.YtngbekhegnmfaaaGreatDoor
open Go.RowKit Go.Shelf Tok
section
variable {s Z : St Ch} {i j : Nat} {bd lg bdj lgj : Bool} {ts : List Tw} {n : Int}
theorem DP.exit {X : Ch → Nat → St Ch} (h : DP s i bd lg ts n j bdj lgj) (hZ : s.and X = Z) (hne : bd = false → Z ≠ .out) (hx : bdj = false → ∀ c, s = .ok c j → X c j = .ok c j) : DP Z i bd lg ts n j bdj lgj := by
 obtain ⟨h1, h2, h3⟩ := h;refine ⟨h1, h2, fun e => ?_⟩;have h4 := h3 e;have hne' := hne e;subst hZ;cases s with
 | out => exact absurd rfl hne'
 | bad j' => exact h4
 | ok c j' =>
   obtain ⟨rfl, a2, a3, a4, a5⟩ := h4;rw [show (St.ok c j).and X = St.ok c j from hx a2 c rfl];exact ⟨rfl, a2, a3, a4, a5⟩
end
section
variable {R cap : Nat} {a : Option Addr} {ks : List Tk}
variable {s Z : St Ch} {i j f' : Nat} {bd lg bdj lgj : Bool} {ts : List Tw}
theorem post_end (hd : DP s i bd lg ts 1 j bdj lgj) (hB : isB ks j bdj B.lsq = false) (hZ : (s.and fun c k => gP ks f' (.postGo c) k) = Z) (hne : bd = false → Z ≠ .out) : DP Z i bd lg ts 1 j bdj lgj :=
 hd.exit hZ hne (fun e c hc => by
   have hb := (hd.next e).1;subst e;have hm := isB_no hB;subst hc;cases f' with
   | zero => exact absurd (by rw [← hZ]; rfl) (hne hb)
   | succ f'' =>
     show (if markT ks j = B.lsq then _ else St.ok c j) = _
     rw [if_neg hm])
theorem want_far {m : List UInt8} {i K : Nat} (h : K ≤ i) : Far K (wantT ks m i) := by
 unfold wantT;split
 · exact Nat.le_succ_of_le h
 · exact h
theorem post_round (hd : DP s i bd lg ts 1 j bdj lgj) (hB : isB ks j bdj B.lsq = true) (hZ : (s.and fun c k => gP ks f' (.postGo c) k) = Z) (hne : bd = false → Z ≠ .out) :
   bdj = false ∧ j < ks.length ∧ ∃ f3, f' = f3 + 2 ∧ gP ks f3 .expr (j + 1) ≠ .out ∧ ∀ us k bdk lgk, DP (gP ks f3 .expr (j + 1)) (j + 1) false lgj us 1 k bdk lgk →
     ∃ s', DP s' i bd lg (topL ⟨42, 2, 0, []⟩ (ts ++ us)) 1 (if isB ks k bdk B.rsq then k + 1 else k) (if isB ks k bdk B.rsq then bdk else true) (lgk || decide (2048 ≤ (ts ++ us).length)) ∧ (s'.and fun c k => gP ks (f3 + 1) (.postGo c) k) = Z ∧ j < (if isB ks k bdk B.rsq then k + 1 else k) := by
 obtain ⟨hl, e, hq⟩ := isB_lt (by decide) hB;subst e;obtain ⟨hb, hs⟩ := hd.next rfl;have hne' := hne hb;refine ⟨rfl, hl, ?_⟩;rcases hs with rfl | ⟨c, rfl⟩
 · exact absurd hZ.symm hne'
 · have hw : wantT ks B.lsq j = .ok () (j + 1) := by unfold wantT; rw [if_pos hq]
   cases f' with
   | zero => exact absurd hZ.symm hne'
   | succ f'' =>
     have e1 : gP ks (f'' + 1) (.postGo c) j = (gP ks f'' (.between B.lsq .expr B.rsq) j).and fun d k => gP ks f'' (.postGo ((c.then d).under 42 0 [])) k := by
       show (if markT ks j = B.lsq then _ else _) = _
       rw [if_pos hq]
     cases f'' with
     | zero =>
       refine absurd ?_ hne';rw [← hZ];show gP ks (0 + 1) (.postGo c) j = _
       rw [e1];rfl
     | succ f3 =>
       have e2 : gP ks (f3 + 1) (.between B.lsq .expr B.rsq) j = (gP ks f3 .expr (j + 1)).and fun c k => (wantT ks B.rsq k).and fun _ k => .ok c k := by
         show (wantT ks B.lsq j).and _ = _
         rw [hw];rfl
       have hZ2 : Z = ((gP ks f3 .expr (j + 1)).and fun c k => (wantT ks B.rsq k).and fun _ k => .ok c k).and fun d k => gP ks (f3 + 1) (.postGo ((c.then d).under 42 0 [])) k := by
         rw [← e2, ← e1, ← hZ];rfl
       refine ⟨f3, rfl, fun e => hne' (by rw [hZ2, e]; rfl), fun us k bdk lgk hx => ?_⟩;have hx2 := hx.must_behind (ks := ks) (w := B.rsq);have hx3 := (hd.shift (k := j + 1)).then (G := fun x => (gP ks f3 .expr x).and fun c k => (wantT ks B.rsq k).and fun _ k => .ok c k) hx2;refine ⟨_, hx3.top 42 0 [], ?_, ?_⟩
       · rw [hZ2]
         show ((((gP ks f3 .expr (j + 1)).and fun c k => (wantT ks B.rsq k).and fun _ k => St.ok c k).and fun d k => St.ok (c.then d) k).and fun c j => St.ok (c.under 42 0 []) j).and _ = _
         generalize ((gP ks f3 .expr (j + 1)).and fun c k => (wantT ks B.rsq k).and fun _ k => St.ok c k) = X;cases X <;> rfl
       · have := hx2.place (K := j + 1) (Nat.le_refl _) ((gP_far ks f3 .expr (j + 1) (Nat.le_refl _)).and (fun a k hk => (want_far hk).and (fun _ k hk => hk))) (fun _ e => hne' (by rw [hZ2, e]; rfl))
         omega
set_option maxRecDepth 20000 in
set_option maxHeartbeats 2000000 in
theorem post_any {G : Nat → St Ch} (f : Nat) (hE : ∀ f', f' < f → DDoesF 45 (dp R) (gP ks f' .expr) R a cap ks) (hP : DDoes 145 (dp R) G R a cap ks) {w : World} {i : Nat} {bd lg : Bool} (h : SR w R a cap ks i bd lg)
   (h1 : isB ks i bd B.sub = false) (h2 : isB ks i bd B.await = false) (h3 : isB ks i bd B.settle = false)
   (hne : bd = false → ((G i).and fun c k => gP ks f (.postGo c) k) ≠ .out) :
   Calls Tryz.prog 120 #[.pointer (some ⟨R, 0, none⟩)] w (DDone ((G i).and fun c k => gP ks f (.postGo c) k) i bd lg R a cap ks w) := by
 obtain ⟨Z, hZ⟩ := exHid ((G i).and fun c k => gP ks f (.postGo c) k);rw [hZ.out] at hne ⊢;have hRl := h.lt;have k1 := Lib.hid (fun (W : World) (h : SR W R a cap ks i bd lg) => has_any h (show B.sub ≠ [] by decide));have k2 := Lib.hid (fun (W : World) (h : SR W R a cap ks i bd lg) => has_any h (show B.await ≠ [] by decide));have k3 := Lib.hid (fun (W : World) (h : SR W R a cap ks i bd lg) => has_any h (show B.settle ≠ [] by decide));have kP := Lib.hid (fun (W : World) (h : SR W R a cap ks i bd lg) => hP W i bd lg h (fun e => and_out (by rw [hZ.out]; exact hne e)));rw [h1] at k1;rw [h2] at k2;rw [h3] at k3;simp only [Bool.false_eq_true, ↓reduceIte] at k1 k2 k3;unfold B.sub at k1;unfold B.await at k2;unfold B.settle at k3;have hh := Lib.hid h;have hfar := Lib.hid h.far;replace hE := Lib.hid hE;replace hne := Lib.hid hne;clear hP h h1 h2 h3;go_enter Tryz.func120, Tryz.ntmps120
 go_wp2_with fail
 refine (k1.out _ hh.out).mono ?_;rintro e' w1 ⟨rfl, hs1, ho1⟩;go_wp2_with fail
 refine (k2.out _ hs1).mono ?_;rintro e' w2 ⟨rfl, hs2, ho2⟩;go_wp2_with fail
 refine (k3.out _ hs2).mono ?_;rintro e' w3 ⟨rfl, hs3, ho3⟩;go_wp2_with fail
 refine (kP.out _ hs3).mono ?_;rintro e' w4 ⟨v, ts, j, bdj, lgj, rfl, hv, hl, hd, hs4, ho4⟩;have hz1 := ho1.size;have hz2 := ho2.size;have hz3 := ho3.size;have hvA := Lib.hid (hv.low9 (b := w.heap.size) (by omega));have hoA := Lib.hid (((ho1.then ho2).then ho3).then ho4);have hdA := Lib.hid hd;have hsA := Lib.hid hs4;clear k1 k2 k3 kP hh hs1 ho1 hs2 ho2 hs3 ho3 hv hd hs4 ho4 hz1 hz2 hz3;go_wp2_with fail
 go_loopw [5] (fun t5 wr => ∃ (s : St Ch) (f' j : Nat) (bdj lgj : Bool) (ts : List Tw), f' ≤ f ∧ ts.length ≤ 2048 ∧ Hid ((s.and fun c k => gP ks f' (.postGo c) k) = Z) ∧ Hid (DP s i bd lg ts 1 j bdj lgj) ∧ Hid (SR wr R a cap ks j bdj lgj) ∧ Hid (TwsAt wr w.heap.size t5 ts) ∧ Hid (Only (fun k => k = R) w wr)) (fun _ wr => ks.length - placeN wr R)
 case atStart => exact ⟨G i, f, j, bdj, lgj, ts, Nat.le_refl _, hl, hZ, hdA, hsA, hvA, hoA⟩
 case round =>
   clear hdA hsA hvA hoA hl hZ;obtain ⟨s, f', j, bdj, lgj, ts, hf', hl, hZ, hd, hs, hv, ho⟩ := hrel;have k4 := Lib.hid (has_any hs.out (show B.lsq ≠ [] by decide));obtain ⟨va, vc, rfl, _, _⟩ := id hv.out.shape;have hwz := ho.out.size;cases hB : isB ks j bdj B.lsq with
   | false =>
     rw [hB] at k4;simp only [Bool.false_eq_true, ↓reduceIte] at k4;unfold B.lsq at k4;have hx := Lib.hid (post_end hd.out hB hZ.out hne.out);clear hB;go_wp2_with fail
     refine k4.out.mono ?_;rintro e' w5 ⟨rfl, hs5, ho5⟩;go_wp2_with fail
     go_ret
     exact ⟨_, ts, j, bdj, lgj, rfl, hv.out.step hRl ho5, hl, hx.out, hs5, ho.out.then ho5⟩
   | true =>
     rw [hB] at k4;simp only [↓reduceIte] at k4;unfold B.lsq at k4;obtain ⟨rfl, hjl, f3, rfl, hn3, hr⟩ := post_round hd.out hB hZ.out hne.out;have k5 := Lib.hid (fun (W : World) (h : SR W R a cap ks (j + 1) false lgj) => hE.out f3 (by omega) W (j + 1) lgj h hn3);replace hr := Lib.hid hr;have hpl := hs.out.place;clear hB hn3 hd;unfold dp at k5;go_wp2_with fail
     refine k4.out.mono ?_;rintro e' w5 ⟨rfl, hs5, ho5⟩;have hv5 := Lib.hid (hv.out.step hRl ho5);go_wp2_with fail
     refine (k5.out _ hs5).mono ?_;rintro e' w6 ⟨v6, us, k, bdk, lgk, rfl, hv6, hl6, hd6, hs6, ho6⟩;have hv56 := Lib.hid (hv5.out.step hRl ho6);obtain ⟨va6, vc6, rfl, _, _⟩ := id hv6.shape;have k6 := Lib.hid (must_any hs6 (show B.rsq ≠ [] by decide));obtain ⟨s', hd', hZ', hjk⟩ := hr.out us k bdk lgk hd6;obtain ⟨kk, hkk⟩ := exHid (if isB ks k bdk B.rsq then k + 1 else k);obtain ⟨bk, hbk⟩ := exHid (if isB ks k bdk B.rsq then bdk else true);rw [hkk.out, hbk.out] at k6 hd';rw [hkk.out] at hjk;unfold B.rsq at k6;replace hd' := Lib.hid hd';replace hZ' := Lib.hid hZ';have ho56 := Lib.hid ((ho.out.then ho5).then ho6);have hz5 := ho5.size;have hz6 := ho6.size;replace hv6 := Lib.hid hv6;clear k4 k5 hr hv5 hs5 ho5 hd6 hs6 ho6 hv hs ho;go_wp2_with fail
     refine k6.out.mono ?_;rintro e' w7 ⟨rfl, hs7, ho7⟩;have hv7 := Lib.hid (hv56.out.step hRl ho7);have hv67 := Lib.hid (hv6.out.step (by omega) ho7);have ho8 := Lib.hid (ho56.out.then ho7);have hz7 := ho7.size;replace hs7 := Lib.hid hs7;clear k6 hv56 hv6 ho56 ho7;go_wp2_with (at_builtin; (refine wpList_append_twx (base := w.heap.size) rfl _ _ rfl rfl hv7.out rfl hv67.out (by omega) (by omega) (by omega) ?_; intro v9 w9 hA hB9))
     obtain ⟨va9, vc9, rfl, _, _⟩ := id hA.shape;have hs9 := Lib.hid (hs7.out.low hB9 hRl hfar.out);have ho9 := Lib.hid (onlyB ho8.out hB9 (Nat.le_refl _));have hlen : (ts ++ us).length = ts.length + us.length := List.length_append;have hz9 := hB9.size;have k7 := Lib.hid (top_any hs9.out 42 0 2 0 [] hA (by omega));clear hs7 hv7 hv67 ho8 hA hB9;go_wp2_with fail
     refine k7.out.mono ?_;rintro e' w10 ⟨v10, rfl, hv10, hs10, ho10⟩;have hvE := Lib.hid (hv10.low9 (b := w.heap.size) (by omega));have hoE := Lib.hid (ho9.out.then ho10);have hle := topL_len ⟨42, 2, 0, []⟩ (ts ++ us) (by omega);have hpl2 := hs10.place;replace hs10 := Lib.hid hs10;clear k7 hv10 ho10 hs9 ho9;go_wp2_with fail
     go_roundw
     case rel => exact ⟨s', f3 + 1, kk, bk, _, _, by omega, hle, hZ', hd', hs10, hvE, hoE⟩
     case measure =>
       have := hs10.out.le;rw [hpl, hpl2];omega
end
end Go.Proofs.YtngbekhegnmfaaaGreatDoor
namespace Go.Proofs.YtngbekhegnmfaaaGreatDoor
open Go.RowKit Go.Shelf Tok
def stmtsX (ks : List Tk) (f : Nat) (c : Ch) (k : Nat) : St Ch := (gP ks f (.stmtsGo c) k).and fun c k => (wantT ks B.rbr k).and fun _ k => .ok c k
section
variable {R cap : Nat} {a : Option Addr} {ks : List Tk}
variable {s Z : St Ch} {i j f' : Nat} {bd lg bdj lgj : Bool} {ts : List Tw} {n : Int}
theorem DP.keep {us : List Tw} (h : DP s i bd lg (ts ++ us) n j bdj lgj) (hl : 2048 < ts.length) : DP s i bd lg ts n j bdj lgj := by
 obtain ⟨h1, h2, h3⟩ := h;refine ⟨⟨h1.1, fun x hx => h1.2 x (List.mem_append.2 (.inl hx))⟩, h2, fun e => ?_⟩;have h4 := h3 e;cases s with
 | out => exact trivial
 | bad j' => exact h4
 | ok c j' =>
   obtain ⟨a1, a2, a3, a4, a5⟩ := h4;refine ⟨a1, a2, a3, fun e => .inr ⟨hl, ?_⟩, a5⟩;rcases a4 e with a6 | a6
   · rw [← a6, List.length_append]
     omega
   · exact a6.2
theorem block_bad (hd : DP s i bd lg ts n j true lgj) (hZ : (s.and fun c k => stmtsX ks f' c k) = Z) (hne : bd = false → Z ≠ .out) : DP Z i bd lg ts n j true lgj :=
 hd.exit hZ hne (fun e => by cases e)
theorem block_end (hd : DP s i bd lg ts n j false lgj) (hB : isB ks j false B.rbr = true) (hZ : (s.and fun c k => stmtsX ks f' c k) = Z) (hne : bd = false → Z ≠ .out) : DP Z i bd lg ts n (j + 1) false lgj := by
 obtain ⟨hl, _, hq⟩ := isB_lt (by decide) hB;obtain ⟨hb, hs⟩ := hd.next rfl;have hne' := hne hb;rcases hs with rfl | ⟨c, rfl⟩
 · exact absurd hZ.symm hne'
 · have hw : wantT ks B.rbr j = .ok () (j + 1) := by unfold wantT; rw [if_pos hq]
   cases f' with
   | zero => exact absurd hZ.symm hne'
   | succ f3 =>
     have hZ2 : Z = .ok c (j + 1) := by
       rw [← hZ];show (if markT ks j = B.rbr then St.ok c j else _).and _ = _
       rw [if_pos hq];show (wantT ks B.rbr j).and _ = _
       rw [hw];rfl
     rw [hZ2];obtain ⟨h1, h2, h3⟩ := hd;refine ⟨h1, fun e => (by rw [hb] at e; cases e), fun e => ?_⟩;obtain ⟨_, a2, a3, a4, a5⟩ := h3 e;exact ⟨rfl, a2, a3, a4, a5⟩
theorem block_round (hd : DP s i bd lg ts n j false lgj) (hB : isB ks j false B.rbr = false) (hZ : (s.and fun c k => stmtsX ks f' c k) = Z) (hne : bd = false → Z ≠ .out) :
   ∃ f3, f' = f3 + 1 ∧ gP ks f3 .stmt j ≠ .out ∧ ∀ us k bdk lgk, DP (gP ks f3 .stmt j) j false lgj us 1 k bdk lgk →
     ∃ s', DP s' i bd lg (ts ++ us) (n + 1) k bdk lgk ∧ (s'.and fun c k => stmtsX ks f3 c k) = Z := by
 obtain ⟨hb, hs⟩ := hd.next rfl;have hne' := hne hb;have hm := isB_no hB;rcases hs with rfl | ⟨c, rfl⟩
 · exact absurd hZ.symm hne'
 · cases f' with
   | zero => exact absurd hZ.symm hne'
   | succ f3 =>
     have hZ2 : Z = (gP ks f3 .stmt j).and fun d k => stmtsX ks f3 (c.then d) k := by
       rw [← hZ];show (if markT ks j = B.rbr then St.ok c j else _).and _ = _
       rw [if_neg hm];generalize gP ks f3 .stmt j = X;cases X <;> rfl
     refine ⟨f3, rfl, fun e => hne' (by rw [hZ2, e]; rfl), fun us k bdk lgk hx => ?_⟩;have hx3 := hd.then (G := fun x => gP ks f3 .stmt x) hx;refine ⟨_, hx3, ?_⟩;rw [hZ2];show ((gP ks f3 .stmt j).and fun d k => St.ok (c.then d) k).and _ = _
     generalize gP ks f3 .stmt j = X;cases X <;> rfl
set_option maxRecDepth 20000 in
set_option maxHeartbeats 4000000 in
theorem dblock_any (f : Nat) (hf : f ≤ 1000000000) (hE : ∀ f', f' < f → DDoesF 119 (dp R) (gP ks f' .stmt) R a cap ks) :
   DDoes 87 (dp R) (fun i => ((wantT ks B.lbr i).and fun _ j => stmtsX ks f Ch.none j).and fun c k => .ok (c.under 3 0 []) k) R a cap ks := by
 intro w i bd lg h hne;dsimp only at hne ⊢;have hRl := h.lt;have k1 := Lib.hid (must_any h (show B.lbr ≠ [] by decide));have hfar := Lib.hid h.far;obtain ⟨i1, hi1⟩ := exHid (if isB ks i bd B.lbr then i + 1 else i);obtain ⟨b1, hb1⟩ := exHid (if isB ks i bd B.lbr then bd else true);rw [hi1.out, hb1.out] at k1;have hne1 : b1 = false → stmtsX ks f Ch.none i1 ≠ .out := by
   intro e;rw [← hb1.out] at e;cases hB : isB ks i bd B.lbr with
   | false => rw [hB] at e; cases e
   | true =>
     obtain ⟨_, hbd, hq⟩ := isB_lt (by decide) hB;have hi := hi1.out;rw [hB] at hi;simp only [↓reduceIte] at hi;have := and_out (hne hbd);unfold wantT at this;rw [if_pos hq] at this;rw [← hi];exact this
 obtain ⟨Z, hZ⟩ := exHid (stmtsX ks f Ch.none i1);rw [hZ.out] at hne1;have hFin : ∀ ts n j lgj bdj, DP Z i1 b1 lg ts n j bdj lgj → DP (((wantT ks B.lbr i).and fun _ j => stmtsX ks f Ch.none j).and fun c k => .ok (c.under 3 0 []) k) i bd lg (topL ⟨3, n, 0, []⟩ ts) 1 j bdj (lgj || decide (2048 ≤ ts.length)) := by
   intro ts n j lgj bdj hd;have h1 : DP ((wantT ks B.lbr i).and fun _ j => stmtsX ks f Ch.none j) i bd lg ts n j bdj lgj := DP.must_ahead (G := fun j => stmtsX ks f Ch.none j) (by rw [hi1.out, hb1.out, hZ.out]; exact hd);exact h1.top 3 0 []
 have hst : DP (.ok Ch.none i1) i1 b1 lg [] 0 i1 b1 lg := DP.ok rfl rfl;replace hE := Lib.hid hE;replace hne1 := Lib.hid hne1;replace hFin := Lib.hid hFin;replace hst := Lib.hid hst;obtain ⟨U, hU⟩ := exHid (((wantT ks B.lbr i).and fun _ j => stmtsX ks f Ch.none j).and fun c k => St.ok (c.under 3 0 []) k);rw [hU.out] at hFin ⊢;clear hne h hi1 hb1 hU;unfold B.lbr at k1;unfold dp at hE ⊢;go_enter Tryz.func87, Tryz.ntmps87
 go_wp2_with fail
 refine k1.out.mono ?_;rintro e' w1 ⟨rfl, hs1, ho1⟩;have hsA := Lib.hid hs1;have hoA := Lib.hid ho1;clear k1 hs1 ho1;go_wp2_with fail
 go_loopw [3, 4] (fun t3 t4 wr => ∃ (s : St Ch) (f' n j : Nat) (bdj lgj : Bool) (ts : List Tw), t4 = .int .i64 n ∧ f' + n = f ∧ ts.length ≤ 4096 ∧ Hid ((s.and fun c k => stmtsX ks f' c k) = Z) ∧ Hid (DP s i1 b1 lg ts n j bdj lgj) ∧ Hid (SR wr R a cap ks j bdj lgj) ∧ Hid (TwsAt wr w.heap.size t3 ts) ∧ Hid (Only (fun k => k = R) w wr)) (fun _ t4 _ => f - (intOf t4).toNat)
 case atStart => exact ⟨.ok Ch.none i1, f, 0, i1, b1, lg, [], by go_num, rfl, by simp, hZ, hst, hsA, Lib.hid (World.ownsRow_nil _ _ _ _), hoA⟩
 case round =>
   clear hsA hoA hZ hst;obtain ⟨s, f', n, j, bdj, lgj, ts, rfl, hfn, hl, hZ, hd, hs, hv, ho⟩ := hrel;obtain ⟨va, vc, rfl, _, _⟩ := id hv.out.shape;have hwz := ho.out.size;have c2 := hs.out.c2;have hb0 := fun m => Lib.hid (below_dn (Below.refl wr.heap.size wr) m)
   cases bdj with
   | true =>
     have hx := block_bad hd.out hZ.out hne1.out;have hx2 := Lib.hid (hFin.out _ _ _ _ _ hx);clear hx hd hE;have kT := Lib.hid (fun (W : World) (hW : Below wr.heap.size wr W) => top_any (hs.out.below hW) 3 0 (n : Int) 0 [] (hv.out.below hW) (by omega));go_wp2_with fail
     refine (kT.out _ ?_).mono ?_
     · first | exact Below.refl _ _ | exact (hb0 _).out | exact (Below.refl _ _).drew
     rintro e' w3 ⟨v3, rfl, hv3, hs3, ho4⟩;go_wp2_with fail
     go_ret
     exact ⟨_, _, j, true, _, rfl, hv3.low9 hwz, topL_len _ _ (by omega), hx2.out, hs3, (ho.out.then (Only.of_below (by first | exact Below.refl _ _ | exact (hb0 _).out | exact (Below.refl _ _).drew))).then ho4⟩
   | false =>
     have kH := Lib.hid (fun (W : World) (hW : Below wr.heap.size wr W) => has_any (hs.out.below hW) (show B.rbr ≠ [] by decide));cases hB : isB ks j false B.rbr with
     | true =>
       have hx := block_end hd.out hB hZ.out hne1.out;have hx2 := Lib.hid (hFin.out _ _ _ _ _ hx);rw [hB] at kH;simp only [↓reduceIte] at kH;unfold B.rbr at kH;clear hx hd hE hB;go_wp2_with fail
       refine (kH.out _ ?_).mono ?_
       · first | exact Below.refl _ _ | exact (hb0 _).out | exact (Below.refl _ _).drew
       rintro e' w3 ⟨rfl, hs3, ho3⟩;have hoZ := Lib.hid (show Only (fun k => k = R) w w3 from (ho.out.then (Only.of_below (by first | exact Below.refl _ _ | exact (hb0 _).out | exact (Below.refl _ _).drew))).then ho3);have hvZ := Lib.hid (show TwsAt w3 w.heap.size (.slice va ts.length vc) ts from (hv.out.below (by first | exact Below.refl _ _ | exact (hb0 _).out | exact (Below.refl _ _).drew)).step hRl ho3);have kT := Lib.hid (top_any hs3 3 0 (n : Int) 0 [] hvZ.out (by omega));have hz3 := hoZ.out.size;clear kH hs3 ho3 hs hv ho;go_wp2_with fail
       refine kT.out.mono ?_;rintro e' w4 ⟨v3, rfl, hv3, hs4, ho4⟩;go_wp2_with fail
       go_ret
       exact ⟨_, _, j + 1, false, _, rfl, hv3.low9 hz3, topL_len _ _ (by omega), hx2.out, hs4, hoZ.out.then ho4⟩
     | false =>
       obtain ⟨f3, rfl, hn3, hr⟩ := block_round hd.out hB hZ.out hne1.out;have k5 := Lib.hid (fun (W : World) (h : SR W R a cap ks j false lgj) => hE.out f3 (by omega) W j lgj h hn3);rw [hB] at kH;simp only [Bool.false_eq_true, ↓reduceIte] at kH;unfold B.rbr at kH;replace hr := Lib.hid hr;clear hd hB hn3;go_wp2_with fail
       refine (kH.out _ ?_).mono ?_
       · first | exact Below.refl _ _ | exact (hb0 _).out | exact (Below.refl _ _).drew
       rintro e' w3 ⟨rfl, hs3, ho3⟩;have hoZ := Lib.hid (show Only (fun k => k = R) w w3 from (ho.out.then (Only.of_below (by first | exact Below.refl _ _ | exact (hb0 _).out | exact (Below.refl _ _).drew))).then ho3);have hvZ := Lib.hid (show TwsAt w3 w.heap.size (.slice va ts.length vc) ts from (hv.out.below (by first | exact Below.refl _ _ | exact (hb0 _).out | exact (Below.refl _ _).drew)).step hRl ho3);have hz3 := ho3.size;have hz3' := hoZ.out.size;replace hs3 := Lib.hid hs3;clear kH ho3 hs hv ho c2 hb0;go_wp2_with fail
       refine (k5.out _ ?_).mono ?_
       · first | exact hs3.out | exact hs3.out.below (Below.refl _ _).drew
       rintro e' w6 ⟨v6, us, k, bdk, lgk, rfl, hu6, hl6, hd6, hs6, ho7⟩;have hz6 := ho7.size;have hvA := Lib.hid (show TwsAt w6 w.heap.size (.slice va ts.length vc) ts from hvZ.out.step hRl ho7);have hoA := Lib.hid (hoZ.out.then ho7);obtain ⟨va6, vc6, rfl, _, _⟩ := id hu6.shape;obtain ⟨s', hd', hZ'⟩ := hr.out us k bdk lgk hd6;replace hu6 := Lib.hid hu6;replace hs6 := Lib.hid hs6;replace hZ' := Lib.hid hZ';clear k5 hr hvZ hoZ hd6 ho7 hs3;by_cases hcap : ts.length ≤ 2048
       · have hci : (ts.length : Int) ≤ 2048 := by omega
         replace hd' := Lib.hid hd';go_wp2_with (at_builtin; (refine wpList_append_twx (base := w.heap.size) rfl _ _ rfl rfl hvA.out rfl hu6.out (by omega) (by omega) (by omega) ?_; intro v9 w9 hA hB9))
         have hs9 := Lib.hid (hs6.out.low hB9 hRl hfar.out);have ho9 := Lib.hid (onlyB hoA.out hB9 (Nat.le_refl _));have hlen : (ts ++ us).length = ts.length + us.length := List.length_append;replace hA := Lib.hid hA;clear hs6 hvA hu6 hoA hB9;go_roundw
         case rel => exact ⟨s', f3, n + 1, k, bdk, _, _, by go_num, by omega, by omega, hZ', hd', hs9, hA, ho9⟩
         case measure => simp [intOf]; omega
       · have hci : ¬ (ts.length : Int) ≤ 2048 := by omega
         have hd2 := Lib.hid (hd'.keep (by omega));clear hd';go_wp2_with fail
         go_roundw
         case rel => exact ⟨s', f3, n + 1, k, bdk, _, _, by go_num, by omega, hl, hZ', hd2, hs6, hvA, hoA⟩
         case measure => simp [intOf]; omega
end
end Go.Proofs.YtngbekhegnmfaaaGreatDoor
