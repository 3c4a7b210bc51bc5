/- A part of the proof: DPrim, DFlowP, DFlow, DEach. No condition. -/
import Derived.Test.YtngbekhegnmfaaaGreatDoorQ17
import Derived.Test.YtngbekhegnmfaaaGreatDoorQ18
set_option linter.unusedVariables false
set_option linter.unusedSimpArgs false
namespace Go.Proofs.YtngbekhegnmfaaaGreatDoor
open Go.RowKit Go.Shelf Tok
def WordsOK (ks : List Tk) : Prop := ∀ i, i < ks.length → ((tkAt ks i).kind = 1 → (tkAt ks i).text ≠ B.lsq ∧ (tkAt ks i).text ≠ B.opn) ∧ ((tkAt ks i).kind = 4 → plainT (tkAt ks i).text = 0 ∧ aroundT (tkAt ks i).text = 0)
section
variable {R cap : Nat} {a : Option Addr} {ks : List Tk}
theorem mark_kind {i : Nat} {m : List UInt8} (h : markT ks i = m) (hm : m ≠ []) : (tkAt ks i).text = m ∧ ((tkAt ks i).kind = 1 ∨ (tkAt ks i).kind = 4) := by
 rw [markT_at] at h;by_cases hk : (tkAt ks i).kind = 1 ∨ (tkAt ks i).kind = 4
 · rw [if_pos hk] at h
   exact ⟨h, hk⟩
 · rw [if_neg hk] at h
   exact absurd h.symm hm
theorem gM_nil {G : NT → Nat → St Ch} {i : Nat} : gM ks G [] i = (ownT ks i).and fun nm i => .ok (Ch.none.under 26 0 nm) i := by
 unfold gM;rw [if_neg (by decide), if_neg (by decide), if_neg (by decide), if_neg (by decide), if_neg (by decide), if_neg (by decide), if_neg (by decide), if_neg (by decide)]
theorem kind_mine {i : Nat} (h : (tkAt ks i).kind ≠ 1) : mineB ks i false = false := by
 unfold mineB;rw [decide_eq_false h];rfl
theorem prim_step (hW : WordsOK ks) (f : Nat) (hf : f ≤ 1000000000) (hE : ∀ f', f' ≤ f → DDoes 45 (dp R) (gP ks f' .expr) R a cap ks) (hB : ∀ f', f' ≤ f → DDoes 87 (dp R) (gP ks f' .block) R a cap ks) :
   DDoesF 145 (dp R) (gP ks (f + 1) .prim) R a cap ks := by
 intro w i lg h hne;have hG : gP ks (f + 1) .prim i = primF ks f (ks[i]?, markT ks i) i := rfl;rw [hG] at hne ⊢;clear hG;unfold primF at hne ⊢;by_cases hge : ks.length ≤ i
 · have hi : i = ks.length := by have := h.le; omega
   rw [List.getElem?_eq_none hge] at hne ⊢;dsimp only at hne ⊢;rw [gM_nil] at hne ⊢;have ho : ownT ks i = .bad i := by unfold ownT; rw [List.getElem?_eq_none hge]
   exact prim_end h hi (by rw [ho]; rfl)
 have hlt : i < ks.length := by omega
 rw [List.getElem?_eq_getElem hlt, ← tkAt_get hlt] at hne ⊢;dsimp only at hne ⊢;obtain ⟨hW1, hW4⟩ := hW i hlt;by_cases h2 : (tkAt ks i).kind = 2
 · rw [if_pos h2] at hne ⊢
   exact dprim_int h hlt h2
 rw [if_neg h2] at hne ⊢;by_cases h3 : (tkAt ks i).kind = 3
 · rw [if_pos h3] at hne ⊢
   exact dprim_text h hlt h3 trivial
 rw [if_neg h3] at hne ⊢;unfold gM at hne ⊢;by_cases c1 : markT ks i = B.lsq
 · rw [if_pos c1] at hne ⊢
   obtain ⟨ht, hk⟩ := mark_kind c1 (by decide);have hk4 : (tkAt ks i).kind = 4 := hk.resolve_left (fun e => (hW1 e).1 ht);cases f with
   | zero => exact absurd rfl hne
   | succ f1 =>
     have e1 : gP ks (f1 + 1) (.list B.lsq .expr B.rsq) i = exR ks B.rsq f1 (i + 1) := by
       show (wantT ks B.lsq i).and _ = _
       rw [want_at c1];rfl
     rw [e1] at hne ⊢;exact prim_lsq4 (exprs_any (by decide) (by decide) f1 (by omega) (fun f' h => hE f' (by omega))) h hlt hk4 (kind_mine (by omega)) (hW4 hk4) c1 hne
 rw [if_neg c1] at hne ⊢;by_cases c2 : markT ks i = B.opn
 · rw [if_pos c2] at hne ⊢
   obtain ⟨ht, hk⟩ := mark_kind c2 (by decide);have hk4 : (tkAt ks i).kind = 4 := hk.resolve_left (fun e => (hW1 e).2 ht);cases f with
   | zero => exact absurd rfl hne
   | succ f1 =>
     have e1 : gP ks (f1 + 1) (.between B.opn .expr B.cls) i = (gP ks f1 .expr (i + 1)).and fun c k => (wantT ks B.cls k).and fun _ k => .ok c k := by
       show (wantT ks B.opn i).and _ = _
       rw [want_at c2];rfl
     rw [e1] at hne ⊢;exact prim_opn4 (hE f1 (by omega)) h hlt hk4 (kind_mine (by omega)) (hW4 hk4) c2 hne
 rw [if_neg c2] at hne ⊢;by_cases c3 : markT ks i = B.none ∨ markT ks i = B.tru ∨ markT ks i = B.fls ∨ markT ks i = B.version
 · rw [if_pos c3, want_at rfl] at hne ⊢
   have hp : plainT (markT ks i) = opOfT (markT ks i) ∧ opOfT (markT ks i) ≠ 0 ∧ kwB (markT ks i) = true ∧ markT ks i ≠ [] := by
     rcases c3 with e | e | e | e <;> rw [e] <;> decide
   obtain ⟨ht, hk⟩ := mark_kind rfl hp.2.2.2;have hk1 : (tkAt ks i).kind = 1 := hk.resolve_right (fun e => hp.2.1 (by rw [← hp.1, ← ht]; exact (hW4 e).1));exact prim_plain h hlt hk1 (mineB_kw rfl hp.2.2.1) _ (by rw [ht]; exact hp.1) hp.2.1
 rw [if_neg c3] at hne ⊢;by_cases c4 : markT ks i = B.len ∨ markT ks i = B.re ∨ markT ks i = B.im ∨ markT ks i = B.conj ∨ markT ks i = B.timer
 · rw [if_pos c4, want_at rfl] at hne ⊢
   have hp : aroundT (markT ks i) = opOfT (markT ks i) ∧ opOfT (markT ks i) ≠ 0 ∧ kwB (markT ks i) = true ∧ markT ks i ≠ [] ∧ plainT (markT ks i) = 0 := by
     rcases c4 with e | e | e | e | e <;> rw [e] <;> decide
   obtain ⟨ht, hk⟩ := mark_kind rfl hp.2.2.2.1;have hk1 : (tkAt ks i).kind = 1 := hk.resolve_right (fun e => hp.2.1 (by rw [← hp.1, ← ht]; exact (hW4 e).2));cases f with
   | zero => exact absurd rfl hne
   | succ f1 => exact prim_around (hE f1 (by omega)) h hlt hk1 (mineB_kw rfl hp.2.2.1) _ ⟨by rw [ht]; exact hp.2.2.2.2, by rw [ht]; exact hp.1⟩ hp.2.1 hne
 rw [if_neg c4] at hne ⊢;by_cases c5 : markT ks i = B.num
 · rw [if_pos c5, want_at rfl] at hne ⊢
   obtain ⟨ht, hk⟩ := mark_kind c5 (by decide);have hX : plainT (tkAt ks i).text = 0 ∧ aroundT (tkAt ks i).text = 0 := by rw [ht]; decide
   have hM : mineB ks i false = false := mineB_kw c5 (by decide);cases f with
   | zero => exact absurd rfl hne
   | succ f1 =>
     have e2 : ∀ j, gP ks f1 .two j = (gP ks (f1 - 1) .expr j).and fun c k => (wantT ks B.com k).and fun _ k => (gP ks (f1 - 1) .expr k).and fun d k => .ok (c.then d) k := by
       intro j;cases f1 <;> rfl
     have e1 : ∀ j, gP ks (f1 + 1) (.between B.opn .two B.cls) j = (wantT ks B.opn j).and fun _ j => ((gP ks (f1 - 1) .expr j).and fun c k => (wantT ks B.com k).and fun _ k => (gP ks (f1 - 1) .expr k).and fun d k => .ok (c.then d) k).and fun c k => (wantT ks B.cls k).and fun _ k => .ok c k := by
       intro j;show (wantT ks B.opn j).and (fun _ i => (gP ks f1 .two i).and _) = _
       congr 1
       funext _ j
       rw [e2]
     have hne2 : ((gP ks (f1 + 1) (.between B.opn .two B.cls) (i + 1)).and fun c i => St.ok (c.under 41 0 []) i) ≠ .out := hne;show Calls _ _ _ _ (DDone ((gP ks (f1 + 1) (.between B.opn .two B.cls) (i + 1)).and fun c i => St.ok (c.under 41 0 []) i) i false lg R a cap ks w)
     rw [e1] at hne2 ⊢;rcases hk with hk | hk
     · exact prim_num1 (hE (f1 - 1) (by omega)) h hlt hk hM hX c5 hne2
     · exact prim_num4 (hE (f1 - 1) (by omega)) h hlt hk hM hX c5 hne2
 rw [if_neg c5] at hne ⊢;by_cases c6 : markT ks i = B.call ∨ markT ks i = B.child
 · rw [if_pos c6, want_at rfl] at hne ⊢
   have hM : mineB ks i false = false := by rcases c6 with e | e <;> exact mineB_kw e (by decide)
   obtain ⟨ht, hk⟩ := mark_kind (ks := ks) (i := i) rfl (by rcases c6 with e | e <;> rw [e] <;> decide);have hX : plainT (tkAt ks i).text = 0 ∧ aroundT (tkAt ks i).text = 0 := by rw [ht]; rcases c6 with e | e <;> rw [e] <;> decide
   have main : ∀ G : Nat → St Ch, DDoes2 163 #[.pointer (some ⟨R, 0, none⟩), .string ⟨B.cls.toArray⟩] G R a cap ks → ((ownT ks (i + 1)).and fun nm i' => ((wantT ks B.opn i').and fun _ j => G j).and fun c k => .ok (c.under (opOfT (markT ks i)) 0 nm) k) ≠ .out →
       Calls Tryz.prog 145 #[.pointer (some ⟨R, 0, none⟩)] w (DDone ((ownT ks (i + 1)).and fun nm i' => ((wantT ks B.opn i').and fun _ j => G j).and fun c k => .ok (c.under (opOfT (markT ks i)) 0 nm) k) i false lg R a cap ks w) := by
     intro G hG hn;rcases c6 with e | e
     · have ho : opOfT (markT ks i) = 50 := by rw [e]; decide
       rw [ho] at hn ⊢;rcases hk with hk | hk
       · exact prim_call1 (asked_any hG 50) h hlt hk hM hX e hn
       · exact prim_call4 (asked_any hG 50) h hlt hk hM hX e hn
     · have ho : opOfT (markT ks i) = 51 := by rw [e]; decide
       rw [ho] at hn ⊢;rcases hk with hk | hk
       · exact prim_child1 (asked_any hG 51) h hlt hk hM hX e hn
       · exact prim_child4 (asked_any hG 51) h hlt hk hM hX e hn
   cases f with
   | zero =>
     cases ho : ownT ks (i + 1) with
     | out => exact absurd (by show (ownT ks (i + 1)).and _ = _; rw [ho]; rfl) hne
     | ok nm j => exact absurd (by show (ownT ks (i + 1)).and _ = _; rw [ho]; rfl) hne
     | bad j =>
       have hb : DDoes2 163 #[.pointer (some ⟨R, 0, none⟩), .string ⟨B.cls.toArray⟩] (exR ks B.cls 0) R a cap ks := exprs_any (by decide) (by decide) 0 (by omega) (fun f' h => hE f' h);refine (main _ hb (by rw [ho]; exact fun e => by cases e)).mono (fun _ _ h => h.of (fun _ => ?_));show (ownT ks (i + 1)).and _ = (ownT ks (i + 1)).and _
       rw [ho];rfl
   | succ f1 =>
     exact main (exR ks B.cls f1) (exprs_any (by decide) (by decide) f1 (by omega) (fun f' h => hE f' (by omega))) hne
 rw [if_neg c6] at hne ⊢;by_cases c7 : markT ks i = B.fork
 · rw [if_pos c7, want_at rfl] at hne ⊢
   obtain ⟨ht, hk⟩ := mark_kind c7 (by decide);have hX : plainT (tkAt ks i).text = 0 ∧ aroundT (tkAt ks i).text = 0 := by rw [ht]; decide
   have hM : mineB ks i false = false := mineB_kw c7 (by decide);rcases hk with hk | hk
   · exact prim_fork1 (hB f (Nat.le_refl _)) h hlt hk hM hX c7 hne
   · exact prim_fork4 (hB f (Nat.le_refl _)) h hlt hk hM hX c7 hne
 rw [if_neg c7] at hne ⊢;by_cases c8 : markT ks i = B.take
 · rw [if_pos c8, want_at rfl] at hne ⊢
   obtain ⟨ht, hk⟩ := mark_kind c8 (by decide);have hX : plainT (tkAt ks i).text = 0 ∧ aroundT (tkAt ks i).text = 0 := by rw [ht]; decide
   have hM : mineB ks i false = false := mineB_kw c8 (by decide);rcases hk with hk | hk
   · exact prim_take1 h hlt hk hM hX c8 hne
   · exact prim_take4 h hlt hk hM hX c8 hne
 rw [if_neg c8] at hne ⊢;cases hM : mineB ks i false with
 | true =>
   obtain ⟨_, _, ho⟩ := mineB_lt hM;have hk1 : (tkAt ks i).kind = 1 := by
     by_cases hk : (tkAt ks i).kind = 1
     · exact hk
     · rw [kind_mine hk] at hM; cases hM
   rw [ho];exact dprim_name h hlt hk1 hM
 | false =>
   have hs : ((ownT ks i).and fun nm i => St.ok (Ch.none.under 26 0 nm) i) = .bad i := by rw [mineB_not hM]; rfl
   have hq : markT ks i ≠ B.lsq ∧ markT ks i ≠ B.opn ∧ markT ks i ≠ B.num ∧ markT ks i ≠ B.fork ∧ markT ks i ≠ B.take ∧ markT ks i ≠ B.call ∧ markT ks i ≠ B.child := ⟨c1, c2, c5, c7, c8, fun e => c6 (.inl e), fun e => c6 (.inr e)⟩;by_cases hk1 : (tkAt ks i).kind = 1
   · have hmt : markT ks i = (tkAt ks i).text := by rw [markT_at, if_pos (.inl hk1)]
     have hp : plainT (tkAt ks i).text = 0 := by
       rw [← hmt];unfold plainT;rw [if_neg (fun e => c3 (.inl e)), if_neg (fun e => c3 (.inr (.inl e))), if_neg (fun e => c3 (.inr (.inr (.inl e)))), if_neg (fun e => c3 (.inr (.inr (.inr e))))]
     have ha : aroundT (tkAt ks i).text = 0 := by
       rw [← hmt];unfold aroundT;rw [if_neg (fun e => c4 (.inl e)), if_neg (fun e => c4 (.inr (.inl e))), if_neg (fun e => c4 (.inr (.inr (.inl e)))), if_neg (fun e => c4 (.inr (.inr (.inr (.inl e))))), if_neg (fun e => c4 (.inr (.inr (.inr (.inr e)))))]
     exact prim_none1 h hlt hk1 hM ⟨hp, ha⟩ hq hs
   · exact prim_nonex h hlt rfl hk1 h2 h3 hM hq hs
theorem dAll (hW : WordsOK ks) (f : Nat) (hf : f ≤ 1000000000) : DAll R a cap ks f :=
 dAll_of (dBad_of prim_bad) (fun f hf ih => prim_step hW f hf (fun f' h => (ih f' h).expr) (fun f' h => (ih f' h).block)) f hf f (Nat.le_refl _)
end
end Go.Proofs.YtngbekhegnmfaaaGreatDoor
namespace Go.Proofs.YtngbekhegnmfaaaGreatDoor
open Go.RowKit Go.Shelf Tok
def parX (ks : List Tk) (f : Nat) (c : Ch) (k : Nat) : St Ch := gP ks f (.listGo .param B.cls c) k
def parR (ks : List Tk) (f : Nat) (j : Nat) : St Ch := if markT ks j = B.cls then (wantT ks B.cls j).and fun _ i => .ok Ch.none i else (gP ks f .param j).and fun c i => gP ks f (.listGo .param B.cls c) i
section
variable {R cap : Nat} {a : Option Addr} {ks : List Tk}
variable {s Z : St Ch} {i j f' : Nat} {bd lg bdj lgj : Bool} {ts : List Tw} {n : Int}
theorem par_bad (hd : DP s i bd lg ts n j true lgj) (hZ : (s.and fun c k => parX ks f' c k) = Z) (hne : bd = false → Z ≠ .out) : DP Z i bd lg ts n j true lgj :=
 hd.exit hZ hne (fun e => by cases e)
theorem par_end (hd : DP s i bd lg ts n j false lgj) (hB : isB ks j false B.cls = true) (hZ : (s.and fun c k => parX ks f' c k) = Z) (hne : bd = false → Z ≠ .out) : DP Z i bd lg ts n (j + 1) false lgj := by
 obtain ⟨hl, _, hq⟩ := isB_lt (by decide) hB;obtain ⟨hb, hs⟩ := hd.next rfl;have hne' := hne hb;rcases hs with rfl | ⟨c, rfl⟩
 · exact absurd hZ.symm hne'
 · have hw : wantT ks B.cls j = .ok () (j + 1) := by unfold wantT; rw [if_pos hq]
   cases f' with
   | zero => exact absurd hZ.symm hne'
   | succ f3 =>
     have hZ2 : Z = .ok c (j + 1) := by
       rw [← hZ];show (if markT ks j = B.com then _ else (wantT ks B.cls j).and fun _ i => St.ok c i) = _
       rw [if_neg (fun h => absurd (hq.symm.trans h) (by decide)), hw];rfl
     rw [hZ2];obtain ⟨h1, h2, h3⟩ := hd;refine ⟨h1, fun e => (by rw [hb] at e; cases e), fun e => ?_⟩;obtain ⟨_, a2, a3, a4, a5⟩ := h3 e;exact ⟨rfl, a2, a3, a4, a5⟩
theorem par_round (hd : DP s i bd lg ts n j false lgj) (hB : isB ks j false B.cls = false) (hZ : (s.and fun c k => parX ks f' c k) = Z) (hne : bd = false → Z ≠ .out) :
   ∃ f3, f' = f3 + 1 ∧ (isB ks j false B.com = true → gP ks f3 .param (j + 1) ≠ .out) ∧ ∀ us k bdk lgk, DP (gP ks f3 .param (if isB ks j false B.com then j + 1 else j)) (if isB ks j false B.com then j + 1 else j) (if isB ks j false B.com then false else true) lgj us 1 k bdk lgk →
     ∃ s', DP s' i bd lg (ts ++ us) (n + 1) k bdk lgk ∧ (s'.and fun c k => parX ks f3 c k) = Z := by
 obtain ⟨hb, hs⟩ := hd.next rfl;have hne' := hne hb;have hm := isB_no hB;rcases hs with rfl | ⟨c, rfl⟩
 · exact absurd hZ.symm hne'
 · cases f' with
   | zero => exact absurd hZ.symm hne'
   | succ f3 =>
     have hZ2 : Z = if markT ks j = B.com then (wantT ks B.com j).and fun _ i => (gP ks f3 .param i).and fun d i => parX ks f3 (c.then d) i else (wantT ks B.cls j).and fun _ i => .ok c i := hZ.symm;refine ⟨f3, rfl, fun hq => ?_, fun us k bdk lgk hx => ?_⟩
     · obtain ⟨_, _, hq⟩ := isB_lt (by decide) hq
       rw [if_pos hq] at hZ2;unfold wantT at hZ2;rw [if_pos hq] at hZ2;exact fun h => hne' (by rw [hZ2]; show (gP ks f3 .param (j + 1)).and _ = _; rw [h]; rfl)
     · have hx2 : DP ((wantT ks B.com j).and fun _ i => gP ks f3 .param i) j false lgj us 1 k bdk lgk := DP.must_ahead (G := fun i => gP ks f3 .param i) hx
       refine ⟨_, hd.then (G := fun j => (wantT ks B.com j).and fun _ i => gP ks f3 .param i) hx2, ?_⟩;rw [hZ2];show ((((wantT ks B.com j).and fun _ i => gP ks f3 .param i).and fun d k => St.ok (c.then d) k)).and _ = _
       unfold wantT;by_cases hq : markT ks j = B.com
       · rw [if_pos hq, if_pos hq]
         show ((gP ks f3 .param (j + 1)).and fun d k => St.ok (c.then d) k).and _ = (gP ks f3 .param (j + 1)).and _
         generalize gP ks f3 .param (j + 1) = X;cases X <;> rfl
       · rw [if_neg hq, if_neg hq, if_neg hm]
         rfl
theorem par_one (f : Nat) (htx : ∀ i, (tkAt ks i).text.length ≤ 9223372036854775807) (hf : bd = false → gP ks f .param i ≠ .out) : DP (gP ks f .param i) i bd lg [⟨2, 0, 0, if mineB ks i bd then (tkAt ks i).text else []⟩] 1 (if mineB ks i bd then i + 1 else i) (if mineB ks i bd then bd else true) lg := by
 have h := DP.own_ahead (ks := ks) (i := i) (bd := bd) (lg := lg) (ts := [⟨2, 0, 0, if mineB ks i bd then (tkAt ks i).text else []⟩]) (n := 1) (i2 := if mineB ks i bd then i + 1 else i) (bd2 := if mineB ks i bd then bd else true) (lg2 := lg) (G := fun nm i => .ok (Ch.none.under 2 0 nm) i) (by
   refine ⟨⟨fun e => e, fun x hx => ?_⟩, fun e => ⟨rfl, e⟩, fun e => ?_⟩
   · rw [List.mem_singleton] at hx
     rw [hx];refine ⟨show (2 : Nat) < 256 by decide, ?_⟩;have hq := htx i;show (if mineB ks i bd then (tkAt ks i).text else []).length ≤ 9223372036854775807
     cases mineB ks i bd
     · exact Nat.zero_le _
     · exact hq
   exact ⟨rfl, e, rfl, fun _ => .inl rfl, fun e => .inl e⟩)
 refine h.of_eq (fun e => ?_);have hf := hf e;cases f with
 | zero => exact absurd rfl hf
 | succ f => rfl
end
end Go.Proofs.YtngbekhegnmfaaaGreatDoor
namespace Go.Proofs.YtngbekhegnmfaaaGreatDoor
open Go.RowKit Go.Shelf Tok
section
variable {R cap : Nat} {a : Option Addr} {ks : List Tk}
def flowX (ks : List Tk) (Bk : Nat → St Ch) (f : Nat) (nm : List UInt8) (i : Nat) : St Ch := ((wantT ks B.opn i).and fun _ j => parR ks f j).and fun ps i => (Bk i).and fun b i => .ok ((ps.then b).under 1 0 nm) i
set_option maxRecDepth 20000 in
set_option maxHeartbeats 6000000 in
theorem dflow_any {Bk : Nat → St Ch} (f : Nat) (hf : f ≤ 1000000000) (hk9 : ks.length ≤ 90000) (hBk : DDoes 87 (dp R) Bk R a cap ks) :
   DDoes 44 (dp R) (fun i => (wantT ks B.flow i).and fun _ i => (ownT ks i).and (flowX ks Bk f)) R a cap ks := by
 intro w i bd lg h hne;dsimp only at hne ⊢;have hRl := h.lt;have hfar := Lib.hid h.far;have k1 := Lib.hid (must_any h (show B.flow ≠ [] by decide));have hne1 := want_ne (G := fun i => (ownT ks i).and (flowX ks Bk f)) (by decide) hne;have hF1 := fun (ts : List Tw) (i2 : Nat) (bd2 lg2 : Bool) => DP.must_ahead (ks := ks) (i := i) (bd := bd) (lg := lg) (ts := ts) (n := 1) (i2 := i2) (bd2 := bd2) (lg2 := lg2) (w := B.flow) (G := fun i => (ownT ks i).and (flowX ks Bk f))
 obtain ⟨i1, hi1⟩ := exHid (if isB ks i bd B.flow then i + 1 else i);obtain ⟨b1, hb1⟩ := exHid (if isB ks i bd B.flow then bd else true);rw [hi1.out, hb1.out] at k1 hne1;simp only [hi1.out, hb1.out] at hF1;have k2 := Lib.hid (fun (W : World) (h : SR W R a cap ks i1 b1 lg) => refOwn9_any h);have hne2 := own_ne (G := flowX ks Bk f) hne1;have hF2 := fun (ts : List Tw) (i2 : Nat) (bd2 lg2 : Bool) => DP.own_ahead (ks := ks) (i := i1) (bd := b1) (lg := lg) (ts := ts) (n := 1) (i2 := i2) (bd2 := bd2) (lg2 := lg2) (G := flowX ks Bk f)
 have hnl : (if mineB ks i1 b1 then (tkAt ks i1).text else []).length ≤ 9223372036854775807 := by
   have hq := h.text i1;cases mineB ks i1 b1
   · exact Nat.zero_le _
   · exact hq
 have htx := h.text;replace htx := Lib.hid htx;obtain ⟨nm, hnm⟩ := exHid (if mineB ks i1 b1 then (tkAt ks i1).text else []);rw [hnm.out] at hnl;replace hnl := Lib.hid hnl;obtain ⟨i2, hi2⟩ := exHid (if mineB ks i1 b1 then i1 + 1 else i1);obtain ⟨b2, hb2⟩ := exHid (if mineB ks i1 b1 then b1 else true);rw [hnm.out, hi2.out, hb2.out] at k2 hne2;simp only [hnm.out, hi2.out, hb2.out] at hF2;unfold flowX at hne2;have k3 := Lib.hid (fun (W : World) (h : SR W R a cap ks i2 b2 lg) => must_any h (show B.opn ≠ [] by decide));have hne3 := want_ne (ks := ks) (i := i2) (bd := b2) (G := fun j => parR ks f j) (m := B.opn) (by decide) (fun e => and_out (hne2 e));have hF3 := fun (ts : List Tw) (n : Int) (i3 : Nat) (bd2 lg2 : Bool) => DP.must_ahead (ks := ks) (i := i2) (bd := b2) (lg := lg) (ts := ts) (n := n) (i2 := i3) (bd2 := bd2) (lg2 := lg2) (w := B.opn) (G := fun j => parR ks f j)
 obtain ⟨i3, hi3⟩ := exHid (if isB ks i2 b2 B.opn then i2 + 1 else i2);obtain ⟨b3, hb3⟩ := exHid (if isB ks i2 b2 B.opn then b2 else true);rw [hi3.out, hb3.out] at k3 hne3;simp only [hi3.out, hb3.out] at hF3;obtain ⟨U, hU0⟩ := exHid ((wantT ks B.flow i).and fun _ i => (ownT ks i).and (flowX ks Bk f));rw [hU0.out] at hF1 ⊢;have hFin : ∀ ts n k bk lk, DP (parR ks f i3) i3 b3 lg ts n k bk lk → (bk = false → Bk k ≠ .out) ∧ ∀ us k5 b5 l5, DP (Bk k) k bk lk us 1 k5 b5 l5 → DP U i bd lg (topL ⟨1, n + 1, 0, nm⟩ (ts ++ us)) 1 k5 b5 (l5 || decide (2048 ≤ (ts ++ us).length)) := by
   intro ts n k bk lk hd;have hd1 := hF3 ts n k bk lk hd;refine ⟨fun e => ?_, fun us k5 b5 l5 hd5 => ?_⟩
   · obtain ⟨c, _, hc⟩ := hd1.next_ne (X := fun ps i => (Bk i).and fun b i => St.ok ((ps.then b).under 1 0 nm) i) hne2 e
     exact and_out hc
   · refine hF1 _ _ _ _ (hF2 _ _ _ _ ?_)
     have := (hd1.then (G := Bk) hd5).top 1 0 nm ⟨by decide, hnl.out⟩;rw [two_eq] at this;exact this
 clear hF1 hF2 hF3 hne hne1 hne2 hi1 hb1 hnm hi2 hb2 hi3 hb3 hU0;have kH := Lib.hid (fun (W : World) (h : SR W R a cap ks i3 b3 lg) => has_any h (show B.cls ≠ [] by decide));have kO := Lib.hid (fun (W : World) (j : Nat) (bj lj : Bool) (h : SR W R a cap ks j bj lj) => refOwn9_any h);replace hFin := Lib.hid hFin;replace hne3 := Lib.hid hne3;replace hBk := Lib.hid hBk;unfold B.flow at k1;unfold B.opn at k3;have hkl := h.kl;clear h;unfold dp;go_enter Tryz.func44, Tryz.ntmps44
 go_wp2_with fail
 refine k1.out.mono ?_;rintro e' w1 ⟨rfl, hs1, ho1⟩;go_wp2_with fail
 refine (k2.out _ hs1).mono ?_;rintro e' w2 ⟨rfl, hs2, ho2⟩;go_wp2_with fail
 refine (k3.out _ hs2).mono ?_;rintro e' w3 ⟨rfl, hs3, ho3⟩;have hoA := Lib.hid ((ho1.then ho2).then ho3);clear k1 k2 k3 hs1 hs2 ho1 ho2 ho3;cases hB : isB ks i3 b3 B.cls with
 | true =>
   obtain ⟨_, rfl, hq⟩ := isB_lt (by decide) hB;have hP : parR ks f i3 = .ok Ch.none (i3 + 1) := by
     unfold parR;rw [if_pos hq];unfold wantT;rw [if_pos hq];rfl
   have hd : DP (parR ks f i3) i3 false lg [] 0 (i3 + 1) false lg := by
     rw [hP];exact (DP.ok (c := Ch.none) (i := i3) rfl rfl).shift
   obtain ⟨hnB, hU⟩ := hFin.out [] 0 (i3 + 1) false lg hd;replace hnB := Lib.hid hnB;replace hU := Lib.hid hU;rw [hB] at kH;simp only [↓reduceIte] at kH;unfold B.cls at kH;clear hB hq hP hd hne3 hFin kO;go_wp2_with fail
   refine (kH.out _ hs3).mono ?_;rintro e' w4 ⟨rfl, hs4, ho4⟩;have hoB := hoA.out.then ho4;have hv4 : TwsAt w4 w.heap.size (.slice none 0 0) [] := World.ownsRow_nil _ _ _ _;clear kH hs3 hoA ho4;have kB := Lib.hid (fun (W' : World) (hW : SR W' R a cap ks (i3 + 1) false lg) => hBk.out W' (i3 + 1) false lg hW (by first | exact hnB.out | exact fun _ => hnB.out trivial));unfold dp at kB;clear hBk;go_wp2_with fail
   refine (kB.out _ ?_).mono ?_
   · first | exact hs4 | exact hs4.below (Below.refl _ _).drew
   rintro e' z1 ⟨v5, us, k5, b5, l5, rfl, hu, hl5, hd5, hs5, ho5⟩;obtain ⟨vu, vcu, rfl, _, _⟩ := id hu.shape;have hdE := Lib.hid (hU.out us k5 b5 l5 hd5);have hzW : w.heap.size ≤ w4.heap.size := hoB.size;have hz5 := ho5.size;have hvA := Lib.hid (hv4.step hRl ho5);have hoA := Lib.hid (hoB.then ho5);replace hu := Lib.hid hu;replace hs5 := Lib.hid hs5;clear kB hd5 ho5;go_wp2_with (at_builtin; (refine wpList_append_twx (base := w.heap.size) rfl _ _ rfl rfl hvA.out rfl hu.out (by first | simp | omega) (by omega) (by omega) ?_; intro v9 w9 hA hB9))
   obtain ⟨va9, vc9, rfl, _, _⟩ := id hA.shape;have hs9 := Lib.hid (hs5.out.low hB9 hRl hfar.out);have ho9 := Lib.hid (onlyB hoA.out hB9 (Nat.le_refl _));have hlen : ([] ++ us).length = (([] : List Tw)).length + us.length := List.length_append;have hlen2 : ([] ++ us).length ≤ 100000 := by (rw [hlen]; first | omega | (simp only [List.length_nil]; omega))
   clear hlen;have hz9 := hB9.size;have kT := Lib.hid (top_any hs9.out 1 0 (1) 0 nm hA hlen2);clear hvA hu hs5 hoA hA hB9;go_wp2_with fail
   refine kT.out.mono ?_;rintro e' z5 ⟨v7, rfl, hv7, hs7, ho7⟩;go_wp2_with fail
   go_ret
   exact ⟨_, _, _, _, _, rfl, hv7.low9 (by omega), topL_len _ _ hlen2, hdE.out, hs7, ho9.out.then ho7⟩
 | false =>
   obtain ⟨Z, hZ⟩ := exHid ((gP ks f .param i3).and fun c k => parX ks f c k);have hP : b3 = false → parR ks f i3 = Z := by
     intro e;subst e;unfold parR;rw [if_neg (isB_no hB)];exact hZ.out
   have hneZ : b3 = false → Z ≠ .out := fun e => by rw [← hP e]; exact hne3.out e
   have hdP := par_one (ks := ks) (i := i3) (bd := b3) (lg := lg) f htx.out (fun e => and_out (by rw [hZ.out]; exact hneZ e));have hFin2 : ∀ ts n k bk lk, DP Z i3 b3 lg ts n k bk lk → (bk = false → Bk k ≠ .out) ∧ ∀ us k5 b5 l5, DP (Bk k) k bk lk us 1 k5 b5 l5 → DP U i bd lg (topL ⟨1, n + 1, 0, nm⟩ (ts ++ us)) 1 k5 b5 (l5 || decide (2048 ≤ (ts ++ us).length)) := fun ts n k bk lk hd => hFin.out ts n k bk lk (hd.of_eq (fun e => (hP e).symm));have k4 := Lib.hid (fun (W : World) (h : SR W R a cap ks i3 b3 lg) => kO.out W i3 b3 lg h);obtain ⟨p, hp⟩ := exHid (if mineB ks i3 b3 then (tkAt ks i3).text else []);obtain ⟨i4, hi4⟩ := exHid (if mineB ks i3 b3 then i3 + 1 else i3);obtain ⟨b4, hb4⟩ := exHid (if mineB ks i3 b3 then b3 else true);rw [hp.out, hi4.out, hb4.out] at k4 hdP;have kH2 := Lib.hid (fun (W : World) (j : Nat) (bj lj : Bool) (h : SR W R a cap ks j bj lj) => has_any h (show B.cls ≠ [] by decide));rw [hB] at kH;simp only [Bool.false_eq_true, ↓reduceIte] at kH;unfold B.cls at kH;replace hFin2 := Lib.hid hFin2;replace hneZ := Lib.hid hneZ;replace hdP := Lib.hid hdP;clear hB hP hne3 hFin hp hi4 hb4;go_wp2_with fail
   refine (kH.out _ hs3).mono ?_;rintro e' w4 ⟨rfl, hs4, ho4⟩;have hoB := Lib.hid (hoA.out.then ho4);clear kH hs3 hoA ho4;go_wp2_with fail
   refine (k4.out _ hs4).mono ?_;rintro e' w5 ⟨rfl, hs5, ho5⟩;have hoC := hoB.out.then ho5;have hvN : TwsAt w5 w.heap.size (.slice none 0 0) [] := World.ownsRow_nil _ _ _ _;clear k4 hs4 hoB ho5;have hal := (Below.refl w5.heap.size w5).alloc (Nat.le_refl _) (.cells #[.int .u8 2, .int .i64 0, .int .i64 0, .string ⟨p.toArray⟩] 29);have hx := Lib.hid (tws_head w5 ⟨2, 0, 0, p⟩ #[.int .u8 2, .int .i64 0, .int .i64 0, .string ⟨p.toArray⟩] rfl);have hvx := Lib.hid (hvN.below hal);have hsx := Lib.hid (hs5.below hal);have hox := Lib.hid (hoC.then (Only.of_below hal));have hzx : (w5.alloc (.cells #[.int .u8 2, .int .i64 0, .int .i64 0, .string ⟨p.toArray⟩] 29)).heap.size = w5.heap.size + 1 := by simp
   have hzo := hoC.size;replace hzx := Lib.hid hzx;clear hal;go_wp2_with (at_builtin; (refine wpList_append_twx (base := w.heap.size) rfl _ _ rfl rfl hvx.out rfl hx.out (by simp) (by simp) (by rw [hzx.out]; omega) ?_; intro v9 w9 hA hB9))
   have hsE := Lib.hid (hsx.out.low hB9 hRl hfar.out);have hoE := Lib.hid (onlyB hox.out hB9 (Nat.le_refl _));replace hA := Lib.hid hA;have hlE : ([⟨2, 0, 0, p⟩] : List Tw).length ≤ i4 + 1 + b4.toNat := by simp; omega
   replace hlE := Lib.hid hlE;clear hx hvx hsx hox hB9 hs5 hoC hvN hzx hzo;go_loopw [4, 5] (fun t4 t5 wr => ∃ (s : St Ch) (f' n j : Nat) (bdj lgj : Bool) (ts : List Tw), t5 = .int .i64 n ∧ f' + n = f + 1 ∧ 1 ≤ n ∧ Hid (ts.length ≤ j + 1 + bdj.toNat) ∧ Hid ((s.and fun c k => parX ks f' c k) = Z) ∧ Hid (DP s i3 b3 lg ts n j bdj lgj) ∧ Hid (SR wr R a cap ks j bdj lgj) ∧ Hid (TwsAt wr w.heap.size t4 ts) ∧ Hid (Only (fun k => k = R) w wr)) (fun _ t5 _ => f + 1 - (intOf t5).toNat)
   case atStart => exact ⟨gP ks f .param i3, f, 1, i4, b4, lg, [⟨2, 0, 0, p⟩], by go_num, rfl, Nat.le_refl _, hlE, hZ, hdP, hsE, hA, hoE⟩
   case round =>
     clear hlE hZ hdP hsE hA hoE;obtain ⟨s, f', n, j, bdj, lgj, ts, rfl, hfn, hn1, hl, hZ, hd, hs, hv, ho⟩ := hrel;obtain ⟨va, vc, rfl, _, _⟩ := id hv.out.shape;have hwz := ho.out.size;have c2 := hs.out.c2;have hb0 := fun m => Lib.hid (below_dn (Below.refl wr.heap.size wr) m)
     have hjl := hs.out.le;cases bdj with
     | true =>
       have hl2 : ts.length ≤ 90002 := by have := hl.out; simp only [Bool.toNat_true] at this; omega
       obtain ⟨hnB, hU⟩ := hFin2.out ts n j true lgj (par_bad hd.out hZ.out hneZ.out);replace hnB := Lib.hid hnB;replace hU := Lib.hid hU;have hsQ := hs.out;have hvQ := hv.out;have hoQ := ho.out;replace hsQ := Lib.hid hsQ;replace hvQ := Lib.hid hvQ;replace hoQ := Lib.hid hoQ;have kB := Lib.hid (fun (W' : World) (hW : SR W' R a cap ks j true lgj) => hBk.out W' j true lgj hW (by first | exact hnB.out | exact fun _ => hnB.out trivial));unfold dp at kB;clear hBk;go_wp2_with fail
       refine (kB.out _ ?_).mono ?_
       · first | exact hsQ.out | exact hsQ.out.below (Below.refl _ _).drew
       rintro e' z1 ⟨v5, us, k5, b5, l5, rfl, hu, hl5, hd5, hs5, ho5⟩;obtain ⟨vu, vcu, rfl, _, _⟩ := id hu.shape;have hdE := Lib.hid (hU.out us k5 b5 l5 hd5);have hzW : w.heap.size ≤ wr.heap.size := hoQ.out.size;have hz5 := ho5.size;have hvA := Lib.hid (hvQ.out.step hRl ho5);have hoA := Lib.hid (hoQ.out.then ho5);replace hu := Lib.hid hu;replace hs5 := Lib.hid hs5;clear kB hd5 ho5;go_wp2_with (at_builtin; (refine wpList_append_twx (base := w.heap.size) rfl _ _ rfl rfl hvA.out rfl hu.out (by omega) (by omega) (by omega) ?_; intro v9 w9 hA hB9))
       obtain ⟨va9, vc9, rfl, _, _⟩ := id hA.shape;have hs9 := Lib.hid (hs5.out.low hB9 hRl hfar.out);have ho9 := Lib.hid (onlyB hoA.out hB9 (Nat.le_refl _));have hlen : (ts ++ us).length = (ts).length + us.length := List.length_append;have hlen2 : (ts ++ us).length ≤ 100000 := by (rw [hlen]; first | omega | (simp only [List.length_nil]; omega))
       clear hlen;have hz9 := hB9.size;have kT := Lib.hid (top_any hs9.out 1 0 ((n : Int) + 1) 0 nm hA hlen2);clear hvA hu hs5 hoA hA hB9;go_wp2_with fail
       refine kT.out.mono ?_;rintro e' z5 ⟨v7, rfl, hv7, hs7, ho7⟩;go_wp2_with fail
       go_ret
       exact ⟨_, _, _, _, _, rfl, hv7.low9 (by omega), topL_len _ _ hlen2, hdE.out, hs7, ho9.out.then ho7⟩
     | false =>
       have hl2 : ts.length ≤ j + 1 := by have := hl.out; simpa using this
       cases hB : isB ks j false B.cls with
       | true =>
         obtain ⟨hnB, hU⟩ := hFin2.out ts n (j + 1) false lgj (par_end hd.out hB hZ.out hneZ.out);replace hnB := Lib.hid hnB;replace hU := Lib.hid hU;have k5 := Lib.hid (fun (W : World) (hW : Below wr.heap.size wr W) => kH2.out W j false lgj (hs.out.below hW));rw [hB] at k5;simp only [↓reduceIte] at k5;unfold B.cls at k5;clear hB hd hFin2 hneZ hZ kH2 kO;go_wp2_with fail
         refine (k5.out _ ?_).mono ?_
         · first | exact Below.refl _ _ | exact (hb0 _).out | exact (Below.refl _ _).drew
         rintro e' y1 ⟨rfl, hsQ, hoN⟩;have hoQ := Lib.hid (show Only (fun k => k = R) w y1 from (ho.out.then (Only.of_below (by first | exact Below.refl _ _ | exact (hb0 _).out | exact (Below.refl _ _).drew))).then hoN);have hvQ := Lib.hid (show TwsAt y1 w.heap.size (.slice va ts.length vc) ts from (hv.out.below (by first | exact Below.refl _ _ | exact (hb0 _).out | exact (Below.refl _ _).drew)).step hRl hoN);clear k5 hoN hs hv ho c2 hb0;have kB := Lib.hid (fun (W' : World) (hW : SR W' R a cap ks (j + 1) false lgj) => hBk.out W' (j + 1) false lgj hW (by first | exact hnB.out | exact fun _ => hnB.out trivial));unfold dp at kB;clear hBk;go_wp2_with fail
         refine (kB.out _ ?_).mono ?_
         · first | exact hsQ | exact hsQ.below (Below.refl _ _).drew
         rintro e' z1 ⟨v5, us, k5, b5, l5, rfl, hu, hl5, hd5, hs5, ho5⟩;obtain ⟨vu, vcu, rfl, _, _⟩ := id hu.shape;have hdE := Lib.hid (hU.out us k5 b5 l5 hd5);have hzW : w.heap.size ≤ y1.heap.size := hoQ.out.size;have hz5 := ho5.size;have hvA := Lib.hid (hvQ.out.step hRl ho5);have hoA := Lib.hid (hoQ.out.then ho5);replace hu := Lib.hid hu;replace hs5 := Lib.hid hs5;clear kB hd5 ho5;go_wp2_with (at_builtin; (refine wpList_append_twx (base := w.heap.size) rfl _ _ rfl rfl hvA.out rfl hu.out (by omega) (by omega) (by omega) ?_; intro v9 w9 hA hB9))
         obtain ⟨va9, vc9, rfl, _, _⟩ := id hA.shape;have hs9 := Lib.hid (hs5.out.low hB9 hRl hfar.out);have ho9 := Lib.hid (onlyB hoA.out hB9 (Nat.le_refl _));have hlen : (ts ++ us).length = (ts).length + us.length := List.length_append;have hlen2 : (ts ++ us).length ≤ 100000 := by (rw [hlen]; first | omega | (simp only [List.length_nil]; omega))
         clear hlen;have hz9 := hB9.size;have kT := Lib.hid (top_any hs9.out 1 0 ((n : Int) + 1) 0 nm hA hlen2);clear hvA hu hs5 hoA hA hB9;go_wp2_with fail
         refine kT.out.mono ?_;rintro e' z5 ⟨v7, rfl, hv7, hs7, ho7⟩;go_wp2_with fail
         go_ret
         exact ⟨_, _, _, _, _, rfl, hv7.low9 (by omega), topL_len _ _ hlen2, hdE.out, hs7, ho9.out.then ho7⟩
       | false =>
         obtain ⟨f3, rfl, hn3, hr⟩ := par_round hd.out hB hZ.out hneZ.out;have k5 := Lib.hid (fun (W : World) (hW : Below wr.heap.size wr W) => kH2.out W j false lgj (hs.out.below hW));rw [hB] at k5;simp only [Bool.false_eq_true, ↓reduceIte] at k5;unfold B.cls at k5;have kM := Lib.hid (fun (W : World) (h : SR W R a cap ks j false lgj) => must_any h (show B.com ≠ [] by decide));obtain ⟨j2, hj2⟩ := exHid (if isB ks j false B.com then j + 1 else j);obtain ⟨b2', hb2'⟩ := exHid (if isB ks j false B.com then false else true);have hn4 : b2' = false → gP ks f3 .param j2 ≠ .out := by
           intro h;rw [← hb2'.out] at h;have hq : isB ks j false B.com = true := by
             cases hq : isB ks j false B.com with
             | true => rfl
             | false => rw [hq] at h; cases h
           rw [← hj2.out, hq];exact hn3 hq
         have hjj : j + 1 ≤ j2 + b2'.toNat := by
           rw [← hj2.out, ← hb2'.out];cases isB ks j false B.com <;> simp
         rw [hj2.out, hb2'.out] at kM hr;unfold B.com at kM;have hdQ := par_one (ks := ks) (i := j2) (bd := b2') (lg := lgj) f3 htx.out hn4;have k6 := Lib.hid (fun (W : World) (h : SR W R a cap ks j2 b2' lgj) => kO.out W j2 b2' lgj h);have hjk : j2 + b2'.toNat ≤ (if mineB ks j2 b2' then j2 + 1 else j2) + (if mineB ks j2 b2' then b2' else true).toNat := by
           cases hm : mineB ks j2 b2' with
           | true => first | (simp; done) | (simp; omega)
           | false => cases b2' <;> simp
         obtain ⟨q, hq⟩ := exHid (if mineB ks j2 b2' then (tkAt ks j2).text else []);obtain ⟨j3, hj3⟩ := exHid (if mineB ks j2 b2' then j2 + 1 else j2);obtain ⟨b3', hb3'⟩ := exHid (if mineB ks j2 b2' then b2' else true);rw [hq.out, hj3.out, hb3'.out] at k6 hdQ;rw [hj3.out, hb3'.out] at hjk;obtain ⟨s', hd', hZ'⟩ := hr _ _ _ _ hdQ;have hl3 : Hid ((ts ++ ([⟨2, 0, 0, q⟩] : List Tw)).length ≤ j3 + 1 + b3'.toNat) := Lib.hid (by rw [List.length_append]; simp only [List.length_cons, List.length_nil]; omega);replace hd' := Lib.hid hd';replace hZ' := Lib.hid hZ';clear hB hd hn3 hr hn4 hj2 hb2' hdQ hq hj3 hb3' hjj hjk;go_wp2_with fail
         refine (k5.out _ ?_).mono ?_
         · first | exact Below.refl _ _ | exact (hb0 _).out | exact (Below.refl _ _).drew
         rintro e' y1 ⟨rfl, hsQ, hoN⟩;have hoQ := Lib.hid (show Only (fun k => k = R) w y1 from (ho.out.then (Only.of_below (by first | exact Below.refl _ _ | exact (hb0 _).out | exact (Below.refl _ _).drew))).then hoN);have hvQ := Lib.hid (show TwsAt y1 w.heap.size (.slice va ts.length vc) ts from (hv.out.below (by first | exact Below.refl _ _ | exact (hb0 _).out | exact (Below.refl _ _).drew)).step hRl hoN);replace hsQ := Lib.hid hsQ;clear k5 hoN hs hv ho c2 hb0;go_wp2_with fail
         refine (kM.out _ ?_).mono ?_
         · first | exact hsQ.out | exact hsQ.out.below (Below.refl _ _).drew
         rintro e' y2 ⟨rfl, hs5, ho5⟩;have hvR := Lib.hid (show TwsAt y2 w.heap.size (.slice va ts.length vc) ts from hvQ.out.step hRl ho5);have hoR := Lib.hid (hoQ.out.then ho5);clear kM hvQ hoQ ho5 hsQ;go_wp2_with fail
         refine (k6.out _ ?_).mono ?_
         · first | exact hs5 | exact hs5.below (Below.refl _ _).drew
         rintro e' y3 ⟨rfl, hs6, ho6⟩;have hvS := hvR.out.step hRl ho6;have hoS := hoR.out.then ho6;clear k6 hvR hoR ho6 hs5;have hal := (Below.refl y3.heap.size y3).alloc (Nat.le_refl _) (.cells #[.int .u8 2, .int .i64 0, .int .i64 0, .string ⟨q.toArray⟩] 29);have hx := Lib.hid (tws_head y3 ⟨2, 0, 0, q⟩ #[.int .u8 2, .int .i64 0, .int .i64 0, .string ⟨q.toArray⟩] rfl);have hvx := Lib.hid (hvS.below hal);have hsx := Lib.hid (hs6.below hal);have hox := Lib.hid (hoS.then (Only.of_below hal));have hzx : (y3.alloc (.cells #[.int .u8 2, .int .i64 0, .int .i64 0, .string ⟨q.toArray⟩] 29)).heap.size = y3.heap.size + 1 := by simp
         have hzo := hoS.size;replace hzx := Lib.hid hzx;clear hal;go_wp2_with (at_builtin; (refine wpList_append_twx (base := w.heap.size) rfl _ _ rfl rfl hvx.out rfl hx.out (by omega) (by simp) (by rw [hzx.out]; omega) ?_; intro v9 w9 hA hB9))
         have hsE := Lib.hid (hsx.out.low hB9 hRl hfar.out);have hoE := Lib.hid (onlyB hox.out hB9 (Nat.le_refl _));replace hA := Lib.hid hA;clear hx hvx hsx hox hB9 hs6 hoS hvS hzx hzo;go_roundw
         case rel => exact ⟨s', f3, n + 1, j3, b3', _, _, by go_num, by omega, by omega, hl3, hZ', hd', hsE, hA, hoE⟩
         case measure => simp [intOf]; omega
end
end Go.Proofs.YtngbekhegnmfaaaGreatDoor
namespace Go.Proofs.YtngbekhegnmfaaaGreatDoor
open Go.RowKit Go.Shelf Tok
section
variable {R cap : Nat} {a : Option Addr} {ks : List Tk}
theorem flow_all (hW : WordsOK ks) (hk9 : ks.length ≤ 90000) (f : Nat) (hf : f + 1 ≤ 1000000000) : DDoes 44 (dp R) (gP ks (f + 2) .flow) R a cap ks :=
 (dflow_any f (by omega) hk9 (dAll hW (f + 1) hf).block).eq (fun _ => rfl)
theorem expr_all (hW : WordsOK ks) (f : Nat) (hf : f ≤ 1000000000) : DDoes 45 (dp R) (gP ks f .expr) R a cap ks := (dAll hW f hf).expr
end
end Go.Proofs.YtngbekhegnmfaaaGreatDoor
