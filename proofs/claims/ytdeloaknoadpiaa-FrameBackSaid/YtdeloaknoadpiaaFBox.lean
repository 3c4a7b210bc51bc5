/- A range over a function whose function keeps one box of its own (a captured variable that it writes between two rounds): what the function owes, and what the loop comes to. No program stands in it, no condition. -/
import Derived.RangeFuncNested
import Derived.RangeFuncBound
import Derived.RangeFuncCalls
import Derived.RangeFuncLeaves
import Derived.RangeFuncWrites
import Derived.Below
namespace Go.Proofs.Ytdeloaknoadpiaa
open Go.RowKit
variable {F : Fence} {n : Nat} {P : Program}

/-- A block is a box: one cell, not frozen. -/
def IsBox (W : World) (B : Nat) : Prop := ∃ (v : Value) (t : TypeId), W.heap[B]? = some (.cells #[v] t (0, 0))

/-- What the function owes: whatever abides new blocks, walks, and a store into its box, is carried from round to round. -/
def SeqBox {α : Type} (F : Fence) (n : Nat) (P : Program) (g : Nat) (lb : Array Value) (encs : α → Array Value) (Kp : World → World → Prop) (B : Nat) (S Sp : List α → Prop) (N : Nat) (w : World) : Prop :=
  ∀ (l : Nat) (J Jx : List α → World → Prop) (W : World), Below w.heap.size w W → AbidesFrom W.heap.size J → AbidesFrom W.heap.size Jx →
    (∀ pre A u, J pre A → IsBox A B → J pre (A.setCell ⟨B, 0, none⟩ u)) →
    (∀ pre x A, J pre A → pre.length < N → YieldAt F (n - 1) P l (encs x) A fun e A' => (e = .returned (.bool true) ∧ J (pre ++ [x]) A' ∧ Kp A A') ∨ (e = .returned (.bool false) ∧ Jx (pre ++ [x]) A')) →
    J [] W → CallsIn F n P g (#[.func (.yield l) #[] #[]] ++ lb) W fun e W' => (∃ v, e = .returned v) ∧ ((∃ xs, S xs ∧ J xs W') ∨ (∃ pre, Sp pre ∧ Jx pre W'))

/-- The loop's two blocks of book-keeping. -/
structure Books (D : Nat) (r : Loop) (W : World) : Prop where
  loop : W.heap[D + 1]? = some (.loop r)
  defs : W.heap[D]? = some (.deferred (some []))
theorem Books.same {D : Nat} {r : Loop} {W W' : World} (h : Books D r W) (h1 : W'.heap[D + 1]? = W.heap[D + 1]?) (h2 : W'.heap[D]? = W.heap[D]?) : Books D r W' := ⟨h1.trans h.loop, h2.trans h.defs⟩
theorem Books.grown {D : Nat} {r : Loop} {W W' : World} {row : Option Nat} (h : Books D r W) (hg : W.grownBy W' row) (hr : ∀ q, row = some q → ∃ o : Obj, W.heap[q]? = some o ∧ o.isWalk = true) : Books D r W' :=
  h.same (grownBy_keeps hg hr h.loop rfl) (grownBy_keeps hg hr h.defs rfl)
theorem Books.box {D B : Nat} {r : Loop} {W : World} (h : Books D r W) (hb : IsBox W B) (u : Value) : Books D r (W.setCell ⟨B, 0, none⟩ u) := by
  obtain ⟨v, t, hv⟩ := hb
  refine h.same (Below.heap_setCell _ _ _ _ ?_) (Below.heap_setCell _ _ _ _ ?_)
  · intro e; have := h.loop; rw [e, hv] at this; cases this
  · intro e; have := h.defs; rw [e, hv] at this; cases this
theorem Books.keeps {D Q : Nat} {r : Loop} {W W' : World} (h : Books D r W) (hk : KeepsFrom Q W W') (hD : Q ≤ D) : Books D r W' :=
  ⟨hk.same _ _ (by omega) h.loop rfl, hk.same _ _ hD h.defs rfl⟩
theorem Books.put {D : Nat} {r : Loop} {W : World} (h : Books D r W) (r' : Loop) : Books D r' (W.putObj (D + 1) (.loop r')) :=
  ⟨World.putObj_heap_same (Array.getElem?_eq_some_iff.1 h.loop).1, (World.putObj_heap_other (by omega)).trans h.defs⟩

/-- The loop, where its body goes on or returns. -/
theorem wpIn_rangeFunc_box {α : Type} {g : Operand} {ps : Array Tmp} {assign body : Code} {Q : Exit → Act → World → Prop} {a : Act} {w : World}
    (hro : F.round = none) (h1 : 1 ≤ n) {gf : Nat} {lb : Array Value} (hg : a.eval g = .func (.func gf) #[] lb) (hFg : F.fn gf) (eg : ∀ args w, (callFunc gf args).run P w = .ok (.enter gf args) w)
    {encs : α → Array Value} {Kp : World → World → Prop} {B : Nat} {S Sp : List α → Prop} {N : Nat} {w0 : World} (hseq : SeqBox F (n - 1) P gf lb encs Kp B S Sp N w0)
    (hKt : ∀ {A B C : World}, Kp A B → Kp B C → Kp A C) (hKb : ∀ (W : World) (l : Nat) (o o' : Obj), w.heap.size ≤ l → W.heap[l]? = some o → o.isCells = false → o.isWalk = false → Kp W (W.putObj l o')) (hb0 : Below w0.heap.size w0 w) (hps : ∀ x, (encs x).size = ps.size)
    (I Ix : List α → World → Prop) (hI : OwnFrom w.heap.size I) (hIx : OwnFrom w.heap.size Ix) (hIB : ∀ pre A u, I pre A → IsBox A B → I pre (A.setCell ⟨B, 0, none⟩ u)) (h0 : I [] w) (a₁ : α → Act)
    (hassign : ∀ (l : Nat) (x : α) (W : World) (K : Act → World → Prop), K (a₁ x) W →
      assign.wpIn (F.inRound l) (n - 1 - 1) P (Exit.then K (fun _ _ _ => False)) { tmps := (ps.zip (encs x)).foldl (fun t (p, v) => t.setIfInBounds p v) a.tmps, defers := [] } W)
    (hbody : ∀ (l : Nat) (pre : List α) (x : α) (W : World), I pre W → pre.length < N → body.wpIn (F.inRound l) (n - 1 - 1) P (ownPostG w.heap.size Kp I (fun c pre W => c = .ret ∧ Ix pre W) (pre ++ [x]) W) (a₁ x) W)
    (hdone : ∀ (D : Nat) (xs : List α) (W : World), w.heap.size ≤ D → S xs → I xs W → W.heap[D]? = some (.deferred (some [])) → Q .normal { a with defers := { target := .collected D, args := #[] } :: a.defers } W)
    (hstop : ∀ (D : Nat) (pre : List α) (W : World), w.heap.size ≤ D → Sp pre → Ix pre W → W.heap[D]? = some (.deferred (some [])) → Code.ret.wpIn F n P Q { a with defers := { target := .collected D, args := #[] } :: a.defers } W) :
    (Code.rangeFunc g ps assign body).wpIn F n P Q a w := by
  refine wpIn_rangeFunc fun fn hfn => ?_
  rw [hro]
  obtain ⟨D, hD⟩ : ∃ D, w.heap.size = D := ⟨_, rfl⟩
  obtain ⟨R, hR⟩ : ∃ R : LoopState → Option Code → Loop, ∀ st pe, R st pe = { state := st, pending := pe, fn, tmps := a.tmps, params := ps, assign, body, defers := D } := ⟨fun st pe => { state := st, pending := pe, fn, tmps := a.tmps, params := ps, assign, body, defers := D }, fun _ _ => rfl⟩
  obtain ⟨W1, hW1⟩ : ∃ W1, (w.alloc (.deferred (some []))).alloc (.loop (R .ready none)) = W1 := ⟨_, rfl⟩
  have hsz : W1.heap.size = D + 2 := by rw [← hW1, ← hD]; simp
  have hBk : Books D (R .ready none) W1 := by
    refine ⟨?_, ?_⟩
    · rw [← hW1, ← hD]
      have := World.alloc_heap_new (w.alloc (.deferred (some []))) (.loop (R .ready none))
      rwa [World.size_alloc] at this
    · rw [← hW1, ← hD]
      exact (Below.heap_alloc _ _ _ (by simp)).trans (World.alloc_heap_new w _)
  have hI1 : I [] W1 := by rw [← hW1]; exact hI.alloc _ (hI.alloc _ h0)
  have hb1 : Below w0.heap.size w0 W1 := by rw [← hW1]; exact (hb0.alloc hb0.size _).alloc (hb0.alloc hb0.size _).size _
  have hput : ∀ {J : List α → World → Prop} {s : List α} {W : World} {r : Loop} (r' : Loop), OwnFrom w.heap.size J → J s W → Books D r W → J s (W.putObj (D + 1) (.loop r')) :=
    fun r' hJ hs hb => hJ.putObj _ hs (by omega) hb.loop rfl
  have hkp : ∀ {W : World} {r : Loop} (r' : Loop), Books D r W → Kp W (W.putObj (D + 1) (.loop r')) := fun r' hb => hKb _ _ _ _ (by omega) hb.loop rfl rfl
  have hwalk : ∀ {A : World} {row : Option Nat}, (∀ r, row = some r → W1.heap.size ≤ r ∧ ∃ o : Obj, A.heap[r]? = some o ∧ o.isWalk = true) → (∀ r, row = some r → w.heap.size ≤ r ∧ ∃ o : Obj, A.heap[r]? = some o ∧ o.isCells = false) := fun hr r e => by
    obtain ⟨hB, o, ho, hw⟩ := hr r e
    exact ⟨by omega, o, ho, Obj.not_cells_of_walk hw⟩
  refine ⟨D + 1, [{ target := .collected D, args := #[] }], W1, { target := .fn (.func gf) lb, args := #[.func (.yield (D + 1)) #[] #[]] }, W1, gf, #[.func (.yield (D + 1)) #[] #[]] ++ lb, W1, ?_, ?_, ?_, ?_, fun _ => h1, ?_⟩
  · rw [← hW1, hR, ← hD]; exact run_enterLoop_outer _ _ _ _ _
  · simp only [resolve, hg]
    simp [go_sem]
  · intro f' hf'
    simp [Target.leads] at hf'
    subst hf'
    exact hFg
  · simp [invoke, go_sem, eg]
  · refine (hseq (D + 1) (fun pre W => I pre W ∧ Books D (R .ready none) W) (fun pre W => Ix pre W ∧ Books D (R .done (some .ret)) W) W1 hb1
      (fun s A B' row hs hg' hr => ⟨hI s A B' row hs.1 hg' (hwalk hr), hs.2.grown hg' (fun q e => (hr q e).2)⟩)
      (fun s A B' row hs hg' hr => ⟨hIx s A B' row hs.1 hg' (hwalk hr), hs.2.grown hg' (fun q e => (hr q e).2)⟩)
      (fun pre A u hs hb => ⟨hIB pre A u hs.1 hb, hs.2.box hb u⟩) ?_ ⟨hI1, hBk⟩).mono ?_
    · rintro pre x W ⟨hi, hbk⟩ hlen
      have hy := run_yield (P := P) (args := encs x) hbk.loop (by rw [hR]; exact hps x)
      rw [hR] at hy
      have hbz := hbk.put { R .ready none with state := .busy }
      refine ⟨fn, _, assign, body, hy, roundIn_of_wpIn hfn (hassign _ x W _ ⟨_, run_beginRound hbk.loop (by rw [hR]), ?_⟩)⟩
      refine wpIn_mono (hbody _ pre x _ (hput _ hI hi hbk) hlen) ?_
      have hend : ∀ (jump : Option Code) (W3 : World), Books D { R .ready none with state := .busy } W3 →
          (Instr.endRound (D + 1) jump).run P W3 = .ok (.bool jump.isNone) (W3.putObj (D + 1) (.loop (R (if jump.isNone then .ready else .done) jump))) := fun jump W3 hb3 => by
        have := run_endRound (P := P) jump hb3.loop
        rw [hR] at this ⊢
        exact this
      rintro e a3 W3 hp
      cases e with
      | normal =>
        obtain ⟨hk3, hkp3, hi3⟩ := hp
        have hb3 := hbz.keeps hk3 (by omega)
        exact ⟨_, _, hend none W3 hb3, .inl ⟨rfl, ⟨hput _ hI hi3 hb3, hb3.put _⟩, hKt (hKt (hkp _ hbk) hkp3) (hkp _ hb3)⟩⟩
      | ret =>
        obtain ⟨hk3, _, hi3⟩ := hp
        have hb3 := hbz.keeps hk3 (by omega)
        exact ⟨_, _, hend (some .ret) W3 hb3, .inr ⟨rfl, hput _ hIx hi3 hb3, hb3.put _⟩⟩
      | exit id => obtain ⟨_, hc, _⟩ := hp; cases hc
      | goto t => obtain ⟨_, hc, _⟩ := hp; cases hc
      | panic ch => exact hp.elim
      | outgrown => exact hp.elim
    · rintro e W2 ⟨⟨v, rfl⟩, (⟨xs, hS, hi, hb2⟩ | ⟨pre, hSp, hi, hb2⟩)⟩
      · exact ⟨none, _, by have := run_endLoop (P := P) hb2.loop (by rw [hR]; simp); rw [hR] at this; exact this, hdone _ xs _ (by omega) hS (hput _ hI hi hb2) (hb2.put _).defs⟩
      · exact ⟨some .ret, _, by have := run_endLoop (P := P) hb2.loop (by rw [hR]; simp); rw [hR] at this; exact this, hstop _ pre _ (by omega) hSp (hput _ hIx hi hb2) (hb2.put _).defs⟩
end Go.Proofs.Ytdeloaknoadpiaa
