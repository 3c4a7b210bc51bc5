/- check's pass (layer 11) as memory: its captured cells; a row of slots. No condition. -/
import Derived.Test.YtefijbpbenmbgaaDoorCkT
namespace Go.Proofs.YtefijbpbenmbgaaDoor
open Go.RowKit Go.Shelf

theorem heldC {F : Nat → Prop} {W W' : World} (ho : Only F W W') {B : Nat} {o : Obj} (h : W.heap[B]? = some o) (hB : ¬ F B) : W'.heap[B]? = some o := (ho.block B (Array.getElem?_eq_some_iff.1 h).1 hB).trans h
theorem cellC {W : World} {b : Nat} {cs : Array Value} {t : TypeId} (h : W.heap[b]? = some (.cells cs t (0, 0))) (j : Nat) : W.cell? ⟨b, j, none⟩ = cs[j]? := by simp [World.cell?, h]
theorem fzC {W : World} {b : Nat} {cs : Array Value} {t : TypeId} (h : W.heap[b]? = some (.cells cs t (0, 0))) (j : Nat) : W.frozen? ⟨b, j, none⟩ = false := by simp [World.frozen?, h]
theorem below_dnC {b : Nat} {w w' : World} (hb : Below b w w') (n : Nat) : Below b w (w'.drewN n) := ⟨hb.os, hb.tape, hb.output, hb.size, hb.block⟩
theorem stored4C {W : World} {b : Nat} {x0 x1 x2 x3 : Value} {t : TypeId} (h : W.heap[b]? = some (.cells #[x0, x1, x2, x3] t (0, 0))) (a c d e : Value) :
    ((((W.setCell ⟨b, 0, none⟩ a).setCell ⟨b, 1, none⟩ c).setCell ⟨b, 2, none⟩ d).setCell ⟨b, 3, none⟩ e).heap[b]? = some (.cells #[a, c, d, e] t (0, 0)) ∧ Only (fun k => k = b) W ((((W.setCell ⟨b, 0, none⟩ a).setCell ⟨b, 1, none⟩ c).setCell ⟨b, 2, none⟩ d).setCell ⟨b, 3, none⟩ e) := by
  constructor
  · have a1 := heap_setCell_same W b 0 _ _ a h
    have a2 := heap_setCell_same _ b 1 _ _ c a1
    have a3 := heap_setCell_same _ b 2 _ _ d a2
    have a4 := heap_setCell_same _ b 3 _ _ e a3
    simpa using a4
  · exact ((((Only.refl (fun k => k = b) W).setCell (p := ⟨b, 0, none⟩) (.inl rfl) a).setCell (p := ⟨b, 1, none⟩) (.inl rfl) c).setCell (p := ⟨b, 2, none⟩) (.inl rfl) d).setCell (p := ⟨b, 3, none⟩) (.inl rfl) e
def intV (n : Int) : Value := .int .i64 n
/-- A row of whole numbers of the call's own. -/
def IntsAt (w : World) (base : Nat) (v : Value) (ns : List Int) : Prop := w.ownsRow base 3 1 v ns.length (ns.map intV)
theorem int_info : (Tryd.prog.info? 3).map (fun i => (i.zero, i.size, i.bytes)) = some (some (.int .i64 0), 1, 8) := by kernel_rfl
theorem int_parts : ∃ i0, Tryd.prog.info? 3 = some i0 ∧ i0.zero = some (.int .i64 0) ∧ i0.size = 1 ∧ i0.bytes = 8 := by
  have h := int_info
  cases hi : Tryd.prog.info? 3 with
  | none => rw [hi] at h; simp at h
  | some i0 =>
    rw [hi] at h
    simp at h
    exact ⟨i0, rfl, h.1, h.2.1, h.2.2⟩
section
variable {w W : World} {base : Nat} {v : Value} {ns : List Int}
theorem IntsAt.shape (h : IntsAt w base v ns) : ∃ a cap, v = .slice a ns.length cap ∧ ns.length ≤ cap ∧ cap ≤ 9223372036854775807 := ownsRow_shape h
theorem IntsAt.below (h : IntsAt w base v ns) (hb : Below w.heap.size w W) : IntsAt W base v ns := ownsRow_only (F := fun _ => False) h (Only.of_below hb) (fun _ _ h => h)
theorem IntsAt.block (h : IntsAt w base v ns) {g : Nat} (hg : v.ownBlock = some g) : base ≤ g ∧ g < w.heap.size ∧ ∃ cur, w.heap[g]? = some (.cells cur 3 (0, 0)) := by
  rcases h.2 with ⟨hv, _⟩ | ⟨g', cap, cur, hv, hb, hgg, _⟩
  · rw [hv] at hg; cases hg
  · rw [hv] at hg
    have e1 : g = g' := by simpa [Value.ownBlock] using hg.symm
    subst e1
    exact ⟨hb, (Array.getElem?_eq_some_iff.1 hgg).1, _, hgg⟩
theorem IntsAt.apart {cs : Array Value} {t : TypeId} {gl : Nat} (h : IntsAt w base v ns) (hs : w.heap[gl]? = some (.cells cs t (0, 0))) (ht : t ≠ 3) : ¬ v.ownBlock = some gl := by
  intro e
  obtain ⟨_, _, cur, h3⟩ := h.block e
  rw [h3] at hs
  injection hs with hs
  injection hs with _ hs _
  exact ht hs.symm
end
/-- append(l, n) of a row of whole numbers: at the operation. -/
theorem wpList_append_int {w : World} {base : Nat} {v : Value} {ns : List Int} {n : Int} {ops : Array Oper} {rest : List Oper} {o : Oper} {a : Act} {Q : Exit → Act → World → Prop} (hgd : o.guard = none) (s x : Operand)
    (ho : o.op = .call { callee := .builtin .append, args := #[s, x], argTypes := #[41, 41] })
    (hs : a.eval s = v) (hown : IntsAt w base v ns) {G : Nat} (hx : a.eval x = .slice (some ⟨G, 0, none⟩) 1 1) (hc : w.cell? ⟨G, 0, none⟩ = some (intV n))
    (hk : ns.length ≤ 1000000000) (hbase : base ≤ w.heap.size)
    (h : ∀ a' cap w', IntsAt w' base (.slice a' (ns.length + 1) cap) (ns ++ [n]) → Only (fun k => v.ownBlock = some k) w w' → wpList Tryd.prog ops Q rest (a.put o.dst (.slice a' (ns.length + 1) cap)) w') : wpList Tryd.prog ops Q (o :: rest) a w := by
  obtain ⟨i0, hi, hz0, hz1, hz2⟩ := int_parts
  refine wpList_append_own_at _ hgd s x 41 ho base 3 i0 (.int .i64 0) 1 8 Tryd.underlying41 hi hz0 hz1 hz2 rfl (by decide) v ns.length (ns.map intV) hs hown ⟨G, 0, none⟩ 1 1 [intV n] hx rfl ?_ (by intro u hu; simp at hu; subst hu; rfl) (by unfold maxLen; omega) (by omega) hbase ?_
  · intro j y hj
    match j, hj with
    | 0, hj =>
      simp at hj
      subst hj
      simpa [Addr.add] using hc
  · intro v' w' h2 h3 _ _
    have hT : IntsAt w' base v' (ns ++ [n]) := by
      unfold IntsAt
      rw [List.length_append, List.length_singleton, List.map_append]
      exact h2
    obtain ⟨a', cap, e, _⟩ := hT.shape
    rw [List.length_append, List.length_singleton] at e
    subst e
    exact h a' cap w' hT (Only.of_grown h3 (fun k hk => hk))
/-- The blocks that the pass may turn. -/
def Fps (base : Nat) (w : World) (k : Nat) : Prop := base ≤ k ∧ ∀ c t fr, w.heap[k]? = some (.cells c t fr) → t = 75 ∨ t = 9 ∨ t = 3 ∨ t = 41
theorem Fsc.ps {base : Nat} {w : World} {k : Nat} (h : Fsc base w k) : Fps base w k := ⟨h.1, fun c t fr hc => by rcases h.2 c t fr hc with h | h; exact .inl h; exact .inr (.inl h)⟩
def capsC (gt gl gs gp : Nat) : Array Value := #[.pointer (some ⟨gt, 0, none⟩), .pointer (some ⟨gl, 0, none⟩), .pointer (some ⟨gs, 0, none⟩), .pointer (some ⟨gp, 0, none⟩)]
/-- Memory as the pass finds it. -/
structure CMem (w0 w : World) (gt gl gs gp : Nat) (v : Value) (ts : List Tw) (st : CSt) : Prop where
  b : Below w0.heap.size w0 w
  tw : TwIn w0 v ts
  t : w.heap[gt]? = some (.cells #[v] 23 (0, 0))
  p : w.heap[gp]? = some (.cells #[.func (.func 33) #[] (capsC gt gl gs gp)] 76 (0, 0))
  l : ∃ lv, w.heap[gl]? = some (.cells #[lv] 41 (0, 0)) ∧ IntsAt w w0.heap.size lv st.l
  lb : w0.heap.size ≤ gl
  s : Sc w w0.heap.size gs st.seen st.made
section
variable {w0 w W : World} {gt gl gs gp : Nat} {v : Value} {ts : List Tw} {st : CSt}
/-- Blocks that the pass does not turn. -/
theorem CMem.keep {F : Nat → Prop} (h : CMem w0 w gt gl gs gp v ts st) (ho : Only F w W) (hF : ∀ k, F k → w0.heap.size ≤ k) (hn : ∀ k, F k → ¬ Fps w0.heap.size w k) (hg : ¬ F gt) (hq : ¬ F gp) : CMem w0 W gt gl gs gp v ts st := by
  obtain ⟨lv, l1, l2⟩ := h.l
  refine ⟨h.b.trans (ho.below h.b.size (fun k hk e => by have := hF k e; omega)), h.tw, heldC ho h.t hg, heldC ho h.p hq, ⟨lv, heldC ho l1 (fun e => hn _ e ⟨h.lb, fun c t fr hc => ?_⟩), ownsRow_only l2 ho (fun g hg e => ?_)⟩, h.lb, h.s.kept ho (fun k e hk => hn k e hk.ps)⟩
  · rw [l1] at hc
    injection hc with hc
    injection hc with _ hc _
    exact .inr (.inr (.inr hc.symm))
  · obtain ⟨n1, n2, cur, n3⟩ := l2.block hg
    refine hn _ e ⟨n1, fun c t fr hc => ?_⟩
    rw [n3] at hc
    injection hc with hc
    injection hc with _ hc _
    exact .inr (.inr (.inl hc.symm))
theorem CMem.below (h : CMem w0 w gt gl gs gp v ts st) (hb : Below w.heap.size w W) : CMem w0 W gt gl gs gp v ts st :=
  h.keep (F := fun _ => False) (Only.of_below hb) (fun _ e => e.elim) (fun _ e => e.elim) (fun e => e) (fun e => e)
theorem notF {base k : Nat} {cs : Array Value} {t : TypeId} {fr : Nat × Nat} (h : w.heap[k]? = some (.cells cs t fr)) (ht : t ≠ 75 ∧ t ≠ 9) : ¬ Fsc base w k := fun e => by
  rcases e.2 _ _ _ h with h | h
  · exact ht.1 h
  · exact ht.2 h
theorem notP {base k : Nat} {cs : Array Value} {t : TypeId} {fr : Nat × Nat} (h : w.heap[k]? = some (.cells cs t fr)) (ht : t ≠ 75 ∧ t ≠ 9 ∧ t ≠ 3 ∧ t ≠ 41) : ¬ Fps base w k := fun e => by
  rcases e.2 _ _ _ h with h | h | h | h
  · exact ht.1 h
  · exact ht.2.1 h
  · exact ht.2.2.1 h
  · exact ht.2.2.2 h
/-- Behind a call of the scope's. -/
theorem CMem.scope {L : List (List UInt8 × Nat)} {made : Nat} (h : CMem w0 w gt gl gs gp v ts st) (hS : Sc W w0.heap.size gs L made) (ho : Only (Fsc w0.heap.size w) w W) : CMem w0 W gt gl gs gp v ts ⟨st.l, L, made⟩ := by
  obtain ⟨lv, l1, l2⟩ := h.l
  refine ⟨h.b.trans (ho.below h.b.size (fun k hk e => by have := e.1; omega)), h.tw, heldC ho h.t (notF h.t (by decide)), heldC ho h.p (notF h.p (by decide)), ⟨lv, heldC ho l1 (notF l1 (by decide)), ownsRow_only l2 ho (fun g hg e => ?_)⟩, h.lb, hS⟩
  obtain ⟨n1, n2, cur, n3⟩ := l2.block hg
  exact notF n3 (by decide) e
/-- A slot is put behind the others. -/
theorem CMem.push {s : Int} {lv v3 : Value} {w3 : World} (h : CMem w0 w gt gl gs gp v ts st) (l1 : w.heap[gl]? = some (.cells #[lv] 41 (0, 0))) (l2 : IntsAt w w0.heap.size lv st.l)
    (hn : IntsAt w3 w0.heap.size v3 (st.l ++ [s])) (ho : Only (fun k => lv.ownBlock = some k) (w.alloc (.cells #[.int .i64 s] 3)) w3) :
    CMem w0 (w3.setCell ⟨gl, 0, none⟩ v3) gt gl gs gp v ts ⟨st.l ++ [s], st.seen, st.made⟩ ∧ Only (Fps w0.heap.size w) w (w3.setCell ⟨gl, 0, none⟩ v3) := by
  have hal : Only (fun _ => False) w (w.alloc (.cells #[.int .i64 s] 3)) := Only.of_below ((Below.refl w.heap.size w).alloc (Nat.le_refl _) _)
  have hgl := (Array.getElem?_eq_some_iff.1 l1).1
  have lA := heldC hal l1 (fun h => h)
  have iA : IntsAt (w.alloc (.cells #[.int .i64 s] 3)) w0.heap.size lv st.l := ownsRow_only l2 hal (fun _ _ h => h)
  have l3 : w3.heap[gl]? = some (.cells #[lv] 41 (0, 0)) := heldC ho lA (iA.apart lA (by decide))
  have hsT := scOnly w3 gl 0 v3
  have hO : Only (fun k => lv.ownBlock = some k ∨ k = gl) w (w3.setCell ⟨gl, 0, none⟩ v3) := (hal.trans (K := fun k => lv.ownBlock = some k ∨ k = gl) ho (fun _ _ h => h.elim) (fun _ _ h => .inl h)).trans (K := fun k => lv.ownBlock = some k ∨ k = gl) hsT (fun _ _ h => h) (fun _ _ h => .inr h)
  have hF : ∀ k, (lv.ownBlock = some k ∨ k = gl) → w0.heap.size ≤ k ∧ (∃ c t, w.heap[k]? = some (.cells c t (0, 0)) ∧ (t = 3 ∨ t = 41)) := by
    intro k hk
    rcases hk with hk | hk
    · obtain ⟨n1, _, cur, n3⟩ := l2.block hk
      exact ⟨n1, cur, _, n3, .inl rfl⟩
    · subst hk
      exact ⟨h.lb, _, _, l1, .inr rfl⟩
  have hne : ∀ {k : Nat} {cs : Array Value} {t : TypeId}, w.heap[k]? = some (.cells cs t (0, 0)) → t ≠ 3 ∧ t ≠ 41 → ¬ (lv.ownBlock = some k ∨ k = gl) := by
    intro k cs t hk ht e
    obtain ⟨_, c, t', h1, h2⟩ := hF k e
    rw [hk] at h1
    injection h1 with h1
    injection h1 with _ h1 _
    rcases h2 with h2 | h2
    · exact ht.1 (h1.trans h2)
    · exact ht.2 (h1.trans h2)
  refine ⟨⟨h.b.trans (hO.below h.b.size (fun k hk e => by have := (hF k e).1; omega)), h.tw, heldC hO h.t (hne h.t (by decide)), heldC hO h.p (hne h.p (by decide)), ⟨v3, ?_, ownsRow_only hn hsT (fun g hg e => by subst e; exact hn.apart l3 (by decide) hg)⟩, h.lb, h.s.kept hO (fun k e hk => ?_)⟩, hO.mono (fun k _ e => ?_)⟩
  · have := heap_setCell_same w3 gl 0 _ _ v3 l3
    simpa using this
  · obtain ⟨_, c, t', h1, h2⟩ := hF k e
    rcases hk.2 _ _ _ h1 with h3 | h3 <;> rcases h2 with h2 | h2 <;> (rw [h2] at h3; revert h3; decide)
  · obtain ⟨e1, c, t', h1, h2⟩ := hF k e
    refine ⟨e1, fun c2 t2 fr hc => ?_⟩
    rw [h1] at hc
    injection hc with hc
    injection hc with _ hc _
    rcases h2 with h2 | h2
    · exact .inr (.inr (.inl (hc.symm.trans h2)))
    · exact .inr (.inr (.inr (hc.symm.trans h2)))
/-- What may be turned later may be turned now, of what was there. -/
theorem fps_back {base : Nat} (ho : Only (Fps base w) w W) {k : Nat} (hk : k < w.heap.size) (h : Fps base W k) : Fps base w k := by
  by_cases hw : Fps base w k
  · exact hw
  · have e := ho.block k hk hw
    exact ⟨h.1, fun c t fr hc => h.2 c t fr (e.trans hc)⟩
theorem ps_then {base : Nat} {W2 : World} (h1 : Only (Fps base w) w W) (h2 : Only (Fps base W) W W2) : Only (Fps base w) w W2 := h1.trans h2 (fun _ _ h => h) (fun _ hk h => fps_back h1 hk h)
theorem sc_ps {base : Nat} (h : Only (Fsc base w) w W) : Only (Fps base w) w W := h.mono (fun _ _ e => e.ps)
end
end Go.Proofs.YtefijbpbenmbgaaDoor
