/- The heap and the document's heap beside one another: what each call does to the two. -/
import Derived.Test.YtabcifaknckomaaTold
import Derived.Test.YtabcifaknckomaaHCopy
namespace Go.Proofs.Ytabcifaknckomaa.RF
open Go.RowKit HI

theorem hp_within {F : Nat → Prop} {w : World} {b p : Nat} {L : List T} (h : Hp F w b L p) : Hp (fun k => F k ∧ k < w.heap.size) w b L p := by
  obtain ⟨bm, sv, d, h1, h2, h3, h4⟩ := h
  refine ⟨bm, sv, d, h1, h2, h3, fun k hk => ⟨h4 k hk, ?_⟩⟩
  rcases hk with e | e | e
  · rw [e]; exact h1.lt
  · rw [e]; exact h1.ltm
  · exact h1.ltg e
theorem foot_lt {w : World} {r nx : Nat} {rv : Value} {R : List T} (h : RefAt w r rv R nx) {k : Nat} (hk : Foot r rv k) : k < w.heap.size := by
  rcases hk with e | e
  · rw [e]; exact h.lt
  · exact (h.row.lt k e).2

/-- Of this call (whose world was w0): the heap in block hb, of the things L, p ever pushed; the document's in block r, of the things R, nx ever pushed; no block of both; the blocks of V, of neither, are as C says. -/
def Duo (V : Nat → Prop) (C : Nat → Option Obj) (w0 w : World) (hb : Nat) (L : List T) (p r : Nat) (R : List T) (nx : Nat) : Prop :=
  ∃ (F : Nat → Prop) (rv : Value), Hp F w hb L p ∧ RefAt w r rv R nx ∧ (∀ k, F k → w0.heap.size ≤ k ∧ k < w.heap.size ∧ ¬ Foot r rv k ∧ ¬ V k) ∧ (∀ k, Foot r rv k → w0.heap.size ≤ k ∧ ¬ V k) ∧ (∀ k, V k → k < w.heap.size ∧ w.heap[k]? = C k) ∧ Below w0.heap.size w0 w

section
variable {V : Nat → Prop} {C : Nat → Option Obj} {w0 w w' : World} {F : Nat → Prop} {hb hb' p p' r nx nx' : Nat} {rv rv' : Value} {L L' R R' : List T}
theorem duo_heap (hR : RefAt w r rv R nx) (h1 : ∀ k, F k → w0.heap.size ≤ k ∧ k < w.heap.size ∧ ¬ Foot r rv k ∧ ¬ V k) (h2 : ∀ k, Foot r rv k → w0.heap.size ≤ k ∧ ¬ V k) (h4 : ∀ k, V k → k < w.heap.size ∧ w.heap[k]? = C k) (hB : Below w0.heap.size w0 w)
    (hH : Hp (fun k => F k ∨ w.heap.size ≤ k) w' hb' L' p') (ho : Only (fun k => F k ∨ w.heap.size ≤ k) w w') : Duo V C w0 w' hb' L' p' r R nx := by
  have hR' := hR.kept ho (fun k hk hf => by
    rcases hf with hf | hf
    · exact (h1 k hf).2.2.1 hk
    · have := foot_lt hR hk; omega)
  refine ⟨_, rv, hp_within hH, hR', fun k hk => ?_, h2, fun k hk => ⟨Nat.lt_of_lt_of_le (h4 k hk).1 ho.size, (ho.block k (h4 k hk).1 (fun hf => ?_)).trans (h4 k hk).2⟩, hB.trans (ho.below hB.size (fun q hq h => ?_))⟩
  · obtain ⟨hf, hl⟩ := hk
    rcases hf with hf | hf
    · exact ⟨(h1 k hf).1, hl, (h1 k hf).2.2⟩
    · exact ⟨Nat.le_trans hB.size hf, hl, fun hk => by have := foot_lt hR hk; omega, fun hk => by have := (h4 k hk).1; omega⟩
  · rcases hf with hf | hf
    · exact (h1 k hf).2.2.2 hk
    · have := (h4 k hk).1; omega
  · have hs := hB.size
    rcases h with h | h
    · have := (h1 q h).1; omega
    · omega
theorem duo_ref (hH : Hp F w hb L p) (hR : RefAt w r rv R nx) (h1 : ∀ k, F k → w0.heap.size ≤ k ∧ k < w.heap.size ∧ ¬ Foot r rv k ∧ ¬ V k) (h2 : ∀ k, Foot r rv k → w0.heap.size ≤ k ∧ ¬ V k) (h4 : ∀ k, V k → k < w.heap.size ∧ w.heap[k]? = C k) (hB : Below w0.heap.size w0 w)
    (hR' : RefAt w' r rv' R' nx') (ho : Only (Foot r rv) w w') (hn : OwnNext w rv rv') : Duo V C w0 w' hb L p r R' nx' := by
  refine ⟨F, rv', hH.kept ho (fun k _ hf hk => (h1 k hf).2.2.1 hk), hR', fun k hf => ⟨(h1 k hf).1, Nat.lt_of_lt_of_le (h1 k hf).2.1 ho.size, fun hk => ?_, (h1 k hf).2.2.2⟩, fun k hk => ?_, fun k hk => ⟨Nat.lt_of_lt_of_le (h4 k hk).1 ho.size, (ho.block k (h4 k hk).1 (fun hf => (h2 k hf).2 hk)).trans (h4 k hk).2⟩, hB.trans (ho.below hB.size (fun q hq h => by have := (h2 q h).1; omega))⟩
  · obtain ⟨a1, a2, a3, _⟩ := h1 k hf
    rcases hk with e | e
    · exact a3 (.inl e)
    · rcases hn k e with e | e
      · exact a3 (.inr e)
      · omega
  · rcases hk with e | e
    · exact h2 k (.inl e)
    · rcases hn k e with e | e
      · exact h2 k (.inr e)
      · exact ⟨Nat.le_trans hB.size e, fun hk => by have := (h4 k hk).1; omega⟩
theorem Duo.below (h : Duo V C w0 w hb L p r R nx) (hb2 : Below w.heap.size w w') : Duo V C w0 w' hb L p r R nx := by
  obtain ⟨F, rv, hH, hR, h1, h2, h4, hB⟩ := h
  refine ⟨F, rv, hH.below hb2, hR.kept (Only.of_below (F := fun _ => False) hb2) (fun _ _ h => h), fun k hk => ⟨(h1 k hk).1, Nat.lt_of_lt_of_le (h1 k hk).2.1 hb2.size, (h1 k hk).2.2⟩, h2, fun k hk => ⟨Nat.lt_of_lt_of_le (h4 k hk).1 hb2.size, (hb2.block k (h4 k hk).1).trans (h4 k hk).2⟩, below_next hB hb2⟩
theorem Duo.drewN (h : Duo V C w0 w hb L p r R nx) (n : Nat) : Duo V C w0 (w.drewN n) hb L p r R nx := h.below ⟨rfl, rfl, rfl, Nat.le_refl _, fun _ _ => rfl⟩
/-- A block that the call lays now is none of theirs. -/
theorem Duo.ward (h : Duo V C w0 w hb L p r R nx) (o : Obj) : Duo (fun k => k = w.heap.size) (fun _ => some o) w0 (w.alloc o) hb L p r R nx := by
  have hb2 : Below w.heap.size w (w.alloc o) := (Below.refl _ w).alloc (Nat.le_refl _) o
  obtain ⟨F, rv, hH, hR, h1, h2, h4, hB⟩ := h
  refine ⟨F, rv, hH.below hb2, hR.kept (Only.of_below (F := fun _ => False) hb2) (fun _ _ h => h), fun k hk => ⟨(h1 k hk).1, Nat.lt_of_lt_of_le (h1 k hk).2.1 hb2.size, (h1 k hk).2.2.1, fun e => ?_⟩, fun k hk => ⟨(h2 k hk).1, fun e => ?_⟩, fun k hk => ?_, below_next hB hb2⟩
  · have := (h1 k hk).2.1; omega
  · have := foot_lt hR hk; omega
  · subst hk
    exact ⟨(Array.getElem?_eq_some_iff.1 (heap_alloc_new w o)).1, heap_alloc_new w o⟩
theorem Duo.free (h : Duo V C w0 w hb L p r R nx) : Duo (fun _ => False) (fun _ => none) w0 w hb L p r R nx := by
  obtain ⟨F, rv, hH, hR, h1, h2, h4, hB⟩ := h
  exact ⟨F, rv, hH, hR, fun k hk => ⟨(h1 k hk).1, (h1 k hk).2.1, (h1 k hk).2.2.1, fun h => h⟩, fun k hk => ⟨(h2 k hk).1, fun h => h⟩, fun k hk => hk.elim, hB⟩
theorem Duo.there (h : Duo V C w0 w hb L p r R nx) {k : Nat} (hk : V k) : w.heap[k]? = C k := by obtain ⟨F, rv, hH, hR, h1, h2, h4, hB⟩ := h; exact (h4 k hk).2
theorem Duo.left (h : Duo V C w0 w hb L p r R nx) : Below w0.heap.size w0 w := by obtain ⟨F, rv, hH, hR, h1, h2, h4, hB⟩ := h; exact hB
theorem Duo.nums (h : Duo V C w0 w hb L p r R nx) : (∀ x ∈ L, 0 ≤ x.num ∧ x.num < p) ∧ Unlike L ∧ (L.map T.num).Nodup ∧ L.length ≤ p := by
  obtain ⟨F, rv, hH, hR, h1, h2, h4, hB⟩ := h
  exact ⟨hH.nums.1, fun x hx y hy e => hH.nums.2.1 x hx y hy e, hH.nodup, hH.nums.2.2.2⟩
theorem Duo.refs (h : Duo V C w0 w hb L p r R nx) : ∃ rv, RefAt w r rv R nx := by obtain ⟨F, rv, hH, hR, h1, h2, h4, hB⟩ := h; exact ⟨rv, hR⟩
theorem own_new {w : World} {rv rv' : Value} (h : ∀ g, rv'.ownBlock = some g → w.heap.size ≤ g) : OwnNext w rv rv' := fun k hk => .inr (h k hk)

theorem d_push (h : Duo V C w0 w hb L p r R nx) (hl : p < 1000) (key v : Int) :
    Calls Try.prog 9 #[.pointer (some ⟨hb, 0, none⟩), .int .i64 key, .int .i64 v] w fun e w' => e = .returned (.int .i64 p) ∧ Duo V C w0 w' hb (L ++ [⟨key, p, v⟩]) (p + 1) r R nx := by
  obtain ⟨F, rv, hH, hR, h1, h2, h4, hB⟩ := h
  exact (hp_push (hH.mono (fun k hk => Or.inl (b := w.heap.size ≤ k) hk)) (by omega) (fun k hk => .inr hk) key v).mono fun e w' ⟨he, g1, g2⟩ => ⟨he, duo_heap hR h1 h2 h4 hB g1 g2⟩
theorem d_len (h : Duo V C w0 w hb L p r R nx) :
    Calls Try.prog 21 #[.pointer (some ⟨hb, 0, none⟩)] w fun e w' => e = .returned (.int .i64 L.length) ∧ w = w' := by
  obtain ⟨F, rv, hH, hR, h1, h2, h4, hB⟩ := h
  exact hp_len hH
theorem d_peek_none (h : Duo V C w0 w hb [] p r R nx) :
    Calls Try.prog 19 #[.pointer (some ⟨hb, 0, none⟩)] w fun e w' => e = .returned (.tuple #[.int .i64 0, .int .i64 0, .int .i64 0, .bool false]) ∧ w = w' := by
  obtain ⟨F, rv, hH, hR, h1, h2, h4, hB⟩ := h
  exact hp_peek_none hH
theorem d_peek_some (h : Duo V C w0 w hb L p r R nx) (h0 : 0 < L.length) :
    Calls Try.prog 19 #[.pointer (some ⟨hb, 0, none⟩)] w fun e w' => ∃ x, e = .returned (.tuple #[.int .i64 x.key, .int .i64 x.v, .int .i64 x.num, .bool true]) ∧ IsFirst x L ∧ Duo V C w0 w' hb L p r R nx := by
  have h' := h
  obtain ⟨F, rv, hH, hR, h1, h2, h4, hB⟩ := h
  exact (hp_peek_some hH h0).mono fun e w' ⟨x, he, g1, g2⟩ => ⟨x, he, g1, h'.below g2⟩
theorem d_pop_none (h : Duo V C w0 w hb [] p r R nx) :
    Calls Try.prog 11 #[.pointer (some ⟨hb, 0, none⟩)] w fun e w' => e = .returned (.tuple #[.int .i64 0, .int .i64 0, .int .i64 0, .bool false]) ∧ w = w' := by
  obtain ⟨F, rv, hH, hR, h1, h2, h4, hB⟩ := h
  exact hp_pop_none hH
theorem d_pop_some (h : Duo V C w0 w hb L p r R nx) (h0 : 0 < L.length) :
    Calls Try.prog 11 #[.pointer (some ⟨hb, 0, none⟩)] w fun e w' => ∃ x L', e = .returned (.tuple #[.int .i64 x.key, .int .i64 x.v, .int .i64 x.num, .bool true]) ∧ IsFirst x L ∧ (x :: L').Perm L ∧ Duo V C w0 w' hb L' p r R nx := by
  obtain ⟨F, rv, hH, hR, h1, h2, h4, hB⟩ := h
  exact (hp_pop_some (hH.mono (fun k hk => Or.inl (b := w.heap.size ≤ k) hk)) h0).mono fun e w' ⟨x, L', he, g1, g2, g3, g4⟩ => ⟨x, L', he, g1, g2, duo_heap hR h1 h2 h4 hB g3 g4⟩
theorem d_remove_none (h : Duo V C w0 w hb L p r R nx) {x : Int} (hx : I64 x) (hn : ∀ y ∈ L, y.num ≠ x) :
    Calls Try.prog 13 #[.pointer (some ⟨hb, 0, none⟩), .int .i64 x] w fun e w' => e = .returned (.tuple #[.int .i64 0, .bool false]) ∧ w = w' := by
  obtain ⟨F, rv, hH, hR, h1, h2, h4, hB⟩ := h
  exact hp_remove_none hH hx hn
theorem d_remove_some (h : Duo V C w0 w hb L p r R nx) {y : T} (hy : y ∈ L) :
    Calls Try.prog 13 #[.pointer (some ⟨hb, 0, none⟩), .int .i64 y.num] w fun e w' => ∃ L', e = .returned (.tuple #[.int .i64 y.v, .bool true]) ∧ (y :: L').Perm L ∧ Duo V C w0 w' hb L' p r R nx := by
  obtain ⟨F, rv, hH, hR, h1, h2, h4, hB⟩ := h
  exact (hp_remove_some (hH.mono (fun k hk => Or.inl (b := w.heap.size ≤ k) hk)) hy).mono fun e w' ⟨L', he, g2, g3, g4⟩ => ⟨L', he, g2, duo_heap hR h1 h2 h4 hB g3 g4⟩
theorem d_change_none (h : Duo V C w0 w hb L p r R nx) {x : Int} (key : Int) (hx : I64 x) (hn : ∀ y ∈ L, y.num ≠ x) :
    Calls Try.prog 15 #[.pointer (some ⟨hb, 0, none⟩), .int .i64 x, .int .i64 key] w fun e w' => e = .returned (.bool false) ∧ w = w' := by
  obtain ⟨F, rv, hH, hR, h1, h2, h4, hB⟩ := h
  exact hp_change_none hH key hx hn
theorem d_change_some (h : Duo V C w0 w hb L p r R nx) {y : T} (hy : y ∈ L) (key : Int) :
    Calls Try.prog 15 #[.pointer (some ⟨hb, 0, none⟩), .int .i64 y.num, .int .i64 key] w fun e w' => e = .returned (.bool true) ∧ Duo V C w0 w' hb (rekeyL L y.num key) p r R nx := by
  obtain ⟨F, rv, hH, hR, h1, h2, h4, hB⟩ := h
  exact (hp_change_some (hH.mono (fun k hk => Or.inl (b := w.heap.size ≤ k) hk)) hy key).mono fun e w' ⟨he, g3, g4⟩ => ⟨he, duo_heap hR h1 h2 h4 hB g3 g4⟩

/-- Two heaps of the same things, and the document's. -/
def Trio (V : Nat → Prop) (C : Nat → Option Obj) (w0 w : World) (c : Nat) (L : List T) (p r : Nat) (R : List T) (nx ho : Nat) : Prop :=
  ∃ (F G : Nat → Prop) (rv : Value), Hp F w c L p ∧ Hp G w ho L p ∧ RefAt w r rv R nx ∧ (∀ k, F k → w0.heap.size ≤ k ∧ k < w.heap.size ∧ ¬ Foot r rv k ∧ ¬ V k) ∧ (∀ k, Foot r rv k → w0.heap.size ≤ k ∧ ¬ V k) ∧ (∀ k, G k → w0.heap.size ≤ k ∧ k < w.heap.size ∧ ¬ Foot r rv k ∧ ¬ V k ∧ ¬ F k) ∧ (∀ k, V k → k < w.heap.size ∧ w.heap[k]? = C k) ∧ Below w0.heap.size w0 w
theorem Trio.there {c ho : Nat} (h : Trio V C w0 w c L p r R nx ho) {k : Nat} (hk : V k) : w.heap[k]? = C k := by obtain ⟨F, G, rv, hH, hG, hR, h1, h2, h3, h4, hB⟩ := h; exact (h4 k hk).2
theorem d_copy (h : Duo V C w0 w hb L p r R nx) :
    Calls Try.prog 17 #[.pointer (some ⟨hb, 0, none⟩)] w fun e w' => ∃ c, e = .returned (.pointer (some ⟨c, 0, none⟩)) ∧ Trio V C w0 w' c L p r R nx hb := by
  obtain ⟨F, rv, hH, hR, h1, h2, h4, hB⟩ := h
  refine (hp_copy hH).mono fun e w' ⟨c, he, g1, g2⟩ => ⟨c, he, fun k => w.heap.size ≤ k ∧ k < w'.heap.size, F, rv, hp_within g1, hH.below g2, hR.kept (Only.of_below (F := fun _ => False) g2) (fun _ _ h => h), fun k hk => ⟨Nat.le_trans hB.size hk.1, hk.2, fun hf => ?_, fun hf => ?_⟩, h2, fun k hk => ⟨(h1 k hk).1, Nat.lt_of_lt_of_le (h1 k hk).2.1 g2.size, (h1 k hk).2.2.1, (h1 k hk).2.2.2, fun hf => ?_⟩, fun k hk => ⟨Nat.lt_of_lt_of_le (h4 k hk).1 g2.size, (g2.block k (h4 k hk).1).trans (h4 k hk).2⟩, below_next hB g2⟩
  · have := foot_lt hR hf; omega
  · have := (h4 k hf).1; omega
  · have := (h1 k hk).2.1; omega
theorem t_push {c ho : Nat} (h : Trio V C w0 w c L p r R nx ho) (hl : p < 1000) (key v : Int) :
    Calls Try.prog 9 #[.pointer (some ⟨ho, 0, none⟩), .int .i64 key, .int .i64 v] w fun e w' => e = .returned (.int .i64 p) ∧ Duo V C w0 w' c L p r R nx := by
  obtain ⟨F, G, rv, hH, hG, hR, h1, h2, h3, h4, hB⟩ := h
  refine (hp_push (hG.mono (fun k hk => Or.inl (b := w.heap.size ≤ k) hk)) (by omega) (fun k hk => .inr hk) key v).mono fun e w' ⟨he, g1, g2⟩ => ⟨he, F, rv, hH.kept g2 (fun k hk hf hg => ?_), hR.kept g2 (fun k hk hg => ?_), fun k hk => ⟨(h1 k hk).1, Nat.lt_of_lt_of_le (h1 k hk).2.1 g2.size, (h1 k hk).2.2⟩, h2, fun k hk => ⟨Nat.lt_of_lt_of_le (h4 k hk).1 g2.size, (g2.block k (h4 k hk).1 (fun hg => ?_)).trans (h4 k hk).2⟩, hB.trans (g2.below hB.size (fun q hq h => ?_))⟩
  · rcases hg with hg | hg
    · exact (h3 k hg).2.2.2.2 hf
    · omega
  · rcases hg with hg | hg
    · exact (h3 k hg).2.2.1 hk
    · have := foot_lt hR hk; omega
  · rcases hg with hg | hg
    · exact (h3 k hg).2.2.2.1 hk
    · have := (h4 k hk).1; omega
  · have hs := hB.size
    rcases h with h | h
    · have := (h3 q h).1; omega
    · omega

theorem dr_push (h : Duo V C w0 w hb L p r R nx) (hl : R.length < 1000) (hn : nx < 1000) (key v : Int) :
    Calls Try.prog 10 #[.pointer (some ⟨r, 0, none⟩), .int .i64 key, .int .i64 v] w fun e w' => e = .returned (.int .i64 nx) ∧ Duo V C w0 w' hb L p r (R ++ [⟨key, nx, v⟩]) (nx + 1) := by
  obtain ⟨F, rv, hH, hR, h1, h2, h4, hB⟩ := h
  exact (rpush_any hR (by omega) (by omega) key v).mono fun e w' ⟨he, rv', g1, g2, g3⟩ => ⟨he, duo_ref hH hR h1 h2 h4 hB g1 g3 g2⟩
theorem dr_peek_none (h : Duo V C w0 w hb L p r R nx) (h0 : R.length = 0) :
    Calls Try.prog 20 #[.pointer (some ⟨r, 0, none⟩)] w fun e w' => e = .returned (.tuple #[agT 0 0 0, .bool false]) ∧ Duo V C w0 w' hb L p r R nx := by
  obtain ⟨rv, hR⟩ := h.refs
  exact (rpeek_none hR h0).mono fun e w' ⟨he, g⟩ => ⟨he, h.below g⟩
theorem dr_peek_some (h : Duo V C w0 w hb L p r R nx) (hr : Rising R) (h0 : 0 < R.length) :
    Calls Try.prog 20 #[.pointer (some ⟨r, 0, none⟩)] w fun e w' => ∃ x, e = .returned (.tuple #[agT x.key x.num x.v, .bool true]) ∧ IsFirst x R ∧ Duo V C w0 w' hb L p r R nx := by
  obtain ⟨rv, hR⟩ := h.refs
  exact (rpeek_some hR hr h0).mono fun e w' ⟨x, he, g1, g⟩ => ⟨x, he, g1, h.below g⟩
theorem dr_pop_none (h : Duo V C w0 w hb L p r R nx) (h0 : R.length = 0) :
    Calls Try.prog 12 #[.pointer (some ⟨r, 0, none⟩)] w fun e w' => e = .returned (.tuple #[agT 0 0 0, .bool false]) ∧ Duo V C w0 w' hb L p r R nx := by
  obtain ⟨rv, hR⟩ := h.refs
  exact (rpop_none hR h0).mono fun e w' ⟨he, g⟩ => ⟨he, h.below g⟩
theorem dr_pop_some (h : Duo V C w0 w hb L p r R nx) (hr : Rising R) (h0 : 0 < R.length) :
    Calls Try.prog 12 #[.pointer (some ⟨r, 0, none⟩)] w fun e w' => ∃ m, e = .returned (.tuple #[agT (at_ R m).key (at_ R m).num (at_ R m).v, .bool true]) ∧ m < R.length ∧ IsFirst (at_ R m) R ∧ Duo V C w0 w' hb L p r (R.eraseIdx m) nx := by
  obtain ⟨F, rv, hH, hR, h1, h2, h4, hB⟩ := h
  exact (rpop_some hR hr h0).mono fun e w' ⟨m, he, g1, g2, rv', g3, g4, g5⟩ => ⟨m, he, g1, g2, duo_ref hH hR h1 h2 h4 hB g3 (g4.mono (fun k _ e => .inl e)) (own_new g5)⟩
theorem dr_remove_none (h : Duo V C w0 w hb L p r R nx) {x : Int} (hx : ∀ j, j < R.length → (at_ R j).num ≠ x) :
    Calls Try.prog 14 #[.pointer (some ⟨r, 0, none⟩), .int .i64 x] w fun e w' => e = .returned (.tuple #[.int .i64 0, .bool false]) ∧ w = w' := by
  obtain ⟨rv, hR⟩ := h.refs
  exact rremove_none hR hx
theorem dr_remove_some (h : Duo V C w0 w hb L p r R nx) (hu : Unlike R) (hnd : (R.map T.num).Nodup) {m : Nat} (hm : m < R.length) {x : Int} (hx : (at_ R m).num = x) :
    Calls Try.prog 14 #[.pointer (some ⟨r, 0, none⟩), .int .i64 x] w fun e w' => e = .returned (.tuple #[.int .i64 (at_ R m).v, .bool true]) ∧ Duo V C w0 w' hb L p r (R.eraseIdx m) nx := by
  obtain ⟨F, rv, hH, hR, h1, h2, h4, hB⟩ := h
  exact (rremove_some hR hu hnd hm hx).mono fun e w' ⟨he, rv', g3, g4, g5⟩ => ⟨he, duo_ref hH hR h1 h2 h4 hB g3 (g4.mono (fun k _ e => .inl e)) (own_new g5)⟩
theorem dr_change_none (h : Duo V C w0 w hb L p r R nx) {x : Int} (key : Int) (hx : ∀ j, j < R.length → (at_ R j).num ≠ x) :
    Calls Try.prog 16 #[.pointer (some ⟨r, 0, none⟩), .int .i64 x, .int .i64 key] w fun e w' => e = .returned (.bool false) ∧ w = w' := by
  obtain ⟨rv, hR⟩ := h.refs
  exact rchange_none hR key hx
theorem dr_change_some (h : Duo V C w0 w hb L p r R nx) (hu : Unlike R) (hnd : (R.map T.num).Nodup) {m : Nat} (hm : m < R.length) {x : Int} (hx : (at_ R m).num = x) (key : Int) :
    Calls Try.prog 16 #[.pointer (some ⟨r, 0, none⟩), .int .i64 x, .int .i64 key] w fun e w' => e = .returned (.bool true) ∧ Duo V C w0 w' hb L p r (rekey R m key) nx := by
  obtain ⟨F, rv, hH, hR, h1, h2, h4, hB⟩ := h
  exact (rchange_some hR hu hnd hm hx key).mono fun e w' ⟨he, g3, g4⟩ => ⟨he, duo_ref hH hR h1 h2 h4 hB g3 g4 (fun k hk => .inl hk)⟩
theorem d_told (h : Duo V C w0 w hb L p r R nx) (hr : Rising R) (hp : L.Perm R) :
    Calls Try.prog 18 #[.pointer (some ⟨hb, 0, none⟩), .pointer (some ⟨r, 0, none⟩)] w fun e w' => e = .returned (.bool true) ∧ Duo V C w0 w' hb L p r R nx := by
  have h' := h
  obtain ⟨F, rv, hH, hR, h1, h2, h4, hB⟩ := h
  exact (told_any hH hR hr hp).mono fun e w' ⟨he, g⟩ => ⟨he, h'.below g⟩
end

/-! ## The things of the two -/
section
variable {L L' R : List T} {x y : T}
theorem firsts_same (hp : L.Perm R) (hu : Unlike L) (hx : IsFirst x L) (hy : IsFirst y R) : x = y :=
  hu x hx.1 y (hp.mem_iff.2 hy.1) (le_both (hx.2 y (hp.mem_iff.2 hy.1)) (hy.2 x (hp.mem_iff.1 hx.1)))
theorem unlike_perm (hp : L.Perm R) (hu : Unlike L) : Unlike R := fun x hx y hy e => hu x (hp.mem_iff.2 hx) y (hp.mem_iff.2 hy) e
theorem nodup_perm (hp : L.Perm R) (hn : (L.map T.num).Nodup) : (R.map T.num).Nodup := (hp.map T.num).nodup_iff.1 hn
theorem erase_same {m : Nat} (hm : m < R.length) (hp : L.Perm R) (hx : (at_ R m :: L').Perm L) : L'.Perm (R.eraseIdx m) :=
  ((hx.trans hp).trans (erase_perm hm).symm).cons_inv
theorem rising_snoc {p : Nat} (hr : Rising R) (hn : ∀ x ∈ R, 0 ≤ x.num ∧ x.num < p) (key v : Int) : Rising (R ++ [⟨key, p, v⟩]) := by
  unfold Rising at *
  rw [List.pairwise_append]
  refine ⟨hr, List.pairwise_singleton _ _, fun a ha b hb => ?_⟩
  simp only [List.mem_singleton] at hb
  subst hb
  exact (hn a ha).2
theorem rising_rekey {m : Nat} (hr : Rising R) (key : Int) (hm : m < R.length) : Rising (rekey R m key) := by
  unfold Rising at *
  have e : ∀ l : List T, (l.Pairwise fun x y => x.num < y.num) ↔ (l.map T.num).Pairwise (· < ·) := fun l => by rw [List.pairwise_map]
  rw [e] at hr ⊢
  have e2 : (rekey R m key).map T.num = R.map T.num := by
    unfold rekey
    rw [List.map_set]
    apply List.ext_getElem (by simp)
    intro i h1 h2
    rw [List.getElem_set]
    split
    · rename_i h; subst h; rw [List.getElem_map, ← at_eq R m hm]
    · rfl
  rw [e2]; exact hr
theorem rekey_nodup {m : Nat} (hnd : (R.map T.num).Nodup) (hm : m < R.length) (key : Int) : rekey R m key = rekeyL R (at_ R m).num key := by
  apply ext_at (by unfold rekey rekeyL; simp)
  intro j hj
  have hj' : j < R.length := by unfold rekey at hj; simpa using hj
  have e1 : at_ (rekeyL R (at_ R m).num key) j = (fun y : T => if y.num = (at_ R m).num then ⟨key, y.num, y.v⟩ else y) (at_ R j) := by
    rw [at_eq _ _ (by unfold rekeyL; simpa using hj'), at_eq R j hj']
    unfold rekeyL
    rw [List.getElem_map]
  rw [e1]
  unfold rekey
  rw [at_set _ _ _ _ hm]
  by_cases e : j = m
  · subst e; simp
  · rw [if_neg e]
    have : ¬ (at_ R j).num = (at_ R m).num := fun e2 => e (nums_at hnd hj' hm e2)
    simp [this]
theorem rekey_same {m : Nat} (hnd : (R.map T.num).Nodup) (hp : L.Perm R) (hm : m < R.length) (key : Int) : (rekeyL L (at_ R m).num key).Perm (rekey R m key) := by
  rw [rekey_nodup hnd hm]
  exact hp.map _
end

theorem ref_start {w0 w1 w2 : World} {b : Nat} (hb1 : Below w0.heap.size w0 w1) (hH : Hp (fun k => w1.heap.size ≤ k) w2 b [] 0) (hb2 : Below w1.heap.size w1 w2) :
    Duo (fun _ => False) (fun _ => none) w0 (w2.alloc (.cells #[.slice none 0 0, .int .i64 0] 29)) b [] 0 w2.heap.size [] 0 := by
  have hb3 : Below w2.heap.size w2 (w2.alloc (.cells #[.slice none 0 0, .int .i64 0] 29)) := (Below.refl _ w2).alloc (Nat.le_refl _) _
  have hR : RefAt (w2.alloc (.cells #[.slice none 0 0, .int .i64 0] 29)) w2.heap.size (.slice none 0 0) [] 0 := ⟨heap_alloc_new w2 _, World.ownsRow_nil _ _ _ _, Nat.zero_le _, Nat.zero_le _⟩
  have hs1 := hb1.size
  have hs2 := hb2.size
  refine ⟨_, _, (hp_within hH).below hb3, hR, fun k hk => ⟨by omega, Nat.lt_of_lt_of_le hk.2 hb3.size, fun hf => ?_, fun h => h⟩, fun k hk => ⟨?_, fun h => h⟩, fun k hk => hk.elim, below_next (below_next hb1 hb2) hb3⟩
  · rcases hf with e | e
    · omega
    · cases e
  · rcases hk with e | e
    · omega
    · cases e
end Go.Proofs.Ytabcifaknckomaa.RF
