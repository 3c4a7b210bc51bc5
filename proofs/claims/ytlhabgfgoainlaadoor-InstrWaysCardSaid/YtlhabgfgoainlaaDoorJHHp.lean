/- A heap as its things, in whatever order they lie: the contracts of New, Push, Peek, Pop, Len in these words. -/
import Derived.Test.YtlhabgfgoainlaaDoorJHPush
namespace Go.Proofs.YtlhabgfgoainlaaDoor.HI
open Go.RowKit

/-- A heap in block b, all of whose blocks are in F, has just the things L; p were ever pushed. -/
def Hp (F : Nat → Prop) (w : World) (b : Nat) (L : List T) (p : Nat) : Prop :=
  ∃ bm sv d, HeapAt w b bm sv d p ∧ Heapy T.key T.num d ∧ d.Perm L ∧ ∀ k, Foot b bm sv k → F k

section
variable {F : Nat → Prop} {w : World} {b p : Nat} {L : List T}
theorem Hp.kept {G : Nat → Prop} {w' : World} (h : Hp F w b L p) (ho : Only G w w') (hd : ∀ k, k < w.heap.size → F k → ¬ G k) : Hp F w' b L p := by
  obtain ⟨bm, sv, d, h1, h2, h3, h4⟩ := h
  refine ⟨bm, sv, d, h1.kept (F := fun k => k < w.heap.size → G k) ⟨ho.os, ho.tape, ho.output, ho.size, fun k hk hn => ho.block k hk (fun e => hn (fun _ => e))⟩ (fun k hk hn => ?_), h2, h3, h4⟩
  have hlt : k < w.heap.size := by
    rcases hk with e | e | e
    · rw [e]; exact h1.lt
    · rw [e]; exact h1.ltm
    · exact h1.ltg e
  exact hd k hlt (h4 k hk) (hn hlt)
theorem Hp.below {w' : World} (h : Hp F w b L p) (ho : Below w.heap.size w w') : Hp F w' b L p := h.kept (G := fun _ => False) (Only.of_below ho) (fun _ _ _ h => h)
theorem Hp.mono {G : Nat → Prop} (h : Hp F w b L p) (hG : ∀ k, F k → G k) : Hp G w b L p := by
  obtain ⟨bm, sv, d, h1, h2, h3, h4⟩ := h
  exact ⟨bm, sv, d, h1, h2, h3, fun k hk => hG k (h4 k hk)⟩
theorem Hp.perm {L' : List T} (h : Hp F w b L p) (hL : L.Perm L') : Hp F w b L' p := by
  obtain ⟨bm, sv, d, h1, h2, h3, h4⟩ := h
  exact ⟨bm, sv, d, h1, h2, h3.trans hL, h4⟩
theorem Hp.lt (h : Hp F w b L p) : b < w.heap.size := by obtain ⟨bm, sv, d, h1, _⟩ := h; exact h1.lt
theorem Hp.own (h : Hp F w b L p) : F b := by obtain ⟨bm, sv, d, h1, _, _, h4⟩ := h; exact h4 b (.inl rfl)
theorem mem_at {d : List T} {x : T} (h : x ∈ d) : ∃ i, i < d.length ∧ at_ d i = x := by
  obtain ⟨i, hi, e⟩ := List.getElem_of_mem h
  exact ⟨i, hi, by rw [at_eq d i hi]; exact e⟩
/-- The numbers of things: of 64 bits, less than how many were pushed, unlike. -/
theorem Hp.nums (h : Hp F w b L p) : (∀ x ∈ L, 0 ≤ x.num ∧ x.num < p) ∧ (∀ x ∈ L, ∀ y ∈ L, x.num = y.num → x = y) ∧ p ≤ 1099511627776 ∧ L.length ≤ p := by
  obtain ⟨bm, sv, d, h1, _, h3, _⟩ := h
  refine ⟨fun x hx => ?_, fun x hx y hy e => ?_, h1.lim, by rw [← h3.length_eq]; exact h1.len⟩
  · obtain ⟨i, hi, rfl⟩ := mem_at (h3.mem_iff.2 hx)
    exact h1.num i hi
  · obtain ⟨i, hi, rfl⟩ := mem_at (h3.mem_iff.2 hx)
    obtain ⟨j, hj, rfl⟩ := mem_at (h3.mem_iff.2 hy)
    obtain ⟨f, _, hpl⟩ := h1.map
    rw [hpl.inj hi hj e]
end

theorem hp_new (w : World) :
    Calls Tryd.prog 45 #[] w fun e w' => ∃ b, e = .returned (.pointer (some ⟨b, 0, none⟩)) ∧ Hp (fun k => w.heap.size ≤ k) w' b [] 0 ∧ Below w.heap.size w w' :=
  (new_any w).mono fun e w' ⟨he, hH, hb⟩ => ⟨_, he, ⟨_, _, _, hH, fun i h1 h2 => by simp at h2, List.Perm.refl _, fun k hk => by
    rcases hk with e | e | e
    · omega
    · omega
    · simp [Value.ownBlock] at e⟩, hb⟩

section
variable {F : Nat → Prop} {w : World} {b p : Nat} {L : List T}
theorem hp_push (h : Hp F w b L p) (hlim : p < 1099511627776) (hF : ∀ k, w.heap.size ≤ k → F k) (key v : Int) :
    Calls Tryd.prog 64 #[.pointer (some ⟨b, 0, none⟩), .int .i64 key, .int .i64 v] w fun e w' => e = .returned (.int .i64 p) ∧ Hp F w' b (L ++ [⟨key, p, v⟩]) (p + 1) ∧ Only F w w' := by
  obtain ⟨bm, sv, d, h1, h2, h3, h4⟩ := h
  refine (push_any h1 h2 hlim key v).mono fun e w' ⟨he, d', sv', g1, g2, g3, g4, g5⟩ => ⟨he, ⟨bm, sv', d', g1, g3, g2.trans (h3.append_right _), fun k hk => ?_⟩, g5.mono (fun k _ hk => h4 k hk)⟩
  rcases hk with e | e | e
  · exact h4 k (.inl e)
  · exact h4 k (.inr (.inl e))
  · rcases g4 k e with e | e
    · exact h4 k (.inr (.inr e))
    · exact hF k e
theorem hp_len (h : Hp F w b L p) :
    Calls Tryd.prog 82 #[.pointer (some ⟨b, 0, none⟩)] w fun e w' => e = .returned (.int .i64 L.length) ∧ w = w' := by
  obtain ⟨bm, sv, d, h1, h2, h3, h4⟩ := h
  rw [← h3.length_eq]
  exact len_any h1
theorem hp_peek_none (h : Hp F w b [] p) :
    Calls Tryd.prog 65 #[.pointer (some ⟨b, 0, none⟩)] w fun e w' => e = .returned (.tuple #[.int .i64 0, .int .i64 0, .int .i64 0, .bool false]) ∧ w = w' := by
  obtain ⟨bm, sv, d, h1, h2, h3, h4⟩ := h
  exact peek_none h1 (by rw [h3.length_eq]; rfl)
theorem hp_pop_none (h : Hp F w b [] p) :
    Calls Tryd.prog 47 #[.pointer (some ⟨b, 0, none⟩)] w fun e w' => e = .returned (.tuple #[.int .i64 0, .int .i64 0, .int .i64 0, .bool false]) ∧ w = w' := by
  obtain ⟨bm, sv, d, h1, h2, h3, h4⟩ := h
  exact pop_none h1 (by rw [h3.length_eq]; rfl)
/-- x is the first of the things. -/
def IsFirst (x : T) (L : List T) : Prop := x ∈ L ∧ ∀ y ∈ L, le_ T.key T.num x y
theorem first_of {d : List T} (h : Heapy T.key T.num d) (h0 : 0 < d.length) (hp : d.Perm L) : IsFirst (at_ d 0) L :=
  ⟨hp.mem_iff.1 (at_mem d 0 h0), fun y hy => by
    obtain ⟨i, hi, rfl⟩ := mem_at (hp.mem_iff.2 hy)
    exact heap_first h i hi⟩
theorem hp_peek_some (h : Hp F w b L p) (h0 : 0 < L.length) :
    Calls Tryd.prog 65 #[.pointer (some ⟨b, 0, none⟩)] w fun e w' => ∃ x, e = .returned (.tuple #[.int .i64 x.key, .int .i64 x.v, .int .i64 x.num, .bool true]) ∧ IsFirst x L ∧ Below w.heap.size w w' := by
  obtain ⟨bm, sv, d, h1, h2, h3, h4⟩ := h
  have h0' : 0 < d.length := by rw [h3.length_eq]; exact h0
  exact (peek_some h1 h0').mono fun e w' ⟨he, hb⟩ => ⟨at_ d 0, he, first_of h2 h0' h3, hb⟩
theorem hp_pop_some (h : Hp F w b L p) (h0 : 0 < L.length) :
    Calls Tryd.prog 47 #[.pointer (some ⟨b, 0, none⟩)] w fun e w' => ∃ x L', e = .returned (.tuple #[.int .i64 x.key, .int .i64 x.v, .int .i64 x.num, .bool true]) ∧ IsFirst x L ∧ (x :: L').Perm L ∧ Hp F w' b L' p ∧ Only F w w' := by
  obtain ⟨bm, sv, d, h1, h2, h3, h4⟩ := h
  have h0' : 0 < d.length := by rw [h3.length_eq]; exact h0
  refine (pop_some h1 h2 h0').mono fun e w' ⟨he, d', sv', g1, g2, g3, g4, g5⟩ => ⟨at_ d 0, d', he, first_of h2 h0' h3, g2.trans h3, ⟨bm, sv', d', g1, g3, List.Perm.refl _, fun k hk => ?_⟩, g5.mono (fun k _ hk => h4 k hk)⟩
  rcases hk with e | e | e
  · exact h4 k (.inl e)
  · exact h4 k (.inr (.inl e))
  · exact h4 k (.inr (.inr (by rw [← g4]; exact e)))
end
end Go.Proofs.YtlhabgfgoainlaaDoor.HI
