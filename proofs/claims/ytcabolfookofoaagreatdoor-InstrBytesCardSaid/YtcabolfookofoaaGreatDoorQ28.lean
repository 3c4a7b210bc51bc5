/- A part of the proof: JHOrd, JHPlain. No condition. -/
import Derived.Test.YtcabolfookofoaaGreatDoorQ27
set_option linter.unusedVariables false
set_option linter.unusedSimpArgs false
namespace Go.Proofs.YtcabolfookofoaaGreatDoor
open Go.RowKit
set_option maxHeartbeats 1000000 in
theorem order_any (k1 n1 v1 k2 n2 v2 : Int) (w : World) :
   Calls Tryz.prog 164 #[.agg #[.int .i64 k1, .int .i64 n1, .int .i64 v1], .agg #[.int .i64 k2, .int .i64 n2, .int .i64 v2]] w fun e w' => e = .returned (.int .i64 (ordI k1 n1 k2 n2)) ∧ Below w.heap.size w w' := by
 obtain ⟨c1, hc1⟩ := exHid (cmpI k1 k2);obtain ⟨c2, hc2⟩ := exHid (cmpI n1 n2);have C1 : ∀ w, Calls Tryz.prog 168 #[.int .i64 k1, .int .i64 k2] w fun e w' => e = .returned (.int .i64 c1) ∧ w = w' := fun w => by have := cmp64_any k1 k2 w; rw [hc1.out] at this; exact this
 have C2 : ∀ w, Calls Tryz.prog 169 #[.int .i64 n1, .int .i64 n2] w fun e w' => e = .returned (.int .i64 c2) ∧ w = w' := fun w => by have := cmpInt_any n1 n2 w; rw [hc2.out] at this; exact this
 replace C1 := Lib.hid C1;replace C2 := Lib.hid C2;go_enter Tryz.func164, Tryz.ntmps164
 go_wp2
 have f0 := (((Below.refl w.heap.size w).alloc (Nat.le_refl _) (Obj.cells #[Value.int IntKind.i64 k1, Value.int IntKind.i64 n1, Value.int IntKind.i64 v1] 176)).alloc (by simp) (Obj.cells #[Value.int IntKind.i64 k2, Value.int IntKind.i64 n2, Value.int IntKind.i64 v2] 176));have f1 : ((w.alloc (Obj.cells #[Value.int IntKind.i64 k1, Value.int IntKind.i64 n1, Value.int IntKind.i64 v1] 176)).alloc (Obj.cells #[Value.int IntKind.i64 k2, Value.int IntKind.i64 n2, Value.int IntKind.i64 v2] 176)).cell? ⟨w.heap.size, 0, none⟩ = some (.int .i64 k1) := by simp
 have f2 : ((w.alloc (Obj.cells #[Value.int IntKind.i64 k1, Value.int IntKind.i64 n1, Value.int IntKind.i64 v1] 176)).alloc (Obj.cells #[Value.int IntKind.i64 k2, Value.int IntKind.i64 n2, Value.int IntKind.i64 v2] 176)).cell? ⟨w.heap.size, 1, none⟩ = some (.int .i64 n1) := by simp
 have f3 : ((w.alloc (Obj.cells #[Value.int IntKind.i64 k1, Value.int IntKind.i64 n1, Value.int IntKind.i64 v1] 176)).alloc (Obj.cells #[Value.int IntKind.i64 k2, Value.int IntKind.i64 n2, Value.int IntKind.i64 v2] 176)).cell? ⟨w.heap.size + 1, 0, none⟩ = some (.int .i64 k2) := by simp
 have f4 : ((w.alloc (Obj.cells #[Value.int IntKind.i64 k1, Value.int IntKind.i64 n1, Value.int IntKind.i64 v1] 176)).alloc (Obj.cells #[Value.int IntKind.i64 k2, Value.int IntKind.i64 n2, Value.int IntKind.i64 v2] 176)).cell? ⟨w.heap.size + 1, 1, none⟩ = some (.int .i64 n2) := by simp
 go_region_held3 (fun w' => w'.cell? ⟨w.heap.size, 0, none⟩ = some (.int .i64 k1) ∧ w'.cell? ⟨w.heap.size, 1, none⟩ = some (.int .i64 n1) ∧ w'.cell? ⟨w.heap.size + 1, 0, none⟩ = some (.int .i64 k2) ∧ w'.cell? ⟨w.heap.size + 1, 1, none⟩ = some (.int .i64 n2))
   (first
     | exact ⟨f1, f2, f3, f4⟩
     | go_keep)
   (first
   | (go_at_call 168; refine (C1.out _).mono ?_; rintro e w' ⟨rfl, rfl⟩)
   | (go_at_call 169; refine (C2.out _).mono ?_; rintro e w' ⟨rfl, rfl⟩)
   | (go_at_call 167; refine (or2_any _ c1 c2 _ (by first | exact cell_top (by simp) rfl | exact cell_top_drew (by simp) rfl) (by first | exact cell_top (by simp) rfl | exact cell_top_drew (by simp) rfl)).mono ?_; rintro e w' ⟨rfl, rfl⟩))
 all_goals
   go_wp2
   go_ret
   refine ⟨ret_int (by show _ = orI (cmpI k1 k2) (cmpI n1 n2); rw [hc1.out, hc2.out]), by go_grown⟩
end Go.Proofs.YtcabolfookofoaaGreatDoor
namespace Go.Proofs.YtcabolfookofoaaGreatDoor
open Go.RowKit
section
variable {α : Type} [Inhabited α]
def at_ (d : List α) (i : Nat) : α := d.getD i default
theorem at_eq (d : List α) (i : Nat) (h : i < d.length) : at_ d i = d[i] := by simp [at_, List.getD, List.getElem?_eq_getElem h]
theorem at_mem (d : List α) (i : Nat) (h : i < d.length) : at_ d i ∈ d := by rw [at_eq d i h]; exact List.getElem_mem h
theorem at_set (d : List α) (a i : Nat) (x : α) (ha : a < d.length) : at_ (d.set a x) i = if i = a then x else at_ d i := by
 unfold at_;simp only [List.getD, List.getElem?_set];by_cases h : a = i
 · subst h; simp [ha]
 · rw [if_neg h, if_neg (fun e => h e.symm)]
theorem at_take (d : List α) (n i : Nat) (h : i < n) : at_ (d.take n) i = at_ d i := by
 unfold at_;simp [List.getD, h]
theorem at_snoc (d : List α) (x : α) (i : Nat) (h : i < d.length) : at_ (d ++ [x]) i = at_ d i := by
 unfold at_;simp [List.getD, List.getElem?_append_left h]
theorem at_last (d : List α) (x : α) : at_ (d ++ [x]) d.length = x := by
 unfold at_;simp [List.getD]
theorem ext_at {d e : List α} (hl : d.length = e.length) (h : ∀ i, i < d.length → at_ d i = at_ e i) : d = e := by
 apply List.ext_getElem hl
 intro i h1 h2;rw [← at_eq d i h1, ← at_eq e i h2];exact h i h1
def swp (d : List α) (a c : Nat) : List α := (d.set a (at_ d c)).set c (at_ d a)
theorem swp_length (d : List α) (a c : Nat) : (swp d a c).length = d.length := by simp [swp]
theorem swp_at (d : List α) (a c i : Nat) (ha : a < d.length) (hc : c < d.length) : at_ (swp d a c) i = if i = c then at_ d a else if i = a then at_ d c else at_ d i := by
 unfold swp;rw [at_set _ _ _ _ (by simpa using hc)];split
 · rfl
 · rw [at_set _ _ _ _ ha]
theorem swp_perm (d : List α) (a c : Nat) (ha : a < d.length) (hc : c < d.length) : (swp d a c).Perm d := by
 unfold swp;rw [at_eq d a ha, at_eq d c hc];exact List.set_set_perm ha hc
theorem swp_same (d : List α) (a : Nat) (ha : a < d.length) : swp d a a = d := by
 apply ext_at (swp_length d a a)
 intro i hi;rw [swp_at d a a i ha ha];split
 · subst_vars; rfl
 · rfl
variable (ky nu : α → Int)
def lt_ (x y : α) : Prop := lexLt (ky x) (nu x) (ky y) (nu y)
def le_ (x y : α) : Prop := ¬ lt_ ky nu y x
variable {ky nu}
omit [Inhabited α] in
theorem le_refl_ (x : α) : le_ ky nu x x := by unfold le_ lt_ lexLt; omega
omit [Inhabited α] in
theorem le_trans_ {x y z : α} (h : le_ ky nu x y) (g : le_ ky nu y z) : le_ ky nu x z := by unfold le_ lt_ lexLt at *; omega
omit [Inhabited α] in
theorem le_of_lt_ {x y : α} (h : lt_ ky nu x y) : le_ ky nu x y := by unfold le_ lt_ lexLt at *; omega
variable (ky nu)
def Heapy (d : List α) : Prop := ∀ i, 0 < i → i < d.length → le_ ky nu (at_ d ((i - 1) / 2)) (at_ d i)
def Ex_ (d : List α) (p : Nat) : Prop :=
 (∀ i, 0 < i → i < d.length → i ≠ p → (i - 1) / 2 ≠ p → le_ ky nu (at_ d ((i - 1) / 2)) (at_ d i)) ∧
 (∀ i, 0 < i → i < d.length → (i - 1) / 2 = p → 0 < p → le_ ky nu (at_ d ((p - 1) / 2)) (at_ d i))
def Down_ (d : List α) (p : Nat) : Prop := Ex_ ky nu d p ∧ (0 < p → le_ ky nu (at_ d ((p - 1) / 2)) (at_ d p))
def Up_ (d : List α) (p : Nat) : Prop := Ex_ ky nu d p ∧ ∀ i, 0 < i → i < d.length → (i - 1) / 2 = p → le_ ky nu (at_ d p) (at_ d i)
variable {ky nu} {d : List α}
theorem heap_of_up {p : Nat} (hp : p < d.length) (h : Up_ ky nu d p) (h0 : p = 0 ∨ ¬ lt_ ky nu (at_ d p) (at_ d ((p - 1) / 2))) : Heapy ky nu d := by
 intro i h1 h2;by_cases e : i = p
 · subst e; rcases h0 with h0 | h0
   · omega
   · exact h0
 · by_cases e2 : (i - 1) / 2 = p
   · rw [e2]; exact h.2 i h1 h2 e2
   · exact h.1.1 i h1 h2 e e2
theorem down_of_ex {p : Nat} (h : Ex_ ky nu d p) (h0 : p = 0 ∨ ¬ lt_ ky nu (at_ d p) (at_ d ((p - 1) / 2))) : Down_ ky nu d p :=
 ⟨h, fun hp => by rcases h0 with h0 | h0; omega; exact h0⟩
theorem down_of_heap {p : Nat} (hp : p < d.length) (h : Heapy ky nu d) : Down_ ky nu d p :=
 ⟨⟨fun i h1 h2 _ _ => h i h1 h2, fun i h1 h2 e h0 => by
   have a := h p h0 hp;have b := h i h1 h2;rw [e] at b;exact le_trans_ a b⟩, fun h0 => h p h0 hp⟩
theorem heap_of_down {p : Nat} (h : Down_ ky nu d p) (hc : ∀ i, 0 < i → i < d.length → (i - 1) / 2 = p → le_ ky nu (at_ d p) (at_ d i)) : Heapy ky nu d := by
 intro i h1 h2;by_cases e : i = p
 · subst e; exact h.2 h1
 · by_cases e2 : (i - 1) / 2 = p
   · rw [e2]; exact hc i h1 h2 e2
   · exact h.1.1 i h1 h2 e e2
theorem up_step {p : Nat} (h0 : 0 < p) (hp : p < d.length) (h : Ex_ ky nu d p) (hl : lt_ ky nu (at_ d p) (at_ d ((p - 1) / 2))) : Up_ ky nu (swp d p ((p - 1) / 2)) ((p - 1) / 2) := by
 have hq : (p - 1) / 2 < d.length := by omega
 have hqp : (p - 1) / 2 ≠ p := by omega
 have A := fun i => swp_at d p ((p - 1) / 2) i hp hq
 have hll := swp_length d p ((p - 1) / 2);generalize hqe : (p - 1) / 2 = q at *;generalize hde : swp d p q = d' at *;have Ap : at_ d' p = at_ d q := by rw [A, if_neg (fun e => hqp e.symm), if_pos rfl]
 have Aq : at_ d' q = at_ d p := by rw [A, if_pos rfl]
 have Ao : ∀ i, i ≠ p → i ≠ q → at_ d' i = at_ d i := fun i h1 h2 => by rw [A, if_neg h2, if_neg h1]
 have hlq := le_of_lt_ hl;have top : 0 < q → le_ ky nu (at_ d ((q - 1) / 2)) (at_ d q) := fun hq0 => h.1 q hq0 hq hqp (by omega);have kid : ∀ i, 0 < i → i < d'.length → (i - 1) / 2 = q → le_ ky nu (at_ d q) (at_ d' i) := by
   intro i h1 h2 e;by_cases e1 : i = p
   · rw [e1, Ap]; exact le_refl_ _
   · rw [Ao i e1 (by omega)]
     have := h.1 i h1 (by omega) e1 (by omega);rw [e] at this;exact this
 refine ⟨⟨?_, ?_⟩, ?_⟩
 · intro i h1 h2 h3 h4
   rw [hll] at h2;by_cases e1 : i = p
   · exact absurd (by rw [e1, hqe]) h4
   · by_cases e2 : (i - 1) / 2 = p
     · rw [e2, Ap, Ao i e1 h3]
       have := h.2 i h1 h2 e2 h0;rw [hqe] at this;exact this
     · rw [Ao _ e2 h4, Ao i e1 h3]
       exact h.1 i h1 h2 e1 e2
 · intro i h1 h2 e hq0
   rw [Ao ((q - 1) / 2) (by omega) (by omega)];exact le_trans_ (top hq0) (kid i h1 h2 e)
 · intro i h1 h2 e
   rw [Aq];exact le_trans_ hlq (kid i h1 h2 e)
theorem down_step {p f : Nat} (hp : p < d.length) (hf : f < d.length) (hfp : (f - 1) / 2 = p) (h0 : 0 < f) (h : Down_ ky nu d p) (hl : lt_ ky nu (at_ d f) (at_ d p)) (ho : ∀ i, 0 < i → i < d.length → (i - 1) / 2 = p → le_ ky nu (at_ d f) (at_ d i)) : Down_ ky nu (swp d p f) f := by
 have hne : p ≠ f := by omega
 have A := fun i => swp_at d p f i hp hf
 have hll := swp_length d p f;generalize hde : swp d p f = d' at *;have Af : at_ d' f = at_ d p := by rw [A, if_pos rfl]
 have Ap : at_ d' p = at_ d f := by rw [A, if_neg hne, if_pos rfl]
 have Ao : ∀ i, i ≠ p → i ≠ f → at_ d' i = at_ d i := fun i h1 h2 => by rw [A, if_neg h2, if_neg h1]
 refine ⟨⟨?_, ?_⟩, ?_⟩
 · intro i h1 h2 h3 h4
   rw [hll] at h2;by_cases e1 : i = p
   · subst e1
     rw [Ap, Ao _ (by omega) (by omega)];exact h.1.2 f h0 hf hfp h1
   · by_cases e2 : (i - 1) / 2 = p
     · rw [e2, Ap, Ao i e1 h3]
       exact ho i h1 h2 e2
     · rw [Ao _ e2 h4, Ao i e1 h3]
       exact h.1.1 i h1 h2 e1 e2
 · intro i h1 h2 e hf0
   rw [hfp, Ap, Ao i (by omega) (by omega)];have := h.1.1 i h1 (by omega) (by omega) (by omega);rw [e] at this;exact this
 · intro _
   rw [hfp, Ap, Af];exact le_of_lt_ hl
theorem heap_first (h : Heapy ky nu d) : ∀ i, i < d.length → le_ ky nu (at_ d 0) (at_ d i) := by
 intro i
 induction i using Nat.strongRecOn with
 | _ i ih =>
   intro hi;by_cases h0 : i = 0
   · subst h0; exact le_refl_ _
   · exact le_trans_ (ih ((i - 1) / 2) (by omega) (by omega)) (h i (by omega) hi)
theorem ex_push (h : Heapy ky nu d) (x : α) : Ex_ ky nu (d ++ [x]) d.length := by
 constructor
 · intro i h1 h2 h3 h4
   have h5 : i < d.length := by simp at h2; omega
   rw [at_snoc d x i h5, at_snoc d x _ (by omega)];exact h i h1 h5
 · intro i h1 h2 h3 h4
   simp at h2
   omega
theorem heap_of_down_last {p : Nat} (hp : p + 1 = d.length) (h : Down_ ky nu d p) : Heapy ky nu d :=
 heap_of_down h (fun i h1 h2 e => by omega)
theorem ex_cut {p n : Nat} (hn : n + 1 = d.length) (hp : p < n) (h : Heapy ky nu d) : Ex_ ky nu ((swp d p n).take n) p := by
 have hl : ((swp d p n).take n).length = n := by rw [List.length_take, swp_length]; omega
 have A : ∀ i, i < n → i ≠ p → at_ ((swp d p n).take n) i = at_ d i := by
   intro i hi hne;rw [at_take _ _ _ hi, swp_at d p n i (by omega) (by omega), if_neg (by omega), if_neg hne]
 constructor
 · intro i h1 h2 h3 h4
   rw [hl] at h2;rw [A i h2 h3, A _ (by omega) h4];exact h i h1 (by omega)
 · intro i h1 h2 h3 h4
   rw [hl] at h2;rw [A i h2 (by omega), A _ (by omega) (by omega)];have a := h p h4 (by omega);have b := h i h1 (by omega);rw [h3] at b;exact le_trans_ a b
theorem heap_cut {n : Nat} (h : Heapy ky nu d) (hn : n + 1 = d.length) : Heapy ky nu (d.take n) := by
 intro i h1 h2;have h3 : i < n := by simp at h2; omega
 rw [at_take _ _ _ h3, at_take _ _ _ (by omega)];exact h i h1 (by omega)
variable (nu)
def Pl (f : Int → Option Nat) (d : List α) : Prop := (∀ i, i < d.length → f (nu (at_ d i)) = some i) ∧ ∀ x i, f x = some i → i < d.length ∧ nu (at_ d i) = x
variable {nu} {f : Int → Option Nat}
theorem Pl.inj (h : Pl nu f d) {i j : Nat} (hi : i < d.length) (hj : j < d.length) (e : nu (at_ d i) = nu (at_ d j)) : i = j := by
 have a := h.1 i hi;have b := h.1 j hj;rw [e, b] at a;injection a with a;exact a.symm
theorem Pl.nil : Pl nu (fun _ => none) ([] : List α) := ⟨fun i h => by simp at h, fun x i h => by simp at h⟩
theorem Pl.swp (h : Pl nu f d) {a c : Nat} (ha : a < d.length) (hc : c < d.length) :
   Pl nu (fun y => if y = nu (at_ (Go.Proofs.YtcabolfookofoaaGreatDoor.swp d a c) c) then some c else if y = nu (at_ (Go.Proofs.YtcabolfookofoaaGreatDoor.swp d a c) a) then some a else f y) (Go.Proofs.YtcabolfookofoaaGreatDoor.swp d a c) := by
 have A := fun i => swp_at d a c i ha hc
 have hll := swp_length d a c;generalize hde : Go.Proofs.YtcabolfookofoaaGreatDoor.swp d a c = d' at *;have back : ∀ i, i < d.length → i ≠ a → i ≠ c → at_ d' i = at_ d i := fun i _ h1 h2 => by rw [A, if_neg h2, if_neg h1]
 have Ac : at_ d' c = at_ d a := by rw [A, if_pos rfl]
 have Aa : at_ d' a = at_ d c := by
   rw [A]; split
   · next e => rw [e]
   · rw [if_pos rfl]
 constructor
 · intro i hi
   dsimp only;rw [hll] at hi;by_cases e1 : i = c
   · subst e1; simp
   · by_cases e2 : i = a
     · subst e2
       rw [if_neg (by rw [Aa, Ac]; intro e; exact e1 (h.inj hi hc e.symm)), if_pos rfl]
     · rw [back i hi e2 e1, if_neg (by rw [Ac]; intro e; exact e2 (h.inj hi ha e)), if_neg (by rw [Aa]; intro e; exact e1 (h.inj hi hc e))]
       exact h.1 i hi
 · intro x i hx
   dsimp only at hx;rw [hll];split at hx
   · next e => injection hx with hx; subst hx; exact ⟨hc, e.symm⟩
   · split at hx
     · next e => injection hx with hx; subst hx; exact ⟨ha, e.symm⟩
     · next e1 e2 =>
       obtain ⟨h1, h2⟩ := h.2 x i hx;refine ⟨h1, ?_⟩;rw [back i h1 (fun e => e1 (by rw [Ac, ← h2, e])) (fun e => e2 (by rw [Aa, ← h2, e]))];exact h2
theorem Pl.cut (h : Pl nu f d) {n : Nat} (hn : n + 1 = d.length) : Pl nu (fun y => if y = nu (at_ d n) then none else f y) (d.take n) := by
 constructor
 · intro i hi
   dsimp only;have h3 : i < n := by simp at hi; omega
   rw [at_take _ _ _ h3, if_neg (fun e => by have := h.inj (by omega) (by omega) e; omega)];exact h.1 i (by omega)
 · intro x i hx
   dsimp only at hx;split at hx
   · simp at hx
   · next e =>
     obtain ⟨h1, h2⟩ := h.2 x i hx;have h3 : i < n := by
       by_cases h4 : i = n
       · subst h4; exact absurd h2.symm e
       · omega
     exact ⟨by simp; omega, by rw [at_take _ _ _ h3]; exact h2⟩
theorem Pl.snoc (h : Pl nu f d) {x : α} (hx : f (nu x) = none) : Pl nu (fun y => if y = nu x then some d.length else f y) (d ++ [x]) := by
 constructor
 · intro i hi
   dsimp only;simp at hi
   by_cases e : i < d.length
   · rw [at_snoc _ _ _ e, if_neg (fun e2 => by have := h.1 i e; rw [e2, hx] at this; simp at this)]
     exact h.1 i e
   · have : i = d.length := by omega
     subst this;rw [at_last, if_pos rfl]
 · intro y i hy
   dsimp only at hy;split at hy
   · next e => injection hy with hy; subst hy; exact ⟨by simp, by rw [at_last, e]⟩
   · obtain ⟨h1, h2⟩ := h.2 y i hy
     exact ⟨by simp; omega, by rw [at_snoc _ _ _ h1]; exact h2⟩
end
end Go.Proofs.YtcabolfookofoaaGreatDoor
