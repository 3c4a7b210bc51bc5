/- A part of the proof: JHOrd, JHPlain, JMapF, JHMem, JHSwap0, JHSwap. No condition. -/
import Derived.Maps.OwnSet
import Derived.Deep.RegionHeld3
import Derived.BigRegion
import Derived.BigQuiet
import Derived.Deep.QuietTactic
import Derived.Test.YtefijbpbenmbgaaDoorQ01
import Derived.Test.YtefijbpbenmbgaaDoorQ14
set_option linter.unusedVariables false
set_option linter.unusedSimpArgs false
namespace Go.Proofs.YtefijbpbenmbgaaDoor
open Go.RowKit
set_option maxHeartbeats 1000000 in
theorem order_any (k1 n1 v1 k2 n2 v2 : Int) (w : World) :
   Calls Tryd.prog 86 #[.agg #[.int .i64 k1, .int .i64 n1, .int .i64 v1], .agg #[.int .i64 k2, .int .i64 n2, .int .i64 v2]] w fun e w' => e = .returned (.int .i64 (ordI k1 n1 k2 n2)) ∧ Below w.heap.size w w' := by
 obtain ⟨c1, hc1⟩ := exHid (cmpI k1 k2);obtain ⟨c2, hc2⟩ := exHid (cmpI n1 n2);have C1 : ∀ w, Calls Tryd.prog 88 #[.int .i64 k1, .int .i64 k2] w fun e w' => e = .returned (.int .i64 c1) ∧ w = w' := fun w => by have := cmp64_any k1 k2 w; rw [hc1.out] at this; exact this
 have C2 : ∀ w, Calls Tryd.prog 89 #[.int .i64 n1, .int .i64 n2] w fun e w' => e = .returned (.int .i64 c2) ∧ w = w' := fun w => by have := cmpInt_any n1 n2 w; rw [hc2.out] at this; exact this
 replace C1 := Lib.hid C1;replace C2 := Lib.hid C2;go_enter Tryd.func86, Tryd.ntmps86
 go_wp2
 have f0 := (((Below.refl w.heap.size w).alloc (Nat.le_refl _) (Obj.cells #[Value.int IntKind.i64 k1, Value.int IntKind.i64 n1, Value.int IntKind.i64 v1] 123)).alloc (by simp) (Obj.cells #[Value.int IntKind.i64 k2, Value.int IntKind.i64 n2, Value.int IntKind.i64 v2] 123));have f1 : ((w.alloc (Obj.cells #[Value.int IntKind.i64 k1, Value.int IntKind.i64 n1, Value.int IntKind.i64 v1] 123)).alloc (Obj.cells #[Value.int IntKind.i64 k2, Value.int IntKind.i64 n2, Value.int IntKind.i64 v2] 123)).cell? ⟨w.heap.size, 0, none⟩ = some (.int .i64 k1) := by simp
 have f2 : ((w.alloc (Obj.cells #[Value.int IntKind.i64 k1, Value.int IntKind.i64 n1, Value.int IntKind.i64 v1] 123)).alloc (Obj.cells #[Value.int IntKind.i64 k2, Value.int IntKind.i64 n2, Value.int IntKind.i64 v2] 123)).cell? ⟨w.heap.size, 1, none⟩ = some (.int .i64 n1) := by simp
 have f3 : ((w.alloc (Obj.cells #[Value.int IntKind.i64 k1, Value.int IntKind.i64 n1, Value.int IntKind.i64 v1] 123)).alloc (Obj.cells #[Value.int IntKind.i64 k2, Value.int IntKind.i64 n2, Value.int IntKind.i64 v2] 123)).cell? ⟨w.heap.size + 1, 0, none⟩ = some (.int .i64 k2) := by simp
 have f4 : ((w.alloc (Obj.cells #[Value.int IntKind.i64 k1, Value.int IntKind.i64 n1, Value.int IntKind.i64 v1] 123)).alloc (Obj.cells #[Value.int IntKind.i64 k2, Value.int IntKind.i64 n2, Value.int IntKind.i64 v2] 123)).cell? ⟨w.heap.size + 1, 1, none⟩ = some (.int .i64 n2) := by simp
 go_region_held3 (fun w' => w'.cell? ⟨w.heap.size, 0, none⟩ = some (.int .i64 k1) ∧ w'.cell? ⟨w.heap.size, 1, none⟩ = some (.int .i64 n1) ∧ w'.cell? ⟨w.heap.size + 1, 0, none⟩ = some (.int .i64 k2) ∧ w'.cell? ⟨w.heap.size + 1, 1, none⟩ = some (.int .i64 n2))
   (first
     | exact ⟨f1, f2, f3, f4⟩
     | go_keep)
   (first
   | (go_at_call 88; refine (C1.out _).mono ?_; rintro e w' ⟨rfl, rfl⟩)
   | (go_at_call 89; refine (C2.out _).mono ?_; rintro e w' ⟨rfl, rfl⟩)
   | (go_at_call 87; refine (or2_any _ c1 c2 _ (by first | exact cell_top (by simp) rfl | exact cell_top_drew (by simp) rfl) (by first | exact cell_top (by simp) rfl | exact cell_top_drew (by simp) rfl)).mono ?_; rintro e w' ⟨rfl, rfl⟩))
 all_goals
   go_wp2
   go_ret
   refine ⟨ret_int (by show _ = orI (cmpI k1 k2) (cmpI n1 n2); rw [hc1.out, hc2.out]), by go_grown⟩
end Go.Proofs.YtefijbpbenmbgaaDoor
namespace Go.Proofs.YtefijbpbenmbgaaDoor
open Go.RowKit
section
variable {α : Type} [Inhabited α]
def at_ (d : List α) (i : Nat) : α := d.getD i default
theorem at_eq (d : List α) (i : Nat) (h : i < d.length) : at_ d i = d[i] := by simp [at_, List.getD, List.getElem?_eq_getElem h]
theorem at_mem (d : List α) (i : Nat) (h : i < d.length) : at_ d i ∈ d := by rw [at_eq d i h]; exact List.getElem_mem h
theorem at_set (d : List α) (a i : Nat) (x : α) (ha : a < d.length) : at_ (d.set a x) i = if i = a then x else at_ d i := by
 unfold at_;simp only [List.getD, List.getElem?_set];by_cases h : a = i
 · subst h; simp [ha]
 · rw [if_neg h, if_neg (fun e => h e.symm)]
theorem at_take (d : List α) (n i : Nat) (h : i < n) : at_ (d.take n) i = at_ d i := by
 unfold at_;simp [List.getD, h]
theorem at_snoc (d : List α) (x : α) (i : Nat) (h : i < d.length) : at_ (d ++ [x]) i = at_ d i := by
 unfold at_;simp [List.getD, List.getElem?_append_left h]
theorem at_last (d : List α) (x : α) : at_ (d ++ [x]) d.length = x := by
 unfold at_;simp [List.getD]
theorem ext_at {d e : List α} (hl : d.length = e.length) (h : ∀ i, i < d.length → at_ d i = at_ e i) : d = e := by
 apply List.ext_getElem hl
 intro i h1 h2;rw [← at_eq d i h1, ← at_eq e i h2];exact h i h1
def swp (d : List α) (a c : Nat) : List α := (d.set a (at_ d c)).set c (at_ d a)
theorem swp_length (d : List α) (a c : Nat) : (swp d a c).length = d.length := by simp [swp]
theorem swp_at (d : List α) (a c i : Nat) (ha : a < d.length) (hc : c < d.length) : at_ (swp d a c) i = if i = c then at_ d a else if i = a then at_ d c else at_ d i := by
 unfold swp;rw [at_set _ _ _ _ (by simpa using hc)];split
 · rfl
 · rw [at_set _ _ _ _ ha]
theorem swp_perm (d : List α) (a c : Nat) (ha : a < d.length) (hc : c < d.length) : (swp d a c).Perm d := by
 unfold swp;rw [at_eq d a ha, at_eq d c hc];exact List.set_set_perm ha hc
theorem swp_same (d : List α) (a : Nat) (ha : a < d.length) : swp d a a = d := by
 apply ext_at (swp_length d a a)
 intro i hi;rw [swp_at d a a i ha ha];split
 · subst_vars; rfl
 · rfl
variable (ky nu : α → Int)
def lt_ (x y : α) : Prop := lexLt (ky x) (nu x) (ky y) (nu y)
def le_ (x y : α) : Prop := ¬ lt_ ky nu y x
variable {ky nu}
omit [Inhabited α] in
theorem le_refl_ (x : α) : le_ ky nu x x := by unfold le_ lt_ lexLt; omega
omit [Inhabited α] in
theorem le_trans_ {x y z : α} (h : le_ ky nu x y) (g : le_ ky nu y z) : le_ ky nu x z := by unfold le_ lt_ lexLt at *; omega
omit [Inhabited α] in
theorem le_of_lt_ {x y : α} (h : lt_ ky nu x y) : le_ ky nu x y := by unfold le_ lt_ lexLt at *; omega
variable (ky nu)
def Heapy (d : List α) : Prop := ∀ i, 0 < i → i < d.length → le_ ky nu (at_ d ((i - 1) / 2)) (at_ d i)
def Ex_ (d : List α) (p : Nat) : Prop :=
 (∀ i, 0 < i → i < d.length → i ≠ p → (i - 1) / 2 ≠ p → le_ ky nu (at_ d ((i - 1) / 2)) (at_ d i)) ∧
 (∀ i, 0 < i → i < d.length → (i - 1) / 2 = p → 0 < p → le_ ky nu (at_ d ((p - 1) / 2)) (at_ d i))
def Down_ (d : List α) (p : Nat) : Prop := Ex_ ky nu d p ∧ (0 < p → le_ ky nu (at_ d ((p - 1) / 2)) (at_ d p))
def Up_ (d : List α) (p : Nat) : Prop := Ex_ ky nu d p ∧ ∀ i, 0 < i → i < d.length → (i - 1) / 2 = p → le_ ky nu (at_ d p) (at_ d i)
variable {ky nu} {d : List α}
theorem heap_of_up {p : Nat} (hp : p < d.length) (h : Up_ ky nu d p) (h0 : p = 0 ∨ ¬ lt_ ky nu (at_ d p) (at_ d ((p - 1) / 2))) : Heapy ky nu d := by
 intro i h1 h2;by_cases e : i = p
 · subst e; rcases h0 with h0 | h0
   · omega
   · exact h0
 · by_cases e2 : (i - 1) / 2 = p
   · rw [e2]; exact h.2 i h1 h2 e2
   · exact h.1.1 i h1 h2 e e2
theorem down_of_ex {p : Nat} (h : Ex_ ky nu d p) (h0 : p = 0 ∨ ¬ lt_ ky nu (at_ d p) (at_ d ((p - 1) / 2))) : Down_ ky nu d p :=
 ⟨h, fun hp => by rcases h0 with h0 | h0; omega; exact h0⟩
theorem down_of_heap {p : Nat} (hp : p < d.length) (h : Heapy ky nu d) : Down_ ky nu d p :=
 ⟨⟨fun i h1 h2 _ _ => h i h1 h2, fun i h1 h2 e h0 => by
   have a := h p h0 hp;have b := h i h1 h2;rw [e] at b;exact le_trans_ a b⟩, fun h0 => h p h0 hp⟩
theorem heap_of_down {p : Nat} (h : Down_ ky nu d p) (hc : ∀ i, 0 < i → i < d.length → (i - 1) / 2 = p → le_ ky nu (at_ d p) (at_ d i)) : Heapy ky nu d := by
 intro i h1 h2;by_cases e : i = p
 · subst e; exact h.2 h1
 · by_cases e2 : (i - 1) / 2 = p
   · rw [e2]; exact hc i h1 h2 e2
   · exact h.1.1 i h1 h2 e e2
theorem up_step {p : Nat} (h0 : 0 < p) (hp : p < d.length) (h : Ex_ ky nu d p) (hl : lt_ ky nu (at_ d p) (at_ d ((p - 1) / 2))) : Up_ ky nu (swp d p ((p - 1) / 2)) ((p - 1) / 2) := by
 have hq : (p - 1) / 2 < d.length := by omega
 have hqp : (p - 1) / 2 ≠ p := by omega
 have A := fun i => swp_at d p ((p - 1) / 2) i hp hq
 have hll := swp_length d p ((p - 1) / 2);generalize hqe : (p - 1) / 2 = q at *;generalize hde : swp d p q = d' at *;have Ap : at_ d' p = at_ d q := by rw [A, if_neg (fun e => hqp e.symm), if_pos rfl]
 have Aq : at_ d' q = at_ d p := by rw [A, if_pos rfl]
 have Ao : ∀ i, i ≠ p → i ≠ q → at_ d' i = at_ d i := fun i h1 h2 => by rw [A, if_neg h2, if_neg h1]
 have hlq := le_of_lt_ hl;have top : 0 < q → le_ ky nu (at_ d ((q - 1) / 2)) (at_ d q) := fun hq0 => h.1 q hq0 hq hqp (by omega);have kid : ∀ i, 0 < i → i < d'.length → (i - 1) / 2 = q → le_ ky nu (at_ d q) (at_ d' i) := by
   intro i h1 h2 e;by_cases e1 : i = p
   · rw [e1, Ap]; exact le_refl_ _
   · rw [Ao i e1 (by omega)]
     have := h.1 i h1 (by omega) e1 (by omega);rw [e] at this;exact this
 refine ⟨⟨?_, ?_⟩, ?_⟩
 · intro i h1 h2 h3 h4
   rw [hll] at h2;by_cases e1 : i = p
   · exact absurd (by rw [e1, hqe]) h4
   · by_cases e2 : (i - 1) / 2 = p
     · rw [e2, Ap, Ao i e1 h3]
       have := h.2 i h1 h2 e2 h0;rw [hqe] at this;exact this
     · rw [Ao _ e2 h4, Ao i e1 h3]
       exact h.1 i h1 h2 e1 e2
 · intro i h1 h2 e hq0
   rw [Ao ((q - 1) / 2) (by omega) (by omega)];exact le_trans_ (top hq0) (kid i h1 h2 e)
 · intro i h1 h2 e
   rw [Aq];exact le_trans_ hlq (kid i h1 h2 e)
theorem down_step {p f : Nat} (hp : p < d.length) (hf : f < d.length) (hfp : (f - 1) / 2 = p) (h0 : 0 < f) (h : Down_ ky nu d p) (hl : lt_ ky nu (at_ d f) (at_ d p)) (ho : ∀ i, 0 < i → i < d.length → (i - 1) / 2 = p → le_ ky nu (at_ d f) (at_ d i)) : Down_ ky nu (swp d p f) f := by
 have hne : p ≠ f := by omega
 have A := fun i => swp_at d p f i hp hf
 have hll := swp_length d p f;generalize hde : swp d p f = d' at *;have Af : at_ d' f = at_ d p := by rw [A, if_pos rfl]
 have Ap : at_ d' p = at_ d f := by rw [A, if_neg hne, if_pos rfl]
 have Ao : ∀ i, i ≠ p → i ≠ f → at_ d' i = at_ d i := fun i h1 h2 => by rw [A, if_neg h2, if_neg h1]
 refine ⟨⟨?_, ?_⟩, ?_⟩
 · intro i h1 h2 h3 h4
   rw [hll] at h2;by_cases e1 : i = p
   · subst e1
     rw [Ap, Ao _ (by omega) (by omega)];exact h.1.2 f h0 hf hfp h1
   · by_cases e2 : (i - 1) / 2 = p
     · rw [e2, Ap, Ao i e1 h3]
       exact ho i h1 h2 e2
     · rw [Ao _ e2 h4, Ao i e1 h3]
       exact h.1.1 i h1 h2 e1 e2
 · intro i h1 h2 e hf0
   rw [hfp, Ap, Ao i (by omega) (by omega)];have := h.1.1 i h1 (by omega) (by omega) (by omega);rw [e] at this;exact this
 · intro _
   rw [hfp, Ap, Af];exact le_of_lt_ hl
theorem heap_first (h : Heapy ky nu d) : ∀ i, i < d.length → le_ ky nu (at_ d 0) (at_ d i) := by
 intro i
 induction i using Nat.strongRecOn with
 | _ i ih =>
   intro hi;by_cases h0 : i = 0
   · subst h0; exact le_refl_ _
   · exact le_trans_ (ih ((i - 1) / 2) (by omega) (by omega)) (h i (by omega) hi)
theorem ex_push (h : Heapy ky nu d) (x : α) : Ex_ ky nu (d ++ [x]) d.length := by
 constructor
 · intro i h1 h2 h3 h4
   have h5 : i < d.length := by simp at h2; omega
   rw [at_snoc d x i h5, at_snoc d x _ (by omega)];exact h i h1 h5
 · intro i h1 h2 h3 h4
   simp at h2
   omega
theorem heap_of_down_last {p : Nat} (hp : p + 1 = d.length) (h : Down_ ky nu d p) : Heapy ky nu d :=
 heap_of_down h (fun i h1 h2 e => by omega)
theorem ex_cut {p n : Nat} (hn : n + 1 = d.length) (hp : p < n) (h : Heapy ky nu d) : Ex_ ky nu ((swp d p n).take n) p := by
 have hl : ((swp d p n).take n).length = n := by rw [List.length_take, swp_length]; omega
 have A : ∀ i, i < n → i ≠ p → at_ ((swp d p n).take n) i = at_ d i := by
   intro i hi hne;rw [at_take _ _ _ hi, swp_at d p n i (by omega) (by omega), if_neg (by omega), if_neg hne]
 constructor
 · intro i h1 h2 h3 h4
   rw [hl] at h2;rw [A i h2 h3, A _ (by omega) h4];exact h i h1 (by omega)
 · intro i h1 h2 h3 h4
   rw [hl] at h2;rw [A i h2 (by omega), A _ (by omega) (by omega)];have a := h p h4 (by omega);have b := h i h1 (by omega);rw [h3] at b;exact le_trans_ a b
theorem heap_cut {n : Nat} (h : Heapy ky nu d) (hn : n + 1 = d.length) : Heapy ky nu (d.take n) := by
 intro i h1 h2;have h3 : i < n := by simp at h2; omega
 rw [at_take _ _ _ h3, at_take _ _ _ (by omega)];exact h i h1 (by omega)
variable (nu)
def Pl (f : Int → Option Nat) (d : List α) : Prop := (∀ i, i < d.length → f (nu (at_ d i)) = some i) ∧ ∀ x i, f x = some i → i < d.length ∧ nu (at_ d i) = x
variable {nu} {f : Int → Option Nat}
theorem Pl.inj (h : Pl nu f d) {i j : Nat} (hi : i < d.length) (hj : j < d.length) (e : nu (at_ d i) = nu (at_ d j)) : i = j := by
 have a := h.1 i hi;have b := h.1 j hj;rw [e, b] at a;injection a with a;exact a.symm
theorem Pl.nil : Pl nu (fun _ => none) ([] : List α) := ⟨fun i h => by simp at h, fun x i h => by simp at h⟩
theorem Pl.swp (h : Pl nu f d) {a c : Nat} (ha : a < d.length) (hc : c < d.length) :
   Pl nu (fun y => if y = nu (at_ (Go.Proofs.YtefijbpbenmbgaaDoor.swp d a c) c) then some c else if y = nu (at_ (Go.Proofs.YtefijbpbenmbgaaDoor.swp d a c) a) then some a else f y) (Go.Proofs.YtefijbpbenmbgaaDoor.swp d a c) := by
 have A := fun i => swp_at d a c i ha hc
 have hll := swp_length d a c;generalize hde : Go.Proofs.YtefijbpbenmbgaaDoor.swp d a c = d' at *;have back : ∀ i, i < d.length → i ≠ a → i ≠ c → at_ d' i = at_ d i := fun i _ h1 h2 => by rw [A, if_neg h2, if_neg h1]
 have Ac : at_ d' c = at_ d a := by rw [A, if_pos rfl]
 have Aa : at_ d' a = at_ d c := by
   rw [A]; split
   · next e => rw [e]
   · rw [if_pos rfl]
 constructor
 · intro i hi
   dsimp only;rw [hll] at hi;by_cases e1 : i = c
   · subst e1; simp
   · by_cases e2 : i = a
     · subst e2
       rw [if_neg (by rw [Aa, Ac]; intro e; exact e1 (h.inj hi hc e.symm)), if_pos rfl]
     · rw [back i hi e2 e1, if_neg (by rw [Ac]; intro e; exact e2 (h.inj hi ha e)), if_neg (by rw [Aa]; intro e; exact e1 (h.inj hi hc e))]
       exact h.1 i hi
 · intro x i hx
   dsimp only at hx;rw [hll];split at hx
   · next e => injection hx with hx; subst hx; exact ⟨hc, e.symm⟩
   · split at hx
     · next e => injection hx with hx; subst hx; exact ⟨ha, e.symm⟩
     · next e1 e2 =>
       obtain ⟨h1, h2⟩ := h.2 x i hx;refine ⟨h1, ?_⟩;rw [back i h1 (fun e => e1 (by rw [Ac, ← h2, e])) (fun e => e2 (by rw [Aa, ← h2, e]))];exact h2
theorem Pl.cut (h : Pl nu f d) {n : Nat} (hn : n + 1 = d.length) : Pl nu (fun y => if y = nu (at_ d n) then none else f y) (d.take n) := by
 constructor
 · intro i hi
   dsimp only;have h3 : i < n := by simp at hi; omega
   rw [at_take _ _ _ h3, if_neg (fun e => by have := h.inj (by omega) (by omega) e; omega)];exact h.1 i (by omega)
 · intro x i hx
   dsimp only at hx;split at hx
   · simp at hx
   · next e =>
     obtain ⟨h1, h2⟩ := h.2 x i hx;have h3 : i < n := by
       by_cases h4 : i = n
       · subst h4; exact absurd h2.symm e
       · omega
     exact ⟨by simp; omega, by rw [at_take _ _ _ h3]; exact h2⟩
theorem Pl.snoc (h : Pl nu f d) {x : α} (hx : f (nu x) = none) : Pl nu (fun y => if y = nu x then some d.length else f y) (d ++ [x]) := by
 constructor
 · intro i hi
   dsimp only;simp at hi
   by_cases e : i < d.length
   · rw [at_snoc _ _ _ e, if_neg (fun e2 => by have := h.1 i e; rw [e2, hx] at this; simp at this)]
     exact h.1 i e
   · have : i = d.length := by omega
     subst this;rw [at_last, if_pos rfl]
 · intro y i hy
   dsimp only at hy;split at hy
   · next e => injection hy with hy; subst hy; exact ⟨by simp, by rw [at_last, e]⟩
   · obtain ⟨h1, h2⟩ := h.2 y i hy
     exact ⟨by simp; omega, by rw [at_snoc _ _ _ h1]; exact h2⟩
end
end Go.Proofs.YtefijbpbenmbgaaDoor
namespace Go.Proofs.YtefijbpbenmbgaaDoor
open Go.RowKit
theorem equalIn_map_nil {P : Program} (w : World) (d : Nat) (t k e : TypeId) (p : Option Nat) (h : P.underlying t = some (.map k e)) : (Op.equalIn (d + 1) t (.map p) (.map none)).run P w = .ok p.isNone w := by
 cases p <;> simp [Op.equalIn, run_underlying h]
theorem run_neq_map {P : Program} (w : World) (t k e : TypeId) (p : Option Nat) (h : P.underlying t = some (.map k e)) : (binOp .neq t (.map p) (.map none)).run P w = .ok (.bool (!p.isNone)) w := by
 simp only [binOp];simp [show Op.equal t (.map p) (.map none) = Op.equalIn (9999 + 1) t (.map p) (.map none) from rfl, equalIn_map_nil w 9999 t k e p h]
def MapIs (P : Program) (k e : TypeId) (w : World) (b : Nat) (f : Int → Option Nat) (n : Nat) : Prop :=
 ∃ D : DataW Unit, w.ownsMap P k (plainElem P e) b n D ∧ Maps.size D = n ∧ (∀ x, I64 x → Maps.has D (.int .i64 x) = (f x).isSome) ∧ (∀ x v, I64 x → f x = some v → D.atKey (.int .i64 x) (.lit (.int .i64 0)) = .lit (.int .i64 v))
section
variable {P : Program} {k e t : TypeId} {w : World} {b n : Nat} {f : Int → Option Nat}
theorem MapIs.kept {w' : World} {F : Nat → Prop} (h : MapIs P k e w b f n) (ho : Only F w w') (hb : ¬ F b) : MapIs P k e w' b f n := by
 obtain ⟨D, ⟨es, clock, hbk, F', hs, hD⟩, h2, h3, h4⟩ := h;exact ⟨D, ⟨es, clock, (ho.block b (Array.getElem?_eq_some_iff.1 hbk).1 hb).trans hbk, F', hs, hD⟩, h2, h3, h4⟩
theorem MapIs.drew (h : MapIs P k e w b f n) : MapIs P k e w.drew b f n := h
theorem MapIs.lt (h : MapIs P k e w b f n) : b < w.heap.size := by obtain ⟨D, h1, _⟩ := h; exact h1.lt
theorem MapIs.ne_cells (h : MapIs P k e w b f n) {g : Nat} {c : Array Value} {te : TypeId} {fr : Nat × Nat} (hg : w.heap[g]? = some (.cells c te fr)) : b ≠ g := by
 obtain ⟨D, ⟨es, clock, hbk, _⟩, _⟩ := h;intro e; subst e; rw [hbk] at hg; simp at hg
theorem MapIs.made (w : World) : MapIs P k e (w.alloc (.map #[] 0)) w.heap.size (fun _ => none) 0 :=
 ⟨.map [], World.ownsMap_made w P k _, rfl, fun x _ => by simp [Maps.has_eq], fun x v _ h => by simp at h⟩
theorem MapIs.put (h : MapIs P k e w b f n) (hk : P.underlying k = some (.int .i64)) (he : P.underlying e = some (.int .i64)) (ht : P.underlying t = some (.map k e)) {x : Int} {v : Nat} (hx : I64 x) (hv : v ≤ 9223372036854775807) (hn : n < 9223372036854775807) :
   ∃ w', (Instr.mapUpdate t (.map (some b)) (.int .i64 x) (.int .i64 v)).run P w = .ok () w' ∧ MapIs P k e w' b (fun y => if y = x then some v else f y) (if (f x).isSome then n else n + 1) ∧ w.grownBy w' (some b) := by
 obtain ⟨D, h1, h2, h3, h4⟩ := h;have hkey := Maps.keyOf_int_mk (P := P) hk (wf_of_i64 hx);have hkl : WideAt.IsKeyLit (.int .i64 x) := by trivial
 obtain ⟨w', hrun, r1, r2⟩ := h1.update (Maps.int_keyed hk) ht (by unfold maxLen; omega) hkey (plainElem_int he (wf_of_i64 (a := (v : Int)) ⟨by omega, by omega⟩));have ht' := h1.tidy (Maps.int_keyed hk);have hsz : Maps.size (D.put (.int .i64 x) (.lit (.int .i64 (v : Int)))) = if (f x).isSome then n else n + 1 := by
   rw [Maps.size_put ht', h3 x hx, h2]
 refine ⟨w', hrun, ⟨_, ?_, hsz, ?_, ?_⟩, r2⟩
 · obtain ⟨es, clock, hb, F, hs, hD⟩ := r1
   refine ⟨es, clock, hb, F, ?_, hD⟩;have : Maps.size (D.put (.int .i64 x) (.lit (.int .i64 (v : Int)))) = es.size := by rw [hD]; simp [Maps.size, length_sorted]
   omega
 · intro y hy
   by_cases hyx : y = x
   · subst hyx; rw [Maps.has_put_same ht'.isMap hkl]; simp
   · rw [Maps.has_put_other (by simpa using hyx), h3 y hy]; simp [hyx]
 · intro y u hy hu
   simp only at hu;by_cases hyx : y = x
   · subst hyx; simp only [if_pos] at hu; injection hu with hu; subst hu; exact Maps.atKey_put_same ht'.isMap hkl _ _
   · rw [if_neg hyx] at hu; rw [Maps.atKey_put_other (by simpa using hyx)]; exact h4 y u hy hu
theorem MapIs.drop (h : MapIs P k e w b f n) (hk : P.underlying k = some (.int .i64)) (ht : P.underlying t = some (.map k e)) {x : Int} (hx : I64 x) (ty : TypeId) :
   ∃ w', (Builtin.delete_ #[t, k] ty #[.map (some b), .int .i64 x]).run P w = .ok (.tuple #[]) w' ∧ MapIs P k e w' b (fun y => if y = x then none else f y) (n - if (f x).isSome then 1 else 0) ∧ w.grownBy w' (some b) := by
 obtain ⟨D, h1, h2, h3, h4⟩ := h;have hkey := Maps.keyOf_int_mk (P := P) hk (wf_of_i64 hx);obtain ⟨w', hrun, r1, r2⟩ := h1.drop (Maps.int_keyed hk) ht hkey ty;have ht' := h1.tidy (Maps.int_keyed hk);have hsz : Maps.size (D.del (.int .i64 x)) = n - if (f x).isSome then 1 else 0 := by
   have := Maps.size_del (k := .int .i64 x) ht';rw [h3 x hx, h2] at this;omega
 refine ⟨w', hrun, ⟨_, ?_, hsz, ?_, ?_⟩, r2.grown⟩
 · obtain ⟨es, clock, hb, F, hs, hD⟩ := r1
   refine ⟨es, clock, hb, F, ?_, hD⟩;have : Maps.size (D.del (.int .i64 x)) = es.size := by rw [hD]; simp [Maps.size, length_sorted]
   omega
 · intro y hy
   by_cases hyx : y = x
   · subst hyx; rw [Maps.has_del_same]; simp
   · rw [Maps.has_del_other (by simpa using hyx), h3 y hy]; simp [hyx]
 · intro y u hy hu
   simp only at hu;by_cases hyx : y = x
   · subst hyx; simp at hu
   · rw [if_neg hyx] at hu; rw [Maps.atKey_del_other (by simpa using hyx)]; exact h4 y u hy hu
end
section
variable {P : Program} {w : World} {ops : Array Oper} {rest : List Oper} {o : Oper} {a : Act} {Q : Exit → Act → World → Prop}
theorem step_delete_f {K : Act → World → Prop} {E : Prop} (hg : o.guard = none) (m x : Operand) (t k e : TypeId) (hop : o.op = Op.call { callee := Callee.builtin Builtin.delete, args := #[m, x], argTypes := #[t, k] })
   (hk : P.underlying k = some (.int .i64)) (ht : P.underlying t = some (.map k e)) (b n : Nat) (f : Int → Option Nat) (h : MapIs P k e w b f n) (key : Int) (hm : a.eval m = .map (some b)) (hx : a.eval x = .int .i64 key) (hI : I64 key)
   (hK : ∀ w', MapIs P k e w' b (fun y => if y = key then none else f y) (n - if (f key).isSome then 1 else 0) → w.grownBy w' (some b) → K (a.put o.dst (.tuple #[])) w') :
   if Region.wanted o (yielded ops a.tmps) = true then Oper.wp P o a w K Q else E := by
 have hw : Region.wanted o (yielded ops a.tmps) = true := by simp [Region.wanted, hg]
 rw [if_pos hw];obtain ⟨w', hrun, r1, r2⟩ := h.drop hk ht hI o.type;unfold Oper.wp;simp [execOp, hop, resolve, invoke, builtin, hm, hx, hrun, Result.andThen]
 exact hK w' r1 r2
theorem wpList_put_f (hg : o.guard = none) (m x v : Operand) (t k e : TypeId) (hop : o.op = Op.mapUpdate t m x v)
   (hk : P.underlying k = some (.int .i64)) (he : P.underlying e = some (.int .i64)) (ht : P.underlying t = some (.map k e)) (b n : Nat) (f : Int → Option Nat) (h : MapIs P k e w b f n) (key : Int) (u : Nat) (hm : a.eval m = .map (some b)) (hx : a.eval x = .int .i64 key) (hv : a.eval v = .int .i64 u)
   (hI : I64 key) (hu : u ≤ 9223372036854775807) (hn : n < 9223372036854775807)
   (hK : ∀ w', MapIs P k e w' b (fun y => if y = key then some u else f y) (if (f key).isSome then n else n + 1) → w.grownBy w' (some b) → wpList P ops Q rest (a.put o.dst undef) w') :
   wpList P ops Q (o :: rest) a w := by
 refine wpList_plain hg fun K' hK' => ?_
 obtain ⟨w', hrun, r1, r2⟩ := h.put hk he ht hI hu hn;unfold Oper.wp;simp [execOp, hop, hm, hx, hv, hrun, Result.andThen]
 exact hK' _ _ (hK w' r1 r2)
end
end Go.Proofs.YtefijbpbenmbgaaDoor
namespace Go.Proofs.YtefijbpbenmbgaaDoor.HI
open Go.RowKit
structure T where
 key : Int
 num : Int
 v : Int
instance : Inhabited T := ⟨⟨0, 0, 0⟩⟩
def enc (x : T) : List Value := [.int .i64 x.key, .int .i64 x.num, .int .i64 x.v]
theorem enc_len (x : T) : (enc x).length = 3 := rfl
structure HeapAt (w : World) (b bm : Nat) (sv : Value) (d : List T) (p : Nat) : Prop where
 st : w.heap[b]? = some (.cells #[sv, .map (some bm), .int .i64 p] 110 (0, 0))
 row : w.ownsRow 0 123 3 sv d.length (rowOf enc d)
 map : ∃ f, MapIs Tryd.prog 3 3 w bm f d.length ∧ Pl T.num f d
 num : ∀ i, i < d.length → 0 ≤ (at_ d i).num ∧ (at_ d i).num < p
 len : d.length ≤ p
 lim : p ≤ 1099511627776
def Foot (b bm : Nat) (sv : Value) (k : Nat) : Prop := k = b ∨ k = bm ∨ sv.ownBlock = some k
section
variable {w : World} {b bm p : Nat} {sv : Value} {d : List T}
theorem HeapAt.c0 (h : HeapAt w b bm sv d p) : w.cell? ⟨b, 0, none⟩ = some sv := by simp [World.cell?, h.st]
theorem HeapAt.c1 (h : HeapAt w b bm sv d p) : w.cell? ⟨b, 1, none⟩ = some (.map (some bm)) := by simp [World.cell?, h.st]
theorem HeapAt.c2 (h : HeapAt w b bm sv d p) : w.cell? ⟨b, 2, none⟩ = some (.int .i64 p) := by simp [World.cell?, h.st]
theorem HeapAt.f (h : HeapAt w b bm sv d p) (j : Nat) : w.frozen? ⟨b, j, none⟩ = false := by simp [World.frozen?, h.st]
theorem HeapAt.lt (h : HeapAt w b bm sv d p) : b < w.heap.size := (Array.getElem?_eq_some_iff.1 h.st).1
theorem HeapAt.ltm (h : HeapAt w b bm sv d p) : bm < w.heap.size := by obtain ⟨f, h1, _⟩ := h.map; exact h1.lt
theorem HeapAt.ltg (h : HeapAt w b bm sv d p) {g : Nat} (hg : sv.ownBlock = some g) : g < w.heap.size := (h.row.lt g hg).2
theorem HeapAt.bm_ne (h : HeapAt w b bm sv d p) : bm ≠ b := by obtain ⟨f, h1, _⟩ := h.map; exact h1.ne_cells h.st
theorem own_block {e : TypeId} {k n base : Nat} {sv : Value} {xs : List Value} (h : w.ownsRow base e k sv n xs) {g : Nat} (hg : sv.ownBlock = some g) : ∃ cur, w.heap[g]? = some (.cells cur e (0, 0)) := by
 rcases h.2 with ⟨rfl, _⟩ | ⟨g', cap, cur, rfl, _, hh, _⟩
 · simp [Value.ownBlock] at hg
 · simp [Value.ownBlock] at hg; subst hg; exact ⟨cur, hh⟩
theorem HeapAt.g_ne (h : HeapAt w b bm sv d p) {g : Nat} (hg : sv.ownBlock = some g) : g ≠ b ∧ g ≠ bm := by
 obtain ⟨cur, hh⟩ := own_block h.row hg;refine ⟨fun e => ?_, fun e => ?_⟩
 · subst e; have := h.st; rw [hh] at this; simp at this
 · obtain ⟨f, h1, _⟩ := h.map; exact h1.ne_cells hh e.symm
theorem HeapAt.kept {w' : World} {F : Nat → Prop} (h : HeapAt w b bm sv d p) (ho : Only F w w') (hF : ∀ k, Foot b bm sv k → ¬ F k) : HeapAt w' b bm sv d p := by
 refine ⟨(ho.block b h.lt (hF b (.inl rfl))).trans h.st, ownsRow_only h.row ho (fun g hg => hF g (.inr (.inr hg))), ?_, h.num, h.len, h.lim⟩;obtain ⟨f, h1, h2⟩ := h.map;exact ⟨f, h1.kept ho (hF bm (.inr (.inl rfl))), h2⟩
theorem HeapAt.i64n (h : HeapAt w b bm sv d p) (i : Nat) (hi : i < d.length) : I64 (at_ d i).num := by
 have := h.num i hi;have := h.lim;unfold I64;omega
end
theorem ownsRow_drew {w : World} {base k n : Nat} {e : TypeId} {v : Value} {xs : List Value} (h : w.ownsRow base e k v n xs) : w.drew.ownsRow base e k v n xs := h
theorem row_cells {w : World} {g n cap : Nat} {d : List T} (h : w.ownsRow 0 123 3 (.slice (some ⟨g, 0, none⟩) n cap) n (rowOf enc d)) (hn : n = d.length) {i : Nat} (hi : i < d.length) :
   w.cell? ⟨g, i * 3, none⟩ = some (.int .i64 (at_ d i).key) ∧ w.cell? ⟨g, i * 3 + 1, none⟩ = some (.int .i64 (at_ d i).num) ∧ w.cell? ⟨g, i * 3 + 2, none⟩ = some (.int .i64 (at_ d i).v) := by
 have e := at_eq d i hi;refine ⟨?_, ?_, ?_⟩
 · rw [h.cellAt _ (by omega)]
   have := rowOf_get enc_len d i 0 hi (by omega);rw [Nat.add_zero] at this;rw [this, e]; rfl
 · rw [h.cellAt _ (by omega), rowOf_get enc_len d i 1 hi (by omega), e]; rfl
 · rw [h.cellAt _ (by omega), rowOf_get enc_len d i 2 hi (by omega), e]; rfl
theorem row_store {w : World} {g n cap : Nat} {d : List T} (h : w.ownsRow 0 123 3 (.slice (some ⟨g, 0, none⟩) n cap) n (rowOf enc d)) {i : Nat} (hi : i < d.length) (x : T) :
   (((w.setCell ⟨g, i * 3, none⟩ (.int .i64 x.key)).setCell ⟨g, i * 3 + 1, none⟩ (.int .i64 x.num)).setCell ⟨g, i * 3 + 2, none⟩ (.int .i64 x.v)).ownsRow 0 123 3 (.slice (some ⟨g, 0, none⟩) n cap) n (rowOf enc (d.set i x)) := by
 have h1 := (h.stored (i * 3) (.int .i64 x.key)).1;have h2 := (h1.stored (i * 3 + 1) (.int .i64 x.num)).1;have h3 := (h2.stored (i * 3 + 2) (.int .i64 x.v)).1;rw [rowOf_set3 enc_len d i hi x rfl] at h3;exact h3
theorem row_swap {w : World} {g n cap a c : Nat} {d : List T} (h : w.ownsRow 0 123 3 (.slice (some ⟨g, 0, none⟩) n cap) n (rowOf enc d)) (ha : a < d.length) (hc : c < d.length) {k1 n1 v1 k2 n2 v2 : Int} (hx : at_ d a = ⟨k1, n1, v1⟩) (hy : at_ d c = ⟨k2, n2, v2⟩) :
   ((((((w.setCell ⟨g, a * 3, none⟩ (.int .i64 k2)).setCell ⟨g, a * 3 + 1, none⟩ (.int .i64 n2)).setCell ⟨g, a * 3 + 2, none⟩ (.int .i64 v2)).setCell ⟨g, c * 3, none⟩ (.int .i64 k1)).setCell ⟨g, c * 3 + 1, none⟩ (.int .i64 n1)).setCell ⟨g, c * 3 + 2, none⟩ (.int .i64 v1)).ownsRow 0 123 3 (.slice (some ⟨g, 0, none⟩) n cap) n (rowOf enc (swp d a c)) ∧
   Only (fun k => k = g) w ((((((w.setCell ⟨g, a * 3, none⟩ (.int .i64 k2)).setCell ⟨g, a * 3 + 1, none⟩ (.int .i64 n2)).setCell ⟨g, a * 3 + 2, none⟩ (.int .i64 v2)).setCell ⟨g, c * 3, none⟩ (.int .i64 k1)).setCell ⟨g, c * 3 + 1, none⟩ (.int .i64 n1)).setCell ⟨g, c * 3 + 2, none⟩ (.int .i64 v1)) := by
 constructor
 · have h1 := row_store h ha (at_ d c)
   have h2 := row_store h1 (i := c) (by simpa using hc) (at_ d a);rw [hx, hy] at h2;unfold swp;rw [hx, hy];exact h2
 · have key : ∀ (W : World) (j : Nat) (u : Value), Only (fun k => k = g) w W → Only (fun k => k = g) w (W.setCell ⟨g, j, none⟩ u) := fun W j u ho => ho.setCell (p := ⟨g, j, none⟩) (.inl rfl) u
   exact key _ _ _ (key _ _ _ (key _ _ _ (key _ _ _ (key _ _ _ (key _ _ _ (Only.refl _ w))))))
end Go.Proofs.YtefijbpbenmbgaaDoor.HI
namespace Go.Proofs.YtefijbpbenmbgaaDoor.HI
open Go.RowKit
theorem swap_map {w : World} {bm n a c : Nat} {f : Int → Option Nat} {d : List T} (h : MapIs Tryd.prog 3 3 w bm f n) (hpl : Pl T.num f d) (ha : a < d.length) (hn : n = d.length) (hc : c < d.length) (hlim : d.length ≤ 1099511627776) {n2 : Int} (h2 : n2 = (at_ d c).num) (hi2 : I64 n2) :
   ∃ w', (Instr.mapUpdate 107 (.map (some bm)) (.int .i64 n2) (.int .i64 a)).run Tryd.prog w = .ok () w' ∧ MapIs Tryd.prog 3 3 w' bm (fun y => if y = n2 then some a else f y) n ∧ w.grownBy w' (some bm) := by
 obtain ⟨w', h1, r1, r2⟩ := h.put Tryd.underlying3 Tryd.underlying3 Tryd.underlying107 (v := a) hi2 (by omega) (by omega);refine ⟨w', h1, ?_, r2⟩;rw [h2] at r1 ⊢;rw [hpl.1 c hc] at r1;exact r1
theorem only_map {w w' : World} {bm : Nat} (h : w.drew.grownBy w' (some bm)) : Only (fun k => k = bm) w w' :=
 (Only.of_grown h (fun k e => by injection e with e; exact e.symm)).drew0
section
variable {b bm p a c g n cap : Nat} {d : List T} {w : World} {k1 n1 v1 k2 n2 v2 : Int}
theorem swap_second (ha : a < d.length) (hc : c < d.length) (hx : at_ d a = (⟨k1, n1, v1⟩ : T)) (hy : at_ d c = (⟨k2, n2, v2⟩ : T)) : at_ (swp d a c) a = (⟨k2, n2, v2⟩ : T) := by
 rw [swp_at d a c a ha hc, hx, hy];by_cases e : a = c
 · rw [if_pos e, ← hy, ← e, hx]
 · rw [if_neg e, if_pos rfl]
theorem swap_first (ha : a < d.length) (hc : c < d.length) (hx : at_ d a = (⟨k1, n1, v1⟩ : T)) : at_ (swp d a c) c = (⟨k1, n1, v1⟩ : T) := by
 rw [swp_at d a c c ha hc, if_pos rfl, hx]
theorem swap_fin (h : HeapAt w b bm (.slice (some ⟨g, 0, none⟩) n cap) d p) (hn : n = d.length) (ha : a < d.length) (hc : c < d.length) (hx : at_ d a = ⟨k1, n1, v1⟩) (hy : at_ d c = ⟨k2, n2, v2⟩) {f : Int → Option Nat} (hpl : Pl T.num f d)
   {w1 w2 w3 : World} (r1 : w1.ownsRow 0 123 3 (.slice (some ⟨g, 0, none⟩) n cap) n (rowOf enc (swp d a c))) (o1 : Only (fun k => k = g) w w1) (o2 : w1.drew.grownBy w2 (some bm)) (o3 : w2.drew.grownBy w3 (some bm)) (m3 : MapIs Tryd.prog 3 3 w3 bm (fun y => if y = n1 then some c else if y = n2 then some a else f y) n) :
   HeapAt w3 b bm (.slice (some ⟨g, 0, none⟩) n cap) (swp d a c) p ∧ Only (fun k => k = bm ∨ (Value.slice (some ⟨g, 0, none⟩) n cap).ownBlock = some k) w w3 := by
 obtain ⟨hgb, hgm⟩ := h.g_ne (g := g) rfl;have hbm := h.bm_ne;have O23 := (only_map o2).then (only_map o3);have O : Only (fun k => k = bm ∨ (Value.slice (some ⟨g, 0, none⟩) n cap).ownBlock = some k) w w3 := o1.trans O23 (fun k _ e => .inr (by rw [e]; rfl)) (fun k _ e => .inl e);have hll := swp_length d a c;refine ⟨⟨?_, ?_, ⟨fun y => if y = n1 then some c else if y = n2 then some a else f y, ?_, ?_⟩, ?_, by rw [hll]; exact h.len, h.lim⟩, O⟩
 · rw [O.block b h.lt (by rintro (e | e); exact hbm e.symm; injection e with e; exact hgb e), h.st]
 · rw [hll, ← hn]
   exact ownsRow_only r1 O23 (fun g' hg' e => by injection hg' with hg'; exact hgm (hg'.trans e))
 · rw [hll, ← hn]; exact m3
 · have := hpl.swp ha hc
   rw [swap_first ha hc hx, swap_second ha hc hx hy] at this;exact this
 · intro i hi
   rw [hll] at hi;rw [swp_at d a c i ha hc];split
   · exact h.num a ha
   · split
     · exact h.num c hc
     · exact h.num i hi
theorem swap_mid (h : HeapAt w b bm (.slice (some ⟨g, 0, none⟩) n cap) d p) (hn : n = d.length) (ha : a < d.length) (hc : c < d.length) (hx : at_ d a = ⟨k1, n1, v1⟩) (hy : at_ d c = ⟨k2, n2, v2⟩)
   {w1 : World} (r1 : w1.ownsRow 0 123 3 (.slice (some ⟨g, 0, none⟩) n cap) n (rowOf enc (swp d a c))) (o1 : Only (fun k => k = g) w w1) :
   w1.cell? ⟨b, 0, none⟩ = some (.slice (some ⟨g, 0, none⟩) n cap) ∧ w1.cell? ⟨b, 1, none⟩ = some (.map (some bm)) ∧ w1.cell? ⟨g, a * 3 + 1, none⟩ = some (.int .i64 n2) ∧
   ∃ w2, (Instr.mapUpdate 107 (.map (some bm)) (.int .i64 n2) (.int .i64 a)).run Tryd.prog w1.drew = .ok () w2 ∧ w2.cell? ⟨b, 0, none⟩ = some (.slice (some ⟨g, 0, none⟩) n cap) ∧ w2.cell? ⟨b, 1, none⟩ = some (.map (some bm)) ∧ w2.cell? ⟨g, c * 3 + 1, none⟩ = some (.int .i64 n1) ∧
   ∃ w3, (Instr.mapUpdate 107 (.map (some bm)) (.int .i64 n1) (.int .i64 c)).run Tryd.prog w2.drew = .ok () w3 ∧ (HeapAt w3 b bm (.slice (some ⟨g, 0, none⟩) n cap) (swp d a c) p ∧ Only (fun k => k = bm ∨ (Value.slice (some ⟨g, 0, none⟩) n cap).ownBlock = some k) w w3) := by
 obtain ⟨hgb, hgm⟩ := h.g_ne (g := g) rfl;have hbm := h.bm_ne;have hgl := h.ltg (g := g) rfl;have hlim : d.length ≤ 1099511627776 := Nat.le_trans h.len h.lim;obtain ⟨f, M0, hpl⟩ := h.map;rw [← hn] at M0;have i1 : I64 n1 := by have := h.i64n a ha; rw [hx] at this; exact this
 have i2 : I64 n2 := by have := h.i64n c hc; rw [hy] at this; exact this
 have hll := swp_length d a c;have q0 : w1.cell? ⟨b, 0, none⟩ = some (.slice (some ⟨g, 0, none⟩) n cap) := (o1.cell (p := ⟨b, 0, none⟩) h.lt (fun e => hgb e.symm)).trans h.c0;have q1 : w1.cell? ⟨b, 1, none⟩ = some (.map (some bm)) := (o1.cell (p := ⟨b, 1, none⟩) h.lt (fun e => hgb e.symm)).trans h.c1;have ra := (row_cells r1 (by rw [hll]; exact hn) (i := a) (by rw [hll]; exact ha)).2.1;have rc := (row_cells r1 (by rw [hll]; exact hn) (i := c) (by rw [hll]; exact hc)).2.1;rw [swap_second ha hc hx hy] at ra;rw [swap_first ha hc hx] at rc;have M1 : MapIs Tryd.prog 3 3 w1.drew bm f n := (M0.kept o1 (fun e => hgm e.symm)).drew;obtain ⟨w2, hr2, m2, gr2⟩ := swap_map M1 hpl ha hn hc hlim (n2 := n2) (by rw [hy]) i2;have O2 := only_map gr2;have hb1 : b < w1.heap.size := Nat.lt_of_lt_of_le h.lt o1.size;have hg1 : g < w1.heap.size := Nat.lt_of_lt_of_le hgl o1.size;refine ⟨q0, q1, ra, w2, hr2, (O2.cell (p := ⟨b, 0, none⟩) hb1 (fun e => hbm e.symm)).trans q0, (O2.cell (p := ⟨b, 1, none⟩) hb1 (fun e => hbm e.symm)).trans q1, (O2.cell (p := ⟨g, c * 3 + 1, none⟩) hg1 (fun e => hgm e)).trans rc, ?_⟩;obtain ⟨w3, hr3, m3, gr3⟩ := m2.drew.put Tryd.underlying3 Tryd.underlying3 Tryd.underlying107 (v := c) i1 (by omega) (by omega);refine ⟨w3, hr3, ?_⟩;have : (if n1 = n2 then some a else f n1).isSome = true := by
   split
   · rfl
   · have := hpl.1 a ha
     rw [hx] at this;simp only at this;rw [this]; rfl
 rw [this, if_pos rfl] at m3;exact swap_fin h hn ha hc hx hy hpl r1 o1 gr2 gr3 m3
end
end Go.Proofs.YtefijbpbenmbgaaDoor.HI
namespace Go.Proofs.YtefijbpbenmbgaaDoor.HI
open Go.RowKit
set_option maxHeartbeats 2000000 in
theorem swap_any {b bm p a c : Nat} {sv : Value} {d : List T} {w : World} (h : HeapAt w b bm sv d p) (ha : a < d.length) (hc : c < d.length) :
   Calls Tryd.prog 81 #[.pointer (some ⟨b, 0, none⟩), .int .i64 a, .int .i64 c] w fun e w' => e = .returned (.tuple #[]) ∧ HeapAt w' b bm sv (swp d a c) p ∧ Only (fun k => k = bm ∨ sv.ownBlock = some k) w w' := by
 obtain ⟨g, cap, rfl, _, hgl, hn, hcm, _⟩ := ownsRow_head h.row (by omega);obtain ⟨n, hlen⟩ : ∃ n, n = d.length := ⟨_, rfl⟩;have hrow := h.row;rw [← hlen] at hrow h hn ⊢;have c0 := h.c0;have c1 := h.c1;have han : a < n := by omega
 have hcn : c < n := by omega
 obtain ⟨⟨k1, n1, v1⟩, hx⟩ : ∃ x, at_ d a = x := ⟨_, rfl⟩;obtain ⟨⟨k2, n2, v2⟩, hy⟩ : ∃ x, at_ d c = x := ⟨_, rfl⟩;obtain ⟨a0, a1, a2⟩ := row_cells hrow hlen ha;obtain ⟨e0, e1, e2⟩ := row_cells hrow hlen hc;rw [hx] at a0 a1 a2;rw [hy] at e0 e1 e2;dsimp only at a0 a1 a2 e0 e1 e2;have f0 := hrow.frozenAt (a * 3);have f1 := hrow.frozenAt (a * 3 + 1);have f2 := hrow.frozenAt (a * 3 + 2);have g0 := hrow.frozenAt (c * 3);have g1 := hrow.frozenAt (c * 3 + 1);have g2 := hrow.frozenAt (c * 3 + 2);have S := Lib.hid (row_swap hrow ha hc hx hy);have mid := fun w1 => swap_mid (w1 := w1) h hlen ha hc hx hy
 replace mid := Lib.hid mid;clear h hrow hx hy hlen ha hc;by_cases hac : a = c
 · subst hac
   obtain rfl : k1 = k2 := by rw [a0] at e0; simpa using e0
   obtain rfl : n1 = n2 := by rw [a1] at e1; simpa using e1
   obtain rfl : v1 = v2 := by rw [a2] at e2; simpa using e2
   clear e0 e1 e2 g0 g1 g2;go_enter Tryd.func81, Tryd.ntmps81
   go_wp2
   go_region
   go_wp2
   have G1 : ((((((w.setCell ⟨g, a * 3, none⟩ (.int .i64 k1)).setCell ⟨g, a * 3 + 1, none⟩ (.int .i64 n1)).setCell ⟨g, a * 3 + 2, none⟩ (.int .i64 v1)).setCell ⟨g, a * 3, none⟩ (.int .i64 k1)).setCell ⟨g, a * 3 + 1, none⟩ (.int .i64 n1)).setCell ⟨g, a * 3 + 2, none⟩ (.int .i64 v1)).drew.ownsRow 0 123 3 (.slice (some ⟨g, 0, none⟩) n cap) n (rowOf enc (swp d a a)) := ownsRow_drew S.out.1;have G2 := S.out.2.drew;clear c0 c1 a0 a1 a2 f0 f1 f2;generalize ((((((w.setCell ⟨g, a * 3, none⟩ (.int .i64 k1)).setCell ⟨g, a * 3 + 1, none⟩ (.int .i64 n1)).setCell ⟨g, a * 3 + 2, none⟩ (.int .i64 v1)).setCell ⟨g, a * 3, none⟩ (.int .i64 k1)).setCell ⟨g, a * 3 + 1, none⟩ (.int .i64 n1)).setCell ⟨g, a * 3 + 2, none⟩ (.int .i64 v1)).drew = w1 at G1 G2 ⊢;obtain ⟨q0, q1, q2, w2, hr2, q3, q4, q5, w3, hr3, F⟩ := mid.out w1 G1 G2;replace F := Lib.hid F;clear G1 G2;go_region
   go_wp2
   go_region
   go_wp2
   go_end0
   exact ⟨rfl, F.out⟩
 · have hca : ¬ c = a := fun e => hac e.symm
   go_enter Tryd.func81, Tryd.ntmps81
   go_wp2
   go_region
   go_wp2
   have G1 : ((((((w.setCell ⟨g, a * 3, none⟩ (.int .i64 k2)).setCell ⟨g, a * 3 + 1, none⟩ (.int .i64 n2)).setCell ⟨g, a * 3 + 2, none⟩ (.int .i64 v2)).setCell ⟨g, c * 3, none⟩ (.int .i64 k1)).setCell ⟨g, c * 3 + 1, none⟩ (.int .i64 n1)).setCell ⟨g, c * 3 + 2, none⟩ (.int .i64 v1)).drew.ownsRow 0 123 3 (.slice (some ⟨g, 0, none⟩) n cap) n (rowOf enc (swp d a c)) := ownsRow_drew S.out.1;have G2 := S.out.2.drew;clear c0 c1 a0 a1 a2 e0 e1 e2 f0 f1 f2 g0 g1 g2;generalize ((((((w.setCell ⟨g, a * 3, none⟩ (.int .i64 k2)).setCell ⟨g, a * 3 + 1, none⟩ (.int .i64 n2)).setCell ⟨g, a * 3 + 2, none⟩ (.int .i64 v2)).setCell ⟨g, c * 3, none⟩ (.int .i64 k1)).setCell ⟨g, c * 3 + 1, none⟩ (.int .i64 n1)).setCell ⟨g, c * 3 + 2, none⟩ (.int .i64 v1)).drew = w1 at G1 G2 ⊢;obtain ⟨q0, q1, q2, w2, hr2, q3, q4, q5, w3, hr3, F⟩ := mid.out w1 G1 G2;replace F := Lib.hid F;clear G1 G2;go_region
   go_wp2
   go_region
   go_wp2
   go_end0
   exact ⟨rfl, F.out⟩
end Go.Proofs.YtefijbpbenmbgaaDoor.HI
