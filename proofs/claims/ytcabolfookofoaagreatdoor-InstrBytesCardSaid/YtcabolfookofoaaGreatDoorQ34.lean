/- A part of the proof: JHHp, ITrav, IMv. No condition. -/
import Derived.Test.YtcabolfookofoaaGreatDoorQ05
import Derived.Test.YtcabolfookofoaaGreatDoorQ08
import Derived.Test.YtcabolfookofoaaGreatDoorQ27
import Derived.Test.YtcabolfookofoaaGreatDoorQ33
set_option linter.unusedVariables false
set_option linter.unusedSimpArgs false
namespace Go.Proofs.YtcabolfookofoaaGreatDoor.HI
open Go.RowKit
def Hp (F : Nat → Prop) (w : World) (b : Nat) (L : List T) (p : Nat) : Prop :=
 ∃ bm sv d, HeapAt w b bm sv d p ∧ Heapy T.key T.num d ∧ d.Perm L ∧ ∀ k, Foot b bm sv k → F k
section
variable {F : Nat → Prop} {w : World} {b p : Nat} {L : List T}
theorem Hp.kept {G : Nat → Prop} {w' : World} (h : Hp F w b L p) (ho : Only G w w') (hd : ∀ k, k < w.heap.size → F k → ¬ G k) : Hp F w' b L p := by
 obtain ⟨bm, sv, d, h1, h2, h3, h4⟩ := h;refine ⟨bm, sv, d, h1.kept (F := fun k => k < w.heap.size → G k) ⟨ho.os, ho.tape, ho.output, ho.size, fun k hk hn => ho.block k hk (fun e => hn (fun _ => e))⟩ (fun k hk hn => ?_), h2, h3, h4⟩;have hlt : k < w.heap.size := by
   rcases hk with e | e | e
   · rw [e]; exact h1.lt
   · rw [e]; exact h1.ltm
   · exact h1.ltg e
 exact hd k hlt (h4 k hk) (hn hlt)
theorem Hp.below {w' : World} (h : Hp F w b L p) (ho : Below w.heap.size w w') : Hp F w' b L p := h.kept (G := fun _ => False) (Only.of_below ho) (fun _ _ _ h => h)
theorem Hp.mono {G : Nat → Prop} (h : Hp F w b L p) (hG : ∀ k, F k → G k) : Hp G w b L p := by
 obtain ⟨bm, sv, d, h1, h2, h3, h4⟩ := h;exact ⟨bm, sv, d, h1, h2, h3, fun k hk => hG k (h4 k hk)⟩
theorem mem_at {d : List T} {x : T} (h : x ∈ d) : ∃ i, i < d.length ∧ at_ d i = x := by
 obtain ⟨i, hi, e⟩ := List.getElem_of_mem h;exact ⟨i, hi, by rw [at_eq d i hi]; exact e⟩
end
theorem hp_new (w : World) :
   Calls Tryz.prog 67 #[] w fun e w' => ∃ b, e = .returned (.pointer (some ⟨b, 0, none⟩)) ∧ Hp (fun k => w.heap.size ≤ k) w' b [] 0 ∧ Below w.heap.size w w' :=
 (new_any w).mono fun e w' ⟨he, hH, hb⟩ => ⟨_, he, ⟨_, _, _, hH, fun i h1 h2 => by simp at h2, List.Perm.refl _, fun k hk => by
   rcases hk with e | e | e
   · omega
   · omega
   · simp [Value.ownBlock] at e⟩, hb⟩
section
variable {F : Nat → Prop} {w : World} {b p : Nat} {L : List T}
theorem hp_push (h : Hp F w b L p) (hlim : p < 1099511627776) (hF : ∀ k, w.heap.size ≤ k → F k) (key v : Int) :
   Calls Tryz.prog 100 #[.pointer (some ⟨b, 0, none⟩), .int .i64 key, .int .i64 v] w fun e w' => e = .returned (.int .i64 p) ∧ Hp F w' b (L ++ [⟨key, p, v⟩]) (p + 1) ∧ Only F w w' := by
 obtain ⟨bm, sv, d, h1, h2, h3, h4⟩ := h;refine (push_any h1 h2 hlim key v).mono fun e w' ⟨he, d', sv', g1, g2, g3, g4, g5⟩ => ⟨he, ⟨bm, sv', d', g1, g3, g2.trans (h3.append_right _), fun k hk => ?_⟩, g5.mono (fun k _ hk => h4 k hk)⟩;rcases hk with e | e | e
 · exact h4 k (.inl e)
 · exact h4 k (.inr (.inl e))
 · rcases g4 k e with e | e
   · exact h4 k (.inr (.inr e))
   · exact hF k e
theorem hp_pop_none (h : Hp F w b [] p) :
   Calls Tryz.prog 69 #[.pointer (some ⟨b, 0, none⟩)] w fun e w' => e = .returned (.tuple #[.int .i64 0, .int .i64 0, .int .i64 0, .bool false]) ∧ w = w' := by
 obtain ⟨bm, sv, d, h1, h2, h3, h4⟩ := h;exact pop_none h1 (by rw [h3.length_eq]; rfl)
def IsFirst (x : T) (L : List T) : Prop := x ∈ L ∧ ∀ y ∈ L, le_ T.key T.num x y
theorem first_of {d : List T} (h : Heapy T.key T.num d) (h0 : 0 < d.length) (hp : d.Perm L) : IsFirst (at_ d 0) L :=
 ⟨hp.mem_iff.1 (at_mem d 0 h0), fun y hy => by
   obtain ⟨i, hi, rfl⟩ := mem_at (hp.mem_iff.2 hy);exact heap_first h i hi⟩
theorem hp_pop_some (h : Hp F w b L p) (h0 : 0 < L.length) :
   Calls Tryz.prog 69 #[.pointer (some ⟨b, 0, none⟩)] w fun e w' => ∃ x L', e = .returned (.tuple #[.int .i64 x.key, .int .i64 x.v, .int .i64 x.num, .bool true]) ∧ IsFirst x L ∧ (x :: L').Perm L ∧ Hp F w' b L' p ∧ Only F w w' := by
 obtain ⟨bm, sv, d, h1, h2, h3, h4⟩ := h;have h0' : 0 < d.length := by rw [h3.length_eq]; exact h0
 refine (pop_some h1 h2 h0').mono fun e w' ⟨he, d', sv', g1, g2, g3, g4, g5⟩ => ⟨at_ d 0, d', he, first_of h2 h0' h3, g2.trans h3, ⟨bm, sv', d', g1, g3, List.Perm.refl _, fun k hk => ?_⟩, g5.mono (fun k _ hk => h4 k hk)⟩;rcases hk with e | e | e
 · exact h4 k (.inl e)
 · exact h4 k (.inr (.inl e))
 · exact h4 k (.inr (.inr (by rw [← g4]; exact e)))
end
end Go.Proofs.YtcabolfookofoaaGreatDoor.HI
namespace Go.Proofs.YtcabolfookofoaaGreatDoor
open Go.RowKit HI
theorem Hp_bound {F : Nat → Prop} {w : World} {b p : Nat} {L : List T} (h : Hp F w b L p) : Hp (fun k => F k ∧ k < w.heap.size) w b L p := by
 obtain ⟨bm, sv, d, h1, h2, h3, h4⟩ := h;refine ⟨bm, sv, d, h1, h2, h3, fun k hk => ⟨h4 k hk, ?_⟩⟩;rcases hk with e | e | e
 · rw [e]; exact h1.lt
 · rw [e]; exact h1.ltm
 · exact h1.ltg e
def TF (B gt g : Nat) (k : Nat) : Prop := B ≤ k ∧ k ≠ gt ∧ k ≠ g
structure TM (B : Nat) (w : World) (gt g b : Nat) (cv : Value) (d : List Int) (L : List T) (p : Nat) : Prop where
 st : w.heap[gt]? = some (.cells #[cv, .slice (some ⟨g, 0, none⟩) d.length d.length, .pointer (some ⟨b, 0, none⟩)] 99 (0, 0))
 dep : DepAt w g d
 hp : Hp (TF B gt g) w b L p
 ne : g ≠ gt
 lo : B ≤ gt ∧ B ≤ g
structure MetR (L : List T) (d : List Int) (gn : Nat → Bool) : Prop where
 all : ∀ x ∈ L, ∃ q : Nat, x.key = q ∧ q < d.length ∧ d.getD q (-1) ≠ -1 ∧ gn q = false ∧ x.v = d.getD q (-1)
 has : ∀ q, q < d.length → d.getD q (-1) ≠ -1 → gn q = false → ∃ x ∈ L, x.key = (q : Int)
 uniq : L.Pairwise fun x y => x.key ≠ y.key
 gone : ∀ q, gn q = true → d.getD q (-1) ≠ -1
section
variable {B gt g b p : Nat} {cv : Value} {d : List Int} {L : List T} {w W : World}
theorem TM.lt (h : TM B w gt g b cv d L p) : gt < w.heap.size := (Array.getElem?_eq_some_iff.1 h.st).1
theorem TM.below (h : TM B w gt g b cv d L p) (hb : Below w.heap.size w W) : TM B W gt g b cv d L p :=
 ⟨(hb.block gt h.lt).trans h.st, h.dep.below hb, h.hp.below hb, h.ne, h.lo⟩
theorem TM.c0 (h : TM B w gt g b cv d L p) : w.cell? ⟨gt, 0, none⟩ = some cv := by simp [World.cell?, h.st]
theorem TM.c1 (h : TM B w gt g b cv d L p) : w.cell? ⟨gt, 1, none⟩ = some (.slice (some ⟨g, 0, none⟩) d.length d.length) := by simp [World.cell?, h.st]
theorem TM.c2 (h : TM B w gt g b cv d L p) : w.cell? ⟨gt, 2, none⟩ = some (.pointer (some ⟨b, 0, none⟩)) := by simp [World.cell?, h.st]
theorem TM.fr (h : TM B w gt g b cv d L p) (j : Nat) : w.frozen? ⟨gt, j, none⟩ = false := by simp [World.frozen?, h.st]
theorem TM.set (h : TM B w gt g b cv d L p) (i : Nat) (v : Int) : TM B (w.setCell ⟨g, i, none⟩ (.int .i64 v)) gt g b cv (d.set i v) L p := by
 have ho : Only (fun k => k = g) w (w.setCell ⟨g, i, none⟩ (.int .i64 v)) := (Only.refl (fun k => k = g) w).setCell (.inl rfl) _;refine ⟨?_, h.dep.set i v, h.hp.kept ho (fun k _ hk e => hk.2.2 e), h.ne, h.lo⟩;rw [List.length_set];exact (ho.block gt h.lt (fun e => h.ne e.symm)).trans h.st
theorem TM.heap {L' : List T} {p' : Nat} (h : TM B w gt g b cv d L p) (ho : Only (TF B gt g) w W) (hp : Hp (TF B gt g) W b L' p') : TM B W gt g b cv d L' p' :=
 ⟨(ho.block gt h.lt (fun e => e.2.1 rfl)).trans h.st, h.dep.only ho (fun e => e.2.2 rfl), hp, h.ne, h.lo⟩
end
theorem MetR.push {L : List T} {d : List Int} {gn : Nat → Bool} (h : MetR L d gn) {q p : Nat} {v : Int} (hq : q < d.length) (hn : d.getD q (-1) = -1) (hv : v ≠ -1) : MetR (L ++ [⟨q, p, v⟩]) (d.set q v) gn := by
 have hgq : gn q = false := by
   cases e : gn q with
   | false => rfl
   | true => exact absurd hn (h.gone q e)
 refine ⟨fun x hx => ?_, fun r hr hm hg => ?_, ?_, fun r hr => ?_⟩
 · rw [List.length_set]
   rcases List.mem_append.1 hx with hx | hx
   · obtain ⟨r, e1, e2, e3, e4, e5⟩ := h.all x hx
     have hrq : r ≠ q := fun e => e3 (by rw [e]; exact hn)
     refine ⟨r, e1, e2, ?_, e4, ?_⟩
     · rw [getD_set _ _ _ _ hq, if_neg hrq]; exact e3
     · rw [getD_set _ _ _ _ hq, if_neg hrq]; exact e5
   · obtain rfl := List.mem_singleton.1 hx
     exact ⟨q, rfl, hq, by rw [getD_set _ _ _ _ hq, if_pos rfl]; exact hv, hgq, by rw [getD_set _ _ _ _ hq, if_pos rfl]⟩
 · rw [List.length_set] at hr
   by_cases e : r = q
   · exact ⟨_, List.mem_append.2 (.inr (List.mem_singleton.2 rfl)), by rw [e]⟩
   · rw [getD_set _ _ _ _ hq, if_neg e] at hm
     obtain ⟨x, hx, hk⟩ := h.has r hr hm hg;exact ⟨x, List.mem_append.2 (.inl hx), hk⟩
 · rw [List.pairwise_append]
   refine ⟨h.uniq, List.pairwise_singleton _ _, fun x hx y hy => ?_⟩;obtain rfl := List.mem_singleton.1 hy;obtain ⟨r, e1, e2, e3, e4, e5⟩ := h.all x hx;intro e;rw [e1] at e;have e' : (r : Int) = (q : Int) := e;have hrq : r = q := by omega
   exact e3 (by rw [hrq]; exact hn)
 · rw [getD_set _ _ _ _ hq]
   split
   · exact hv
   · exact h.gone r hr
section
variable {B gt g b p : Nat} {cv : Value} {d : List Int} {L : List T} {w : World}
def MetPost (B gt g b : Nat) (cv : Value) (pm : Nat) (gn : Nat → Bool) (r : Option (List Int)) (e : Ending) (w w' : World) : Prop :=
 e = .returned (.bool r.isSome) ∧ Only (fun k => B ≤ k) w w' ∧ ∀ d1, r = some d1 → ∃ L' p', TM B w' gt g b cv d1 L' p' ∧ MetR L' d1 gn ∧ p' ≤ pm
set_option maxRecDepth 20000 in
set_option maxHeartbeats 4000000 in
theorem meet_any {gn : Nat → Bool} (h : TM B w gt g b cv d L p) (hM : MetR L d gn) (hcv : ∃ ad cap, cv = .slice ad d.length cap) (hp : p < 1099511627776) {q : Nat} {v : Int} (hq : q ≤ d.length) (hv : 0 ≤ v) (_hd : ∀ r, d.getD r (-1) = -1 ∨ 0 ≤ d.getD r (-1)) (hn : d.length ≤ 8192) :
   Calls Tryz.prog 68 #[.pointer (some ⟨gt, 0, none⟩), .int .i64 q, .int .i64 v] w fun e w' => MetPost B gt g b cv (p + 1) gn (meetI d q v) e w w' := by
 obtain ⟨r, hr⟩ := exHid (meetI d q v);rw [hr.out];have hr' := hr.out;unfold meetI at hr';have c0 := h.c0;have c1 := h.c1;have c2 := h.c2;have f0 := h.fr 0;obtain ⟨ad, cap, rfl⟩ := hcv;have hT := Lib.hid h;have hB := h.lo;have hlt := h.dep.lt;have hgl := h.lt;have hq64 : (q : Int) ≤ 8192 := by omega
 rcases Nat.lt_or_ge q d.length with hql | hql
 · have hx := h.dep.cell hql
   have hfz := h.dep.fr q;rw [if_neg (by omega)] at hr';have hne : ((q : Int) == (d.length : Int)) = false := beq_eq_false_iff_ne.2 (by omega);have hqi : (q : Int) < (d.length : Int) := by omega
   obtain ⟨y, hy⟩ := exHid (d.getD q (-1));rw [hy.out] at hr' hx;obtain ⟨n, hn'⟩ := exHid d.length;rw [hn'.out] at c1 c0 hne hqi;clear h;by_cases h1 : y = -1
   · subst h1
     rw [if_pos rfl] at hr';have P := fun (W : World) (hW : TM B W gt g b (.slice ad n cap) (d.set q v) L p) => hp_push hW.hp hp (fun k hk => ⟨by have := hW.lo; have := hW.lt; omega, by have := hW.lt; omega, by have := hW.dep.lt; omega⟩) q v
     have hS := Lib.hid (hT.out.set q v);rw [hn'.out] at hS;have hcl : (w.setCell ⟨g, q, none⟩ (.int .i64 v)).cell? ⟨g, q, none⟩ = some (.int .i64 v) := by
       have := hS.out.dep.cell (i := q) (by rw [List.length_set]; exact hql);rw [getD_set _ _ _ _ hql, if_pos rfl] at this;exact this
     have k0 := hS.out.c0;have k1 := hS.out.c1;have k2 := hS.out.c2;rw [List.length_set, hn'.out] at k1;replace hr' := Lib.hid hr';go_enter Tryz.func68, Tryz.ntmps68
     go_wp2_with (go_at_call 100; refine (P _ hS.out).mono ?_; rintro e w1 ⟨rfl, hH, ho⟩; have hT1 := TM.heap hS.out ho hH; have j1 := hT1.c1; have jx := hT1.dep.cell (i := q) (by rw [List.length_set]; exact hql); rw [getD_set _ _ _ _ hql, if_pos rfl] at jx; rw [List.length_set, hn'.out] at j1; replace hH := Lib.hid hH; replace ho := Lib.hid ho; replace hT1 := Lib.hid hT1)
     go_ret
     refine ⟨ret_bool (by rw [← hr'.out]; simp), ?_, fun d1 e => ?_⟩
     · exact ((Only.refl (fun k => B ≤ k) w).setCell (p := ⟨g, q, none⟩) (.inl hB.2) _).then (ho.out.mono (fun k _ hk => hk.1))
     · have hr2 := hr'.out
       rw [e] at hr2;obtain rfl := Option.some.inj hr2;rw [hn'.out];exact ⟨_, _, hT1.out, hM.push hql hy.out (by omega), Nat.le_refl _⟩
   · rw [if_neg h1] at hr'
     have hy1 : (y == -1) = false := beq_eq_false_iff_ne.2 h1;by_cases h2 : y = v
     · subst h2
       rw [if_pos rfl] at hr';replace hr' := Lib.hid hr';replace hy := Lib.hid hy.out;go_enter Tryz.func68, Tryz.ntmps68
       go_wp2
       go_ret
       refine ⟨ret_bool (by rw [← hr'.out]; simp), Only.refl _ _, fun d1 e => ?_⟩;have hr2 := hr'.out;rw [e] at hr2;obtain rfl := Option.some.inj hr2;exact ⟨_, _, hT.out, hM, by omega⟩
     · rw [if_neg h2] at hr'
       have hy2 : (y == v) = false := beq_eq_false_iff_ne.2 h2;replace hr' := Lib.hid hr';replace hy := Lib.hid hy.out;go_enter Tryz.func68, Tryz.ntmps68
       go_wp2
       go_ret
       refine ⟨ret_bool (by rw [← hr'.out]; rfl), Only.refl _ _, fun d1 e => ?_⟩;rw [← hr'.out] at e;cases e
 · rw [if_pos hql] at hr'
   have hne : ((q : Int) == (d.length : Int)) = true := by rw [beq_iff_eq]; omega
   replace hr' := Lib.hid hr';clear h;go_enter Tryz.func68, Tryz.ntmps68
   go_wp2
   go_ret
   refine ⟨ret_bool (by rw [← hr'.out]; rfl), Only.refl _ _, fun d1 e => ?_⟩;rw [← hr'.out] at e;cases e
theorem meet_int {gn : Nat → Bool} (h : TM B w gt g b cv d L p) (hM : MetR L d gn) (hcv : ∃ ad cap, cv = .slice ad d.length cap) (hp : p < 1099511627776) {q v : Int} (hq : 0 ≤ q) (hq2 : q ≤ d.length) (hv : 0 ≤ v) (hd : ∀ r, d.getD r (-1) = -1 ∨ 0 ≤ d.getD r (-1)) (hn : d.length ≤ 8192) :
   Calls Tryz.prog 68 #[.pointer (some ⟨gt, 0, none⟩), .int .i64 q, .int .i64 v] w fun e w' => MetPost B gt g b cv (p + 1) gn (meetI d q.toNat v) e w w' := by
 have := meet_any h hM hcv hp (q := q.toNat) (v := v) (by omega) hv hd hn;rw [Int.toNat_of_nonneg hq] at this;exact this
end
end Go.Proofs.YtcabolfookofoaaGreatDoor
namespace Go.Proofs.YtcabolfookofoaaGreatDoor
open Go.RowKit
theorem tup2 {a b c d : Int} (h : a = c ∧ b = d) : Ending.returned (.tuple #[.int .i64 a, .int .i64 b]) = .returned (.tuple #[.int .i64 c, .int .i64 d]) := by rw [h.1, h.2]
set_option maxRecDepth 20000 in
set_option maxHeartbeats 8000000 in
theorem moves_any (x : Ins) (w : World) :
   Calls Tryz.prog 103 #[insV x] w fun e w' => e = .returned (.tuple #[.int .i64 (takesI x), .int .i64 (leaveR x.op)]) ∧ Below w.heap.size w w' := by
 obtain ⟨op, a, num, tx⟩ := x;obtain ⟨tk, hT⟩ := exHid (takesI ⟨op, a, num, tx⟩);obtain ⟨lv, hL⟩ := exHid (leaveR op : Int);dsimp only;rw [hT.out, hL.out];unfold insV;dsimp only;go_enter Tryz.func103, Tryz.ntmps103
 go_wp2
 all_goals refine bodyPost_ret (results_tmp2 rfl _ _ _) rfl ?_
 all_goals refine ⟨tup2 ?_, by go_grown⟩
 all_goals (rw [← hT.out, ← hL.out]; clear hT hL; simp only [beq_iff_eq, beq_eq_false_iff_ne, ne_eq] at *; unfold takesI akI takesR leaveR; dsimp only; refine ⟨?_, ?_⟩ <;> (repeat' split) <;> omega)
end Go.Proofs.YtcabolfookofoaaGreatDoor
