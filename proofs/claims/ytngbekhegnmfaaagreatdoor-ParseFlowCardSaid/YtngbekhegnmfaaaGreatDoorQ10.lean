/- A part of the proof: PTwo, PCont, PFuel, PRow. No condition. -/
import Derived.Deep.RegionWith
import Derived.Deep.RegionLaw
import Derived.Test.YtngbekhegnmfaaaGreatDoorQ03
import Derived.Test.YtngbekhegnmfaaaGreatDoorQ09
set_option linter.unusedVariables false
set_option linter.unusedSimpArgs false
namespace Go.Proofs.YtngbekhegnmfaaaGreatDoor
open Go.RowKit Go.Shelf Tok
section
variable {w W W' : World} {R cap n i j : Nat} {a : Option Addr} {ks : List Tk}
theorem Mid.extF {F : Nat → Prop} (h : Mid w W R a cap n ks j) (hg : 1 < w.heap.size) (hF : ∀ k, F k → w.heap.size ≤ k) (ho : Only F W W') : Mid w W' R a cap n ks j :=
 ⟨h.pr.kept ho (fun e => by have := h.rl; have := hF _ e; omega) (fun q hq h0 e => by have := h.fa q hq h0; have := hF _ e; omega), fun z v hv => (ho.cell (p := ⟨1, 0 + z, none⟩) (World.block_lt_of_cell? W _ (h.mo z v hv)) (fun e => by have : w.heap.size ≤ 1 := hF _ e; omega)).trans (h.mo z v hv), h.on.trans ho (fun _ _ e => e) (fun k hk e => by have := hF _ e; omega), h.rl, h.fa⟩
theorem heldF {F : Nat → Prop} (ho : Only F W W') {B : Nat} {o : Obj} (h : W.heap[B]? = some o) (hB : ¬ F B) : W'.heap[B]? = some o := (ho.block B (Array.getElem?_eq_some_iff.1 h).1 hB).trans h
end
set_option maxRecDepth 20000 in
set_option maxHeartbeats 1000000 in
theorem two_any {G : Nat → St Ch} {R cap n : Nat} {a : Option Addr} {ks : List Tk} (hP : Does 25 G R a cap n ks) (hn : ∀ i c j, G i = .ok c j → c.n ≤ 100000000) (hR : 1 ≠ R) {w : World} {i : Nat} (h : PR w R a cap n ks i) (hM : MakesOK w)
   (hne : ((G i).and fun c i => (wantT ks B.com i).and fun _ i => (G i).and fun d i => .ok (c.then d) i) ≠ .out) :
   Calls Tryz.prog 184 #[rp R] w (Took ((G i).and fun c i => (wantT ks B.com i).and fun _ i => (G i).and fun d i => .ok (c.then d) i) w R a cap n ks) := by
 have m0 := Lib.hid ((Mid.start h hM).alloc chZ);have hRl := h.lt;have hgl := hM.lt;have b0 := Lib.hid (heap_alloc_new w chZ);unfold wantT at hne ⊢;clear h hM;cases hg : G i with
 | out => rw [hg] at hne; exact absurd rfl hne
 | bad j =>
   have c1 := Lib.hid (does_bad hP m0.out.pr m0.out.mo hg);unfold St.and;dsimp only;clear hP hne;unfold rp at c1 ⊢;go_enter Tryz.func184, Tryz.ntmps184
   go_wp2_with fail
   refine c1.out.mono ?_;rintro e' w3 ⟨rfl, hb3⟩;go_wp2_with fail
   exact ⟨rfl, rfl, m0.out.bad hb3⟩
 | ok c j =>
   rw [hg] at hne;unfold St.and at hne ⊢;dsimp only at hne ⊢;have c1 := Lib.hid (does_ok hP m0.out.pr m0.out.mo hg);have hcn := hn _ _ _ hg;by_cases hq : markT ks j = B.com
   · rw [if_pos hq] at hne ⊢
     dsimp only at hne ⊢;have c2 := Lib.hid (fun W (hp : PR W R a cap n ks j) => want_ok hp (by decide) hq);cases hg2 : G (j + 1) with
     | out => rw [hg2] at hne; exact absurd rfl hne
     | bad k =>
       dsimp only;have c3 := Lib.hid (fun W (hp : PR W R a cap n ks (j + 1)) (hm : MakesOK W) => does_bad hP hp hm hg2);clear hP hne;unfold rp B.com at c2;unfold rp at c1 c3 ⊢;go_enter Tryz.func184, Tryz.ntmps184
       go_wp2_with fail
       refine c1.out.mono ?_;rintro e' w2 ⟨v, rfl, hv, hp2, ho2⟩;obtain ⟨p1, p2, rfl⟩ := hv.agg;have hs2 := ho2.size;rw [World.size_alloc] at hs2;have m2 := Lib.hid ((m0.out.step hR hp2 ho2).alloc (.cells #[.pointer p1, .pointer p2, .int .i64 (c.n : Int)] 72));have d2 := Lib.hid (heap_alloc_new w2 (.cells #[.pointer p1, .pointer p2, .int .i64 (c.n : Int)] 72));have c4 := Lib.hid (c2.out _ m2.out.pr);clear c1 c2 m0 b0 hp2 ho2 hv;go_wp2_with fail
       refine c4.out.mono ?_;rintro e' w4 ⟨rfl, hp4, ho4⟩;have m4 := Lib.hid ((m2.out.step hR hp4 ho4).below ((Below.refl _ w4).drew));have d4 := Lib.hid (show w4.drew.heap[w2.heap.size]? = _ from heldB ho4 d2.out (by omega));have c5 := Lib.hid (c3.out _ m4.out.pr m4.out.mo);clear c3 c4 m2 d2 hp4 ho4;obtain ⟨z0, z1, z2, _, _, _⟩ := cells3 d4.out;go_wp2_with fail
       refine wp_region_any (by kernel_rfl) ?_
       change wpAny _ _ _ _ _ _ _ (World.drew _)
       refine wpAny_take (i := 1) (v := .pointer (some ⟨R, 0, none⟩)) rfl (by kernel_rfl) (by kernel_rfl) (by kernel_rfl) (fun _ _ _ h => h) (Or.inl ⟨by rfl, by intro w; go_simp⟩) ?_;refine wpAny_ready (rs := [0, 2]) (by kernel_rfl) (by simp) ?_;refine AllReady.cons rfl (fun K hK => ?_) (AllReady.cons rfl (fun K hK => ?_) AllReady.nil)
       · go_simp
         refine hK _ _ ?_;clear hK K;refine wpAny_ready (rs := [2]) (by kernel_rfl) (by simp) ?_;refine AllReady.cons rfl (fun K hK => ?_) AllReady.nil;go_simp
         go_wp2_with fail
         refine c5.out.mono ?_;rintro e' w5 ⟨rfl, hb5⟩;go_wp2_with fail
         exact ⟨rfl, rfl, m4.out.bad hb5⟩
       · go_simp
         go_wp2_with fail
         refine c5.out.mono ?_;rintro e' w5 ⟨rfl, hb5⟩;go_wp2_with fail
         exact ⟨rfl, rfl, m4.out.bad hb5⟩
     | ok d k =>
       dsimp only;have hdn := hn _ _ _ hg2;have c3 := Lib.hid (fun W (hp : PR W R a cap n ks (j + 1)) (hm : MakesOK W) => does_ok hP hp hm hg2);clear hP hne;unfold rp B.com at c2;unfold rp at c1 c3 ⊢;go_enter Tryz.func184, Tryz.ntmps184
       go_wp2_with fail
       refine c1.out.mono ?_;rintro e' w2 ⟨v, rfl, hv, hp2, ho2⟩;obtain ⟨p1, p2, rfl⟩ := hv.agg;have hs2 := ho2.size;rw [World.size_alloc] at hs2;have m2 := Lib.hid ((m0.out.step hR hp2 ho2).alloc (.cells #[.pointer p1, .pointer p2, .int .i64 (c.n : Int)] 72));have b2 := Lib.hid (heldA (heldB ho2 b0.out (by omega)) (.cells #[.pointer p1, .pointer p2, .int .i64 (c.n : Int)] 72));have d2 := Lib.hid (heap_alloc_new w2 (.cells #[.pointer p1, .pointer p2, .int .i64 (c.n : Int)] 72));have v2 := Lib.hid ((hv.mono (G := fun k => w.heap.size + 1 ≤ k ∧ k < w2.heap.size) (fun k hk h => by rw [World.size_alloc] at h; omega)).alloc (.cells #[.pointer p1, .pointer p2, .int .i64 (c.n : Int)] 72));have c4 := Lib.hid (c2.out _ m2.out.pr);clear c1 c2 m0 b0 hp2 ho2 hv;go_wp2_with fail
       refine c4.out.mono ?_;rintro e' w4 ⟨rfl, hp4, ho4⟩;have hs4 := ho4.size;rw [World.size_alloc] at hs4;have m4 := Lib.hid ((m2.out.step hR hp4 ho4).below ((Below.refl _ w4).drew));have b4 := Lib.hid (show w4.drew.heap[w.heap.size]? = _ from heldB ho4 b2.out (by omega));have d4 := Lib.hid (show w4.drew.heap[w2.heap.size]? = _ from heldB ho4 d2.out (by omega));have v4 := Lib.hid (show ChV w4.drew (fun k => w.heap.size + 1 ≤ k ∧ k < w2.heap.size) _ c from ChV.step (R := R) (F := fun k => w.heap.size + 1 ≤ k ∧ k < w2.heap.size) v2.out (fun k hk => by have := hk.1; omega) ho4.drew);have c5 := Lib.hid (c3.out _ m4.out.pr m4.out.mo);clear c3 c4 m2 b2 d2 v2 hp4 ho4;obtain ⟨z0, z1, z2, _, _, _⟩ := cells3 d4.out;go_wp2_with fail
       go_region_law (first
         | (go_simp; go_at_call 25; refine c5.out.mono ?_; rintro e' w5 ⟨v5, rfl, hv5, hp5, ho5⟩; obtain ⟨q1, q2, rfl⟩ := hv5.agg; obtain ⟨x0, x1, x2, _, _, _⟩ := cells3 (heldB ho5 d4.out (by omega)); have t5 := Lib.hid (then_any (ChV.step (R := R) (F := fun k => w.heap.size + 1 ≤ k ∧ k < w2.heap.size) v4.out (fun k hk => by have := hk.1; omega) ho5) hv5 (fun k h1 h2 => by have h3 : w4.heap.size ≤ k := h2; have := h1.2; omega) (by omega)))
         | (go_simp; go_at_call 40; refine t5.out.mono ?_; rintro e' w6 ⟨z6, rfl, hv6, ho6⟩; obtain ⟨r1, r2, rfl⟩ := hv6.agg; have b6 := heldF ho6 (heldB ho5 b4.out (by omega)) (fun h => by have := h.1; omega); obtain ⟨y0, y1, y2, y3, y4, y5⟩ := cells3 b6))
       all_goals
         have m6 := (m4.out.step hR hp5 ho5).extF hgl (fun k h => by have := h.1; omega) ho6;have hz4 : w4.drew.heap.size = w4.heap.size := rfl;obtain ⟨l1, l2⟩ := laid3 m6 (Nat.le_refl _) hgl b6 (hv6.mono (fun k _ h => by
           rcases h with h | h
           · have := h.1; omega
           · have h3 : w4.heap.size ≤ k := h; omega))
         replace l1 := Lib.hid l1; replace l2 := Lib.hid l2;go_wp2_with fail
         exact bodyPost_ret (ret_ch rfl rfl l1.out rfl) rfl l2.out
   · rw [if_neg hq]
     dsimp only;have c2 := Lib.hid (fun W (hp : PR W R a cap n ks j) => want_bad hp (by decide) hq);clear hP hne;unfold rp B.com at c2;unfold rp at c1 ⊢;go_enter Tryz.func184, Tryz.ntmps184
     go_wp2_with fail
     refine c1.out.mono ?_;rintro e' w2 ⟨v, rfl, hv, hp2, ho2⟩;obtain ⟨p1, p2, rfl⟩ := hv.agg;have m2 := Lib.hid ((m0.out.step hR hp2 ho2).alloc (.cells #[.pointer p1, .pointer p2, .int .i64 (c.n : Int)] 72));have c4 := Lib.hid (c2.out _ m2.out.pr);clear c1 c2 m0 b0 hp2 ho2 hv;go_wp2_with fail
     refine c4.out.mono ?_;rintro e' w4 ⟨rfl, hb4⟩;go_wp2_with fail
     exact ⟨rfl, rfl, m2.out.bad hb4⟩
end Go.Proofs.YtngbekhegnmfaaaGreatDoor
namespace Go.Proofs.YtngbekhegnmfaaaGreatDoor
open Go.RowKit Go.Shelf Tok
def StrsIn (w : World) (g n : Nat) (ms : List (List UInt8)) : Prop := n = ms.length ∧ ∀ i (h : i < ms.length), w.cell? ⟨g, i, none⟩ = some (.string ⟨ms[i].toArray⟩)
theorem StrsIn.keep {w W : World} {F : Nat → Prop} {g n : Nat} {ms : List (List UInt8)} (h : StrsIn w g n ms) (ho : Only F w W) (hF : ¬ F g) : StrsIn W g n ms :=
 ⟨h.1, fun i hi => (ho.cell (p := ⟨g, i, none⟩) (World.block_lt_of_cell? w _ (h.2 i hi)) hF).trans (h.2 i hi)⟩
set_option maxRecDepth 20000 in
set_option maxHeartbeats 1000000 in
theorem index_any {w : World} {g n : Nat} {ms : List (List UInt8)} (h : StrsIn w g n ms) (hn : n ≤ 1000) (m : List UInt8) :
   Calls Tryz.prog 128 #[.slice (some ⟨g, 0, none⟩) n n, .string ⟨m.toArray⟩] w fun e w' => ∃ r : Int, e = .returned (.int .i64 r) ∧ (m ∈ ms ↔ 0 ≤ r) ∧ w' = w := by
 obtain ⟨hl, hc⟩ := h;replace hc := Lib.hid hc;go_enter Tryz.func128, Tryz.ntmps128
 go_wp2_with fail
 go_loop [5, 8] (fun t5 t8 => ∃ i : Nat, i ≤ n ∧ t8 = .int .i64 i ∧ Hid (∀ j (h : j < ms.length), j < i → ms[j] ≠ m)) (fun _ t8 => n - (intOf t8).toNat)
 case atStart => exact ⟨0, by omega, by go_num, Lib.hid (fun j h h0 => by omega)⟩
 case round =>
   obtain ⟨i, hi, rfl, hno⟩ := hrel;rcases Nat.lt_or_ge i n with hlt | hge
   · have hlti : (i : Int) < (n : Int) := by omega
     have hil : i < ms.length := by omega
     have hci := hc.out i hil;by_cases hq : ms[i] = m
     · have hmem : m ∈ ms := by rw [← hq]; exact List.getElem_mem hil
       rw [hq] at hci;have e1 : (m == m) = true := beq_self_eq_true _;replace hmem := Lib.hid hmem; replace hq := Lib.hid hq;go_wp2_with fail
       go_ret
       exact ⟨_, rfl, ⟨fun _ => by omega, fun _ => hmem.out⟩, rfl⟩
     · have hno2 := Lib.hid (fun j (h : j < ms.length) (h0 : j < i + 1) => (show ms[j] ≠ m from by
         rcases Nat.lt_or_ge j i with h1 | h1
         · exact hno.out j h h1
         · obtain rfl : j = i := by omega
           exact hq))
       generalize ms[i] = T at *;have e1 : (m == T) = false := beq_eq_false_iff_ne.2 (fun e => hq e.symm);replace hq := Lib.hid hq;go_wp2_with fail
       go_round
       case rel => exact ⟨i + 1, by omega, by go_num, hno2⟩
       case measure => simp [intOf]; omega
   · obtain rfl : i = n := by omega
     have hlti : ¬ ((i : Int) < (i : Int)) := by omega
     have hnm := Lib.hid (fun hm : m ∈ ms => by
       obtain ⟨j, hj, e⟩ := List.getElem_of_mem hm;exact hno.out j hj (by omega) e)
     go_wp2_with fail
     go_ret
     exact ⟨-1, rfl, ⟨fun hm => (hnm.out hm).elim, fun h => by omega⟩, rfl⟩
set_option maxRecDepth 20000 in
set_option maxHeartbeats 1000000 in
theorem contains_any {w : World} {g n : Nat} {ms : List (List UInt8)} (h : StrsIn w g n ms) (hn : n ≤ 1000) (m : List UInt8) {b : Bool} (hb : decide (m ∈ ms) = b) :
   Calls Tryz.prog 92 #[.slice (some ⟨g, 0, none⟩) n n, .string ⟨m.toArray⟩] w fun e w' => e = .returned (.bool b) ∧ w' = w := by
 have c := Lib.hid (index_any h hn m);clear h;go_enter Tryz.func92, Tryz.ntmps92
 go_wp2_with fail
 refine c.out.mono ?_;rintro e w1 ⟨r, rfl, hr, rfl⟩;have hb2 : decide ((0 : Int) ≤ r) = b := by rw [← hb]; exact decide_eq_decide.2 hr.symm
 replace hr := Lib.hid hr; replace hb := Lib.hid hb;go_wp2_with fail
 go_ret
 exact ⟨rfl, rfl⟩
end Go.Proofs.YtngbekhegnmfaaaGreatDoor
namespace Go.Proofs.YtngbekhegnmfaaaGreatDoor
open Go.RowKit Tok
def NT.rank : NT → Nat
 | .prim => 1 | .post => 2 | .pre => 3 | .term => 5 | .sum => 7 | .cmp => 8 | .not => 9 | .and => 11 | .expr => 13 | .two => 14
 | .stmt => 1 | .stmtsGo _ => 2 | .stmts => 3 | .block => 1
 | .postGo _ => 1
 | .row p _ => (match p with | .pre => 4 | .term => 6 | .not => 10 | .and => 12 | _ => 30)
 | _ => 0
def NT.wf : NT → Prop
 | .row p ms | .rowGo p ms _ => (p = .pre ∨ p = .term ∨ p = .not ∨ p = .and) ∧ ∀ m ∈ ms, m ≠ []
 | .list o p e => o ≠ [] ∧ e ≠ [] ∧ (p = .param ∨ p = .expr)
 | .listGo p e _ => e ≠ [] ∧ (p = .param ∨ p = .expr)
 | .between o p e => o ≠ [] ∧ e ≠ [] ∧ (p = .stmts ∨ p = .expr ∨ p = .two)
 | _ => True
def NT.least : NT → Nat
 | .stmt => 1 | .set _ => 1 | .choice => 1 | .list _ _ _ => 1 | .between _ _ _ => 1 | _ => 0
def Fine {α : Type} (ks : List Tk) (s : St α) (i b : Nat) : Prop := s ≠ .out ∧ ∀ c j, s = .ok c j → i + b ≤ j ∧ j ≤ ks.length
section
variable {ks : List Tk} {α β : Type} {s : St α} {i b c d : Nat}
theorem Fine.and {f : α → Nat → St β} (h : Fine ks s i b) (hf : ∀ a k, i + b ≤ k → k ≤ ks.length → Fine ks (f a k) k c) (hd : d ≤ b + c) : Fine ks (s.and f) i d := by
 obtain ⟨h1, h2⟩ := h;cases s with
 | ok a j =>
   obtain ⟨h3, h4⟩ := h2 a j rfl;obtain ⟨h5, h6⟩ := hf a j h3 h4;exact ⟨h5, fun x k e => by obtain ⟨y1, y2⟩ := h6 x k e; exact ⟨by omega, y2⟩⟩
 | bad j => exact ⟨fun e => (by cases e), fun x k e => (by cases e)⟩
 | out => exact absurd rfl h1
theorem Fine.ok {a : α} (hi : i ≤ ks.length) : Fine ks (.ok a i) i 0 := ⟨fun e => (by cases e), fun x k e => by cases e; exact ⟨Nat.le_refl _, hi⟩⟩
theorem Fine.less (h : Fine ks s i b) (hc : c ≤ b) : Fine ks s i c := ⟨h.1, fun x k e => by obtain ⟨y1, y2⟩ := h.2 x k e; exact ⟨by omega, y2⟩⟩
theorem mark_lt {m : List UInt8} (h : markT ks i = m) (hm : m ≠ []) : i < ks.length := by
 unfold markT at h;rcases Nat.lt_or_ge i ks.length with hl | hl
 · exact hl
 · rw [List.getElem?_eq_none hl] at h
   exact absurd h.symm hm
theorem want_fine {m : List UInt8} (hm : m ≠ []) : Fine ks (wantT ks m i) i 1 := by
 unfold wantT;split
 · rename_i h
   have := mark_lt h hm;exact ⟨fun e => (by cases e), fun x k e => by cases e; exact ⟨Nat.le_refl _, this⟩⟩
 · exact ⟨fun e => (by cases e), fun x k e => (by cases e)⟩
theorem own_fine : Fine ks (ownT ks i) i 1 := by
 unfold ownT;split
 · rename_i x h
   have := (List.getElem?_eq_some_iff.1 h).1;split
   · exact ⟨fun e => (by cases e), fun x k e => by cases e; exact ⟨Nat.le_refl _, this⟩⟩
   · exact ⟨fun e => (by cases e), fun x k e => (by cases e)⟩
 · exact ⟨fun e => (by cases e), fun x k e => (by cases e)⟩
end
theorem gP_fine (ks : List Tk) : ∀ f q i, q.wf → i ≤ ks.length → 32 * (ks.length - i) + q.rank + 1 ≤ f → Fine ks (gP ks f q i) i q.least
 | 0, q, i, _, _, h => by omega
 | f + 1, q, i, hw, hi, h => by
   have ih := gP_fine ks f;have hM : ∀ m, NT.rank .prim = 1 → 32 * (ks.length - i) + 2 ≤ f + 1 → Fine ks (gM ks (gP ks f) m i) i 0 := by
     intro m _ hf;unfold gM;split
     · exact (ih (.list B.lsq .expr B.rsq) i ⟨by decide, by decide, .inr rfl⟩ hi (by simp only [NT.rank]; omega)).and (fun _ k h1 h2 => Fine.ok h2) (by simp [NT.least])
     split
     · exact (ih (.between B.opn .expr B.cls) i ⟨by decide, by decide, .inr (.inl rfl)⟩ hi (by simp only [NT.rank]; omega)).less (Nat.zero_le _)
     split
     · rename_i hm
       exact (want_fine (by rcases hm with rfl | rfl | rfl | rfl <;> decide)).and (fun _ k h1 h2 => Fine.ok h2) (by omega)
     split
     · rename_i hm
       exact (want_fine (by rcases hm with rfl | rfl | rfl | rfl | rfl <;> decide)).and (fun _ k h1 h2 => (ih (.between B.opn .expr B.cls) k ⟨by decide, by decide, .inr (.inl rfl)⟩ h2 (by simp only [NT.rank]; omega)).and (fun _ k h1 h2 => Fine.ok h2) (Nat.zero_le _)) (by omega)
     split
     · rename_i hm
       exact (want_fine (by rw [hm]; decide)).and (fun _ k h1 h2 => (ih (.between B.opn .two B.cls) k ⟨by decide, by decide, .inr (.inr rfl)⟩ h2 (by simp only [NT.rank]; omega)).and (fun _ k h1 h2 => Fine.ok h2) (Nat.zero_le _)) (by omega)
     split
     · rename_i hm
       exact (want_fine (by rcases hm with rfl | rfl <;> decide)).and (fun _ k h1 h2 => own_fine.and (fun _ k h3 h4 => (ih (.list B.opn .expr B.cls) k ⟨by decide, by decide, .inr rfl⟩ h4 (by simp only [NT.rank]; omega)).and (fun _ k h1 h2 => Fine.ok h2) (Nat.zero_le _)) (Nat.zero_le _)) (by omega)
     split
     · rename_i hm
       exact (want_fine (by rw [hm]; decide)).and (fun _ k h1 h2 => (ih .block k trivial h2 (by simp only [NT.rank]; omega)).and (fun _ k h1 h2 => Fine.ok h2) (Nat.zero_le _)) (by omega)
     split
     · rename_i hm
       exact (want_fine (by rw [hm]; decide)).and (fun _ k h1 h2 => own_fine.and (fun _ k h1 h2 => Fine.ok h2) (Nat.zero_le _)) (by omega)
     · exact own_fine.and (fun _ k h1 h2 => Fine.ok h2) (by omega)
   cases q with
   | flow =>
     show Fine ks ((wantT ks B.flow i).and _) i 0
     exact (want_fine (by decide)).and (fun _ k h1 h2 => own_fine.and (fun _ k h3 h4 => (ih (.list B.opn .param B.cls) k ⟨by decide, by decide, .inl rfl⟩ h4 (by simp only [NT.rank]; omega)).and (fun _ k h5 h6 => (ih .block k trivial h6 (by simp only [NT.rank, NT.least] at *; omega)).and (fun _ k h1 h2 => Fine.ok h2) (Nat.zero_le _)) (Nat.zero_le _)) (Nat.zero_le _)) (Nat.zero_le _)
   | param =>
     show Fine ks ((ownT ks i).and _) i 0
     exact own_fine.and (fun _ k h1 h2 => Fine.ok h2) (by omega)
   | block =>
     show Fine ks ((gP ks f (.between B.lbr .stmts B.rbr) i).and _) i 0
     exact (ih (.between B.lbr .stmts B.rbr) i ⟨by decide, by decide, .inl rfl⟩ hi (by simp only [NT.rank] at *; omega)).and (fun _ k h1 h2 => Fine.ok h2) (Nat.zero_le _)
   | stmts =>
     show Fine ks (gP ks f (.stmtsGo Ch.none) i) i 0
     exact ih (.stmtsGo Ch.none) i trivial hi (by simp only [NT.rank] at *; omega)
   | stmtsGo a =>
     unfold gP;dsimp only;split
     · exact Fine.ok hi
     · exact (ih .stmt i trivial hi (by simp only [NT.rank] at *; omega)).and (fun _ k h1 h2 => (ih (.stmtsGo _) k trivial h2 (by simp only [NT.rank, NT.least] at *; omega))) (Nat.zero_le _)
   | stmt =>
     unfold gP;dsimp only;simp only [NT.rank] at h;split
     · exact (want_fine (by decide)).and (fun _ k h1 h2 => (ih (.set 4) k trivial h2 (by simp only [NT.rank]; omega))) (by simp [NT.least])
     split
     · exact ih .choice i trivial hi (by simp only [NT.rank]; omega)
     split
     · exact (want_fine (by decide)).and (fun _ k h1 h2 => (ih .expr k trivial h2 (by simp only [NT.rank]; omega)).and (fun _ k h3 h4 => (ih .block k trivial h4 (by simp only [NT.rank, NT.least] at *; omega)).and (fun _ k h1 h2 => Fine.ok h2) (Nat.zero_le _)) (Nat.zero_le _)) (by simp [NT.least])
     split
     · rename_i hm
       exact (want_fine (by rcases hm with hm | hm | hm | hm <;> rw [hm] <;> decide)).and (fun _ k h1 h2 => (ih .expr k trivial h2 (by simp only [NT.rank]; omega)).and (fun _ k h1 h2 => Fine.ok h2) (Nat.zero_le _)) (by simp [NT.least])
     · exact ih (.set 5) i trivial hi (by simp only [NT.rank]; omega)
   | choice =>
     show Fine ks ((wantT ks B.if i).and _) i 1
     simp only [NT.rank] at h;refine (want_fine (by decide)).and (fun _ k h1 h2 => (ih .expr k trivial h2 (by simp only [NT.rank]; omega)).and (fun _ k h3 h4 => (ih .block k trivial h4 (by simp only [NT.rank, NT.least] at *; omega)).and (c := 0) (fun _ k h5 h6 => ?_) (Nat.zero_le _)) (Nat.zero_le _)) (by omega);simp only [NT.least] at h3 h5;split
     · exact (want_fine (by decide)).and (fun _ k h7 h8 => (ih .block k trivial h8 (by simp only [NT.rank] at *; omega)).and (fun _ k h1 h2 => Fine.ok h2) (Nat.zero_le _)) (Nat.zero_le _)
     · exact Fine.ok h6
   | expr =>
     show Fine ks (gP ks f (.row .and [B.or]) i) i 0
     exact ih (.row .and [B.or]) i ⟨.inr (.inr (.inr rfl)), by decide⟩ hi (by simp only [NT.rank] at *; omega)
   | and =>
     show Fine ks (gP ks f (.row .not [B.and]) i) i 0
     exact ih (.row .not [B.and]) i ⟨.inr (.inr (.inl rfl)), by decide⟩ hi (by simp only [NT.rank] at *; omega)
   | not =>
     unfold gP;dsimp only;simp only [NT.rank] at h;split
     · exact (want_fine (by decide)).and (fun _ k h1 h2 => (ih .not k trivial h2 (by simp only [NT.rank]; omega)).and (fun _ k h1 h2 => Fine.ok h2) (Nat.zero_le _)) (by simp [NT.least])
     · exact ih .cmp i trivial hi (by simp only [NT.rank]; omega)
   | cmp =>
     show Fine ks ((gP ks f .sum i).and _) i 0
     simp only [NT.rank] at h;refine (ih .sum i trivial hi (by simp only [NT.rank]; omega)).and (c := 0) (fun _ k h1 h2 => ?_) (Nat.zero_le _);simp only [NT.least] at h1;split
     · rename_i hm
       exact (want_fine (by rcases hm with hm | hm | hm | hm <;> rw [hm] <;> decide)).and (fun _ k h1 h2 => (ih .sum k trivial h2 (by simp only [NT.rank]; omega)).and (fun _ k h1 h2 => Fine.ok h2) (Nat.zero_le _)) (Nat.zero_le _)
     · exact Fine.ok h2
   | sum =>
     show Fine ks (gP ks f (.row .term addS) i) i 0
     exact ih (.row .term addS) i ⟨.inr (.inl rfl), by decide⟩ hi (by simp only [NT.rank] at *; omega)
   | term =>
     show Fine ks (gP ks f (.row .pre mulS) i) i 0
     exact ih (.row .pre mulS) i ⟨.inl rfl, by decide⟩ hi (by simp only [NT.rank] at *; omega)
   | pre =>
     unfold gP;dsimp only;simp only [NT.rank] at h;split
     · exact (want_fine (by decide)).and (fun _ k h1 h2 => (ih .pre k trivial h2 (by simp only [NT.rank]; omega)).and (fun _ k h1 h2 => Fine.ok h2) (Nat.zero_le _)) (by simp [NT.least])
     split
     · rename_i hm
       exact (want_fine (by rcases hm with hm | hm <;> rw [hm] <;> decide)).and (fun _ k h1 h2 => (ih .pre k trivial h2 (by simp only [NT.rank]; omega)).and (fun _ k h1 h2 => Fine.ok h2) (Nat.zero_le _)) (by simp [NT.least])
     · exact ih .post i trivial hi (by simp only [NT.rank]; omega)
   | post =>
     show Fine ks ((gP ks f .prim i).and _) i 0
     simp only [NT.rank] at h;exact (ih .prim i trivial hi (by simp only [NT.rank]; omega)).and (fun _ k h1 h2 => (ih (.postGo _) k trivial h2 (by simp only [NT.rank, NT.least] at *; omega))) (Nat.zero_le _)
   | postGo a =>
     unfold gP;dsimp only;simp only [NT.rank] at h;split
     · rename_i hm
       exact (ih (.between B.lsq .expr B.rsq) i ⟨by decide, by decide, .inr (.inl rfl)⟩ hi (by simp only [NT.rank]; omega)).and (fun _ k h1 h2 => (ih (.postGo _) k trivial h2 (by simp only [NT.rank, NT.least] at *; omega))) (Nat.zero_le _)
     · exact Fine.ok hi
   | prim =>
     unfold gP;dsimp only;simp only [NT.rank] at h;split
     · rename_i x hx
       have hl := (List.getElem?_eq_some_iff.1 hx).1;have hok : ∀ c : Ch, Fine ks (.ok c (i + 1)) i 0 := fun c => ⟨fun e => (by cases e), fun x k e => by cases e; exact ⟨by omega, hl⟩⟩;split
       · exact hok _
       split
       · exact hok _
       · exact hM _ rfl h
     · exact hM _ rfl h
   | two =>
     show Fine ks ((gP ks f .expr i).and _) i 0
     simp only [NT.rank] at h;exact (ih .expr i trivial hi (by simp only [NT.rank]; omega)).and (fun _ k h1 h2 => (want_fine (by decide)).and (fun _ k h3 h4 => (ih .expr k trivial h4 (by simp only [NT.rank, NT.least] at *; omega)).and (fun _ k h1 h2 => Fine.ok h2) (Nat.zero_le _)) (Nat.zero_le _)) (Nat.zero_le _)
   | set op =>
     show Fine ks ((ownT ks i).and _) i 1
     simp only [NT.rank] at h;exact own_fine.and (fun _ k h1 h2 => (want_fine (by decide)).and (fun _ k h3 h4 => (ih .expr k trivial h4 (by simp only [NT.rank]; omega)).and (fun _ k h1 h2 => Fine.ok h2) (Nat.zero_le _)) (Nat.zero_le _)) (by omega)
   | list o p e =>
     obtain ⟨ho, he, hp⟩ := hw;show Fine ks ((wantT ks o i).and _) i 1
     simp only [NT.rank] at h;have hpr : p.rank ≤ 13 ∧ p.wf := by rcases hp with rfl | rfl <;> exact ⟨by decide, trivial⟩
     refine (want_fine ho).and (c := 0) (fun _ k h1 h2 => ?_) (by omega);split
     · exact (want_fine he).and (fun _ k h1 h2 => Fine.ok h2) (Nat.zero_le _)
     · exact (ih p k hpr.2 h2 (by omega)).and (fun _ k h3 h4 => (ih (.listGo p e _) k ⟨he, hp⟩ h4 (by simp only [NT.rank]; omega))) (Nat.zero_le _)
   | listGo p e a =>
     obtain ⟨he, hp⟩ := hw;unfold gP;dsimp only;simp only [NT.rank] at h;have hpr : p.rank ≤ 13 ∧ p.wf := by rcases hp with rfl | rfl <;> exact ⟨by decide, trivial⟩
     split
     · exact (want_fine (by decide)).and (fun _ k h1 h2 => (ih p k hpr.2 h2 (by omega)).and (fun _ k h3 h4 => (ih (.listGo p e _) k ⟨he, hp⟩ h4 (by simp only [NT.rank]; omega))) (Nat.zero_le _)) (Nat.zero_le _)
     · exact (want_fine he).and (fun _ k h1 h2 => Fine.ok h2) (Nat.zero_le _)
   | between o p e =>
     obtain ⟨ho, he, hp⟩ := hw;show Fine ks ((wantT ks o i).and _) i 1
     simp only [NT.rank] at h;have hpr : p.rank ≤ 14 ∧ p.wf := by rcases hp with rfl | rfl | rfl <;> exact ⟨by decide, trivial⟩
     exact (want_fine ho).and (fun _ k h1 h2 => (ih p k hpr.2 h2 (by omega)).and (fun _ k h3 h4 => (want_fine he).and (fun _ k h1 h2 => Fine.ok h2) (Nat.zero_le _)) (Nat.zero_le _)) (by omega)
   | row p ms =>
     show Fine ks ((gP ks f p i).and _) i 0
     have hpr : p.rank + 1 ≤ (NT.row p ms).rank ∧ p.wf := by rcases hw.1 with rfl | rfl | rfl | rfl <;> exact ⟨by simp [NT.rank], trivial⟩
     exact (ih p i hpr.2 hi (by omega)).and (fun _ k h1 h2 => (ih (.rowGo p ms _) k hw h2 (by simp only [NT.rank]; have := hpr.1; omega))) (Nat.zero_le _)
   | rowGo p ms a =>
     unfold gP;dsimp only;simp only [NT.rank] at h;have hpr : p.rank ≤ 11 ∧ p.wf := by rcases hw.1 with rfl | rfl | rfl | rfl <;> exact ⟨by decide, trivial⟩
     split
     · rename_i hm
       exact (want_fine (hw.2 _ hm)).and (fun _ k h1 h2 => (ih p k hpr.2 h2 (by omega)).and (fun _ k h3 h4 => (ih (.rowGo p ms _) k hw h4 (by simp only [NT.rank]; omega))) (Nat.zero_le _)) (Nat.zero_le _)
     · exact Fine.ok hi
end Go.Proofs.YtngbekhegnmfaaaGreatDoor
namespace Go.Proofs.YtngbekhegnmfaaaGreatDoor
open Go.RowKit Go.Shelf Tok
def placeN (w : World) (R : Nat) : Nat := (intOf ((w.cell? ⟨R, 1, none⟩).getD undef)).toNat
theorem place_of {w W : World} {R cap n j : Nat} {a : Option Addr} {ks : List Tk} (h : Mid w W R a cap n ks j) : placeN W R = j := by
 unfold placeN;rw [h.pr.c1];simp [intOf]
theorem mark_call {w W : World} {R cap n j : Nat} {a : Option Addr} {ks : List Tk} (h : Mid w W R a cap n ks j) {m : List UInt8} (hm : markT ks j = m) :
   Calls Tryz.prog 76 #[.pointer (some ⟨R, 0, none⟩)] W fun e w' => e = .returned (.string ⟨m.toArray⟩) ∧ Below W.heap.size W w' := by
 subst hm;exact mark_any h.pr
theorem ChV.cut {W : World} {F : Nat → Prop} {v : Value} {c : Ch} (h : ChV W F v c) : ChV W (fun k => F k ∧ k < W.heap.size) v c := h.mono (fun k hk h => ⟨h, hk⟩)
structure RowB (w W : World) (B7 g nm : Nat) (ms : List (List UInt8)) (p1 p2 : Option Addr) (m : Nat) : Prop where
 b : W.heap[w.heap.size]? = some chZ
 d : W.heap[B7]? = some (.cells #[.pointer p1, .pointer p2, .int .i64 (m : Int)] 72 (0, 0))
 s : StrsIn W g nm ms
 l : w.heap.size < B7
 gl : g < w.heap.size
theorem RowB.below {w W W' : World} {B7 g nm m : Nat} {ms : List (List UInt8)} {p1 p2 : Option Addr} (h : RowB w W B7 g nm ms p1 p2 m) (hb : Below W.heap.size W W') : RowB w W' B7 g nm ms p1 p2 m :=
 ⟨heldF (Only.of_below (F := fun _ => False) hb) h.b (fun h => h), heldF (Only.of_below (F := fun _ => False) hb) h.d (fun h => h), h.s.keep (Only.of_below (F := fun _ => False) hb) (fun h => h), h.l, h.gl⟩
theorem RowB.only {w W W' : World} {F : Nat → Prop} {B7 g nm m : Nat} {ms : List (List UInt8)} {p1 p2 : Option Addr} (h : RowB w W B7 g nm ms p1 p2 m) (ho : Only F W W') (h1 : ¬ F w.heap.size) (h2 : ¬ F B7) (h3 : ¬ F g) : RowB w W' B7 g nm ms p1 p2 m :=
 ⟨heldF ho h.b h1, heldF ho h.d h2, h.s.keep ho h3, h.l, h.gl⟩
theorem RowB.step {w W W' : World} {R B7 g nm m : Nat} {ms : List (List UInt8)} {p1 p2 : Option Addr} (h : RowB w W B7 g nm ms p1 p2 m) (hR : R < w.heap.size) (hg : g ≠ R) (ho : Only (fun k => k = R) W W') : RowB w W' B7 g nm ms p1 p2 m :=
 h.only ho (by omega) (by have := h.l; omega) hg
def RowV (w W : World) (B7 : Nat) (p1 p2 : Option Addr) (c : Ch) : Prop := ChV W (fun k => w.heap.size < k ∧ k ≠ B7) (.agg #[.pointer p1, .pointer p2, .int .i64 (c.n : Int)]) c
set_option maxRecDepth 20000 in
set_option maxHeartbeats 2000000 in
theorem row_any {N : Nat} {q : NT} {ms : List (List UInt8)} {R cap n g nm : Nat} {a : Option Addr} {ks : List Tk} (hE : Enters N R) (f : Nat) (hP : ∀ f', f' ≤ f → Does N (fun i => gP ks f' q i) R a cap n ks)
   (hcn : ∀ f i c j, gP ks f q i = .ok c j → c.n ≤ 10000000) (hmo : ∀ f i c j, gP ks f q i = .ok c j → i ≤ j) (hR : 1 ≠ R) {w : World} {i : Nat} (h : PR w R a cap n ks i) (hM : MakesOK w) (hS : StrsIn w g nm ms) (hgR : g ≠ R) (hgl : g < w.heap.size) (hnm : nm ≤ 1000) (hms : ∀ m ∈ ms, m ≠ [])
   (hne : gP ks (f + 1) (.row q ms) i ≠ .out) :
   Calls Tryz.prog 47 #[rp R, .func (.func N) #[rp R] #[], .slice (some ⟨g, 0, none⟩) nm nm] w (Took (gP ks (f + 1) (.row q ms) i) w R a cap n ks) := by
 have m0 := Lib.hid ((Mid.start h hM).alloc chZ);have hRl := h.lt;have hml := hM.lt;have b0 := Lib.hid (heap_alloc_new w chZ);have s0 := Lib.hid (hS.keep (Only.of_below (F := fun _ => False) ((Below.refl w.heap.size w).alloc (Nat.le_refl _) chZ)) (fun h => h));unfold Enters at hE;have hrow : gP ks (f + 1) (.row q ms) i = (gP ks f q i).and fun c i => gP ks f (.rowGo q ms c) i := rfl;rw [hrow] at hne ⊢;clear h hM hS hrow;cases hg : gP ks f q i with
 | out => rw [hg] at hne; exact absurd rfl hne
 | bad j =>
   have c1 := Lib.hid (does_bad (hP f (Nat.le_refl _)) m0.out.pr m0.out.mo hg);unfold St.and;dsimp only;clear hP hne hcn hmo;unfold rp at c1 ⊢;go_enter Tryz.func47, Tryz.ntmps47
   go_wp2_with fail
   refine c1.out.mono ?_;rintro e' w3 ⟨rfl, hb3⟩;go_wp2_with fail
   exact ⟨rfl, rfl, m0.out.bad hb3⟩
 | ok c j =>
   rw [hg] at hne;unfold St.and at hne ⊢;dsimp only at hne ⊢;obtain ⟨Z, hZ⟩ := exHid (gP ks f (.rowGo q ms c) j);rw [hZ.out] at hne ⊢;have c1 := Lib.hid (does_ok (hP f (Nat.le_refl _)) m0.out.pr m0.out.mo hg);have hc0 := hcn _ _ _ _ hg;replace hP := Lib.hid hP; replace hcn := Lib.hid hcn; replace hmo := Lib.hid hmo; replace hms := Lib.hid hms;unfold rp at c1 ⊢;go_enter Tryz.func47, Tryz.ntmps47
   go_wp2_with fail
   refine c1.out.mono ?_;rintro e' w2 ⟨v, rfl, hv, hp2, ho2⟩;obtain ⟨p1, p2, rfl⟩ := hv.agg;have hs2 := ho2.size;rw [World.size_alloc] at hs2;have m2 := Lib.hid ((m0.out.step hR hp2 ho2).alloc (.cells #[.pointer p1, .pointer p2, .int .i64 (c.n : Int)] 72));have v2 := Lib.hid (show RowV w (w2.alloc (.cells #[.pointer p1, .pointer p2, .int .i64 (c.n : Int)] 72)) w2.heap.size p1 p2 c from (hv.mono (fun k hk h => by rw [World.size_alloc] at h; exact ⟨by omega, by omega⟩)).alloc _);have r2 := Lib.hid (show RowB w (w2.alloc (.cells #[.pointer p1, .pointer p2, .int .i64 (c.n : Int)] 72)) w2.heap.size g nm ms p1 p2 c.n from
     ⟨heldA (heldB ho2 b0.out (by omega)) _, heap_alloc_new w2 _, (s0.out.keep ho2 hgR).keep (Only.of_below (F := fun _ => False) ((Below.refl w2.heap.size w2).alloc (Nat.le_refl _) _)) (fun h => h), by omega, hgl⟩)
   clear c1 m0 b0 s0 hv hp2 ho2;go_wp2_with fail
   generalize w2.alloc (.cells #[.pointer p1, .pointer p2, .int .i64 (c.n : Int)] 72) = w3 at *;generalize w2.heap.size = B7 at *;go_loopw [8] (fun t8 wr => ∃ (f' j : Nat) (c : Ch) (p1 p2 : Option Addr), f' ≤ f ∧ c.n ≤ 10000000 ∧ j ≤ ks.length ∧ Hid (gP ks f' (.rowGo q ms c) j = Z) ∧ Hid (Mid w wr R a cap n ks j) ∧ Hid (RowB w wr B7 g nm ms p1 p2 c.n) ∧ Hid (RowV w wr B7 p1 p2 c)) (fun _ wr => ks.length - placeN wr R)
   case atStart => exact ⟨f, j, c, p1, p2, Nat.le_refl _, hc0, m2.out.pr.le, hZ, m2, r2, v2⟩
   case round =>
     clear m2 r2 v2 hZ hg hc0;obtain ⟨f', j, c, p1, p2, hf', hc0, hjl, hZ, hm, hr, hv⟩ := hrel;cases f' with
     | zero => exact absurd hZ.out.symm hne
     | succ f'' =>
       have hz := hZ.out;unfold gP at hz;dsimp only at hz;obtain ⟨m, hmk⟩ := exHid (markT ks j);rw [hmk.out] at hz;have k1 := Lib.hid (mark_call hm.out hmk.out);by_cases hin : m ∈ ms
       · rw [if_pos hin] at hz
         have hmne := hms.out m hin;have hd : decide (m ∈ ms) = true := decide_eq_true hin;unfold wantT at hz;rw [if_pos hmk.out] at hz;unfold St.and at hz;dsimp only at hz;have k3 := Lib.hid (fun W (hp : PR W R a cap n ks j) => want_ok hp hmne hmk.out);have kM := Lib.hid (fun W (h : Mid w W R a cap n ks j) => mark_call h hmk.out);replace hin := Lib.hid hin;unfold rp at k3;cases hg2 : gP ks f'' q (j + 1) with
         | out => rw [hg2] at hz; exact absurd hz.symm hne
         | bad k =>
           rw [hg2] at hz;subst hz;have cP := Lib.hid (fun W (hp : PR W R a cap n ks (j + 1)) (hm : MakesOK W) => does_bad (hP.out f'' (by omega)) hp hm hg2);unfold rp at cP;go_wp2_with fail
           refine k1.out.mono ?_;rintro e' w5 ⟨rfl, hb5⟩;have hm5 := Lib.hid (hm.out.below hb5);have hr5 := Lib.hid (hr.out.below hb5);have k2 := Lib.hid (contains_any hr5.out.s hnm m hd);clear k1 hr hv;go_wp2_with fail
           refine k2.out.mono ?_;rintro e' w6 ⟨rfl, rfl⟩;go_wp2_with fail
           refine (kM.out _ hm5.out).mono ?_;rintro e' w7 ⟨rfl, hb7⟩;have hm7 := Lib.hid (hm5.out.below hb7);have hr7 := Lib.hid (hr5.out.below hb7);clear k2 hm5 hr5;go_wp2_with fail
           refine (k3.out _ hm7.out.pr).mono ?_;rintro e' w9 ⟨rfl, hp9, ho9⟩;have mC := Lib.hid ((hm7.out.step hR hp9 ho9).below ((Below.refl _ w9).drew));have rB := Lib.hid ((hr7.out.step hRl hgR ho9).below ((Below.refl _ w9).drew));obtain ⟨x0, x1, x2, _, _, _⟩ := cells3 rB.out.d;clear hm7 hr7 kM k3;go_wp2_with fail
           refine wp_region_any (by kernel_rfl) ?_
           change wpAny _ _ _ _ _ _ _ (World.drew _)
           refine wpAny_take (i := 1) (v := .func (.func N) #[.pointer (some ⟨R, 0, none⟩)] #[]) rfl (by kernel_rfl) (by kernel_rfl) (by kernel_rfl) (fun _ _ _ h => h) (Or.inl ⟨by rfl, by intro w; go_simp⟩) ?_;refine wpAny_take (i := 4) (v := .string ⟨m.toArray⟩) rfl (by kernel_rfl) (by kernel_rfl) (by kernel_rfl) (fun _ _ _ h => h) (Or.inl ⟨by rfl, by intro w; go_simp⟩) ?_;refine wpAny_ready (rs := [0, 2]) (by kernel_rfl) (by simp) ?_;refine AllReady.cons rfl (fun K hK => ?_) (AllReady.cons rfl (fun K hK => ?_) AllReady.nil)
           · go_simp
             refine hK _ _ ?_;clear hK K;refine wpAny_ready (rs := [2]) (by kernel_rfl) (by simp) ?_;refine AllReady.cons rfl (fun K hK => ?_) AllReady.nil
             · go_simp
               go_wp2_with fail
               refine (cP.out _ mC.out.pr mC.out.mo).mono ?_;rintro e' w10 ⟨rfl, hb10⟩;go_wp2_with fail
               exact ⟨rfl, rfl, mC.out.bad hb10⟩
           · go_simp
             go_wp2_with fail
             refine (cP.out _ mC.out.pr mC.out.mo).mono ?_;rintro e' w10 ⟨rfl, hb10⟩;go_wp2_with fail
             exact ⟨rfl, rfl, mC.out.bad hb10⟩
         | ok d k =>
           rw [hg2] at hz;replace hz := Lib.hid hz;have hdn := hcn.out _ _ _ _ hg2;have cP := Lib.hid (fun W (hp : PR W R a cap n ks (j + 1)) (hm : MakesOK W) => does_ok (hP.out f'' (by omega)) hp hm hg2);unfold rp at cP;go_wp2_with fail
           refine k1.out.mono ?_;rintro e' w5 ⟨rfl, hb5⟩;have hm5 := Lib.hid (hm.out.below hb5);have hr5 := Lib.hid (hr.out.below hb5);have hv5 := Lib.hid (ChV.below hv.out hb5);have k2 := Lib.hid (contains_any hr5.out.s hnm m hd);clear k1 hr hv;go_wp2_with fail
           refine k2.out.mono ?_;rintro e' w6 ⟨rfl, rfl⟩;go_wp2_with fail
           refine (kM.out _ hm5.out).mono ?_;rintro e' w7 ⟨rfl, hb7⟩;have hm7 := Lib.hid (hm5.out.below hb7);have hr7 := Lib.hid (hr5.out.below hb7);have hv7 := Lib.hid (ChV.below hv5.out hb7);clear k2 hm5 hr5 hv5;go_wp2_with fail
           refine (k3.out _ hm7.out.pr).mono ?_;rintro e' w9 ⟨rfl, hp9, ho9⟩;have mC := Lib.hid ((hm7.out.step hR hp9 ho9).below ((Below.refl _ w9).drew));have rB := Lib.hid ((hr7.out.step hRl hgR ho9).below ((Below.refl _ w9).drew));have vC := Lib.hid (ChV.below (ChV.step (R := R) hv7.out (fun k hk => by have := hk.1; omega) ho9) ((Below.refl _ w9).drew));obtain ⟨x0, x1, x2, _, _, _⟩ := cells3 rB.out.d;clear hm7 hr7 hv7 kM k3;go_wp2_with fail
           go_region_law (first
             | (go_simp; refine (cP.out _ mC.out.pr mC.out.mo).mono ?_; rintro e' w10 ⟨v10, rfl, hv10, hp10, ho10⟩; obtain ⟨q1, q2, rfl⟩ := hv10.agg; have hT := Lib.hid (Array.getElem?_eq_some_iff.1 rB.out.d).1; replace vC := Lib.hid (ChV.step (R := R) (ChV.cut vC.out) (fun k hk => by have := hk.1.1; omega) ho10); have dC := Lib.hid hv10; replace mC := Lib.hid (mC.out.step hR hp10 ho10); replace rB := Lib.hid (rB.out.step hRl hgR ho10); obtain ⟨x0, x1, x2, _, _, _⟩ := cells3 rB.out.d)
             | (go_simp; go_at_call 93; refine (opOf_any m mC.out.mo).mono ?_; rintro e' w11 ⟨rfl, hb11⟩; (first | (replace vT := Lib.hid (ChV.below vT.out hb11)) | (replace dC := Lib.hid (ChV.below dC.out hb11); replace vC := Lib.hid (ChV.below vC.out hb11)) | (replace vC := Lib.hid (ChV.below vC.out hb11))); replace mC := Lib.hid (mC.out.below hb11); replace rB := Lib.hid (rB.out.below hb11); obtain ⟨x0, x1, x2, _, _, _⟩ := cells3 rB.out.d)
             | (go_simp; go_at_call 40; refine (then_any vC.out dC.out (fun k h1 h2 => by have h3 := h1.2; omega) (by omega)).mono ?_; rintro e' w12 ⟨z12, rfl, hv12, ho12⟩; obtain ⟨r1, r2, rfl⟩ := hv12.agg; have vT := Lib.hid hv12; replace mC := Lib.hid (mC.out.extF hml (fun k h => by have := h.1.1; omega) ho12); replace rB := Lib.hid (rB.out.only ho12 (fun h => by have := h.1.1; omega) (fun h => h.1.2 rfl) (fun h => by have := h.1.1; omega)))
             | (go_simp; go_at_call 42; refine (under_any vT.out (by unfold Ch.then; dsimp only; omega) (opOfT m) 0 0 []).mono ?_; rintro e' w13 ⟨z13, rfl, hv13, hb13⟩; obtain ⟨s1, s2, rfl⟩ := hv13.agg; have hT3 := Lib.hid (Array.getElem?_eq_some_iff.1 rB.out.d).1; replace mC := Lib.hid (mC.out.below hb13); replace rB := Lib.hid (rB.out.below hb13); obtain ⟨y0, y1, y2, y3, y4, y5⟩ := cells3 rB.out.d))
           all_goals
             obtain ⟨l1, l2⟩ := stored3 rB.out.d (.pointer s1) (.pointer s2) (.int .i64 (((c.then d).under (opOfT m) 0 []).n : Int));have hl7 := rB.out.l;have hBg : g ≠ B7 := by omega
             have hjk := hmo.out _ _ _ _ hg2;have hjl2 := mC.out.pr.le;have hmE := Lib.hid (mC.out.ext (by omega) (by omega) l2);have hrE := Lib.hid (show RowB w _ B7 g nm ms s1 s2 ((c.then d).under (opOfT m) 0 []).n from ⟨heldF l2 rB.out.b (by omega), l1, rB.out.s.keep l2 hBg, hl7, hgl⟩);have hvE := Lib.hid (show RowV w _ B7 s1 s2 ((c.then d).under (opOfT m) 0 []) from (hv13.mono (fun k _ hk => by
               have a1 := hT.out;have a2 := hT3.out;rcases hk with (hk | hk) | hk
               · exact hk.1
               · exact ⟨by omega, by omega⟩
               · exact ⟨by omega, by omega⟩)).only l2 (fun k hk e => hk.2 e))
             have hpl := Lib.hid (place_of hm.out);have hpe := Lib.hid (place_of hmE.out);replace l1 := Lib.hid l1; replace l2 := Lib.hid l2;go_wp2_with fail
             go_roundw
             case rel => exact ⟨f'', k, (c.then d).under (opOfT m) 0 [], s1, s2, by omega, by show 1 ≤ 10000000; omega, hjl2, hz, hmE, hrE, hvE⟩
             case measure =>
               rw [hpe.out, hpl.out];omega
       · rw [if_neg hin] at hz
         subst hz;have hd : decide (m ∈ ms) = false := decide_eq_false hin;replace hin := Lib.hid hin;obtain ⟨x0, x1, x2, _, _, _⟩ := cells3 hr.out.d;go_wp2_with fail
         refine k1.out.mono ?_;rintro e' w5 ⟨rfl, hb5⟩;have hm5 := Lib.hid (hm.out.below hb5);have hr5 := Lib.hid (hr.out.below hb5);have k2 := Lib.hid (contains_any hr5.out.s hnm m hd);clear x0 x1 x2;obtain ⟨x0, x1, x2, _, _, _⟩ := cells3 hr5.out.d;obtain ⟨y0, y1, y2, y3, y4, y5⟩ := cells3 hr5.out.b;go_wp2_with fail
         refine k2.out.mono ?_;rintro e' w6 ⟨rfl, rfl⟩;obtain ⟨l1, l2⟩ := laid3 hm5.out (Nat.le_refl _) hml hr5.out.b ((hv.out.below hb5).mono (fun k _ hk => ⟨Nat.le_of_lt hk.1, by have := hk.1; omega⟩));replace l1 := Lib.hid l1; replace l2 := Lib.hid l2;go_wp2_with fail
         exact bodyPost_ret (ret_ch rfl rfl l1.out rfl) rfl l2.out
end Go.Proofs.YtngbekhegnmfaaaGreatDoor
