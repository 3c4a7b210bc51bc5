/- A part of the proof: SdP, ShB, ShF, ShZ0, TDoc1, TDoc2, TDoc3. No condition. -/
import Derived.Test.YtjiemkidmlgbeaaDoorQ03
import Derived.Test.YtjiemkidmlgbeaaDoorQ05
import Derived.Test.YtjiemkidmlgbeaaDoorQ12
import Derived.Test.YtjiemkidmlgbeaaDoorQ24
import Derived.Test.YtjiemkidmlgbeaaDoorQ25
set_option linter.unusedVariables false
set_option linter.unusedSimpArgs false
namespace Go.Proofs.YtjiemkidmlgbeaaDoor
open Go.RowKit Go.Shelf Tok
def GRow (w : World) (g n : Nat) : Prop := ∃ cs, w.heap[g]? = some (.cells cs 35 (0, 0)) ∧ n * 4 ≤ cs.size
theorem GRow.cell {w : World} {g n : Nat} (h : GRow w g n) {j : Nat} (hj : j < n * 4) : (∃ v, w.cell? ⟨g, j, none⟩ = some v) ∧ w.frozen? ⟨g, j, none⟩ = false := by
 obtain ⟨cs, hc, hn⟩ := h;have hjc : j < cs.size := by omega
 exact ⟨⟨cs[j], by simp [World.cell?, hc, hjc]⟩, by simp [World.frozen?, hc]⟩
theorem GRow.set {w : World} {g n : Nat} (h : GRow w g n) (j : Nat) (v : Value) : GRow (w.setCell ⟨g, j, none⟩ v) g n := by
 obtain ⟨cs, hc, hn⟩ := h;exact ⟨_, heap_setCell_same w _ j _ _ v hc, by simpa using hn⟩
theorem tgs_blocks {w : World} {base : Nat} {v : Value} {ks : List Tg} (h : TgsAt w base v ks) : ∃ (F : Nat → Prop) (a : Option Addr) (cap : Nat), v = .slice a ks.length cap ∧ (∀ k, F k → base ≤ k ∧ k < w.heap.size) ∧ (0 < ks.length → ∃ g, F g ∧ a = some ⟨g, 0, none⟩ ∧ GRow w g ks.length) := by
 rcases h.2 with ⟨hv, h0⟩ | ⟨g, cap, cur, hv, hb, hg, hnc, hcm, hsz, ht⟩
 · exact ⟨fun _ => False, none, 0, by rw [hv, h0], fun _ h => h.elim, fun h => by omega⟩
 · refine ⟨fun k => k = g, _, cap, hv, fun k hk => by subst hk; exact ⟨hb, (Array.getElem?_eq_some_iff.1 hg).1⟩, fun _ => ⟨g, rfl, rfl, cur, hg, ?_⟩⟩
   rw [hsz];exact Nat.mul_le_mul_right _ hnc
set_option maxRecDepth 20000 in
set_option maxHeartbeats 4000000 in
theorem showTokens_walk (v : Value) (w : World) (h : TwsIn w v) (hS : SignsOK w) (hM : MarksOK w) (hP : PowOK w.heap.size w) :
   Calls Tryd.prog 4 #[v] w fun e w' => e = .returned (.bool true) ∧ Below w.heap.size w w' := by
 obtain ⟨ts, hT, hf, _⟩ := h;have hWk := Lib.hid (fun W (hb : Below w.heap.size w W) => wakes10_any W (hM.below hM.lt hb) (hS.below hb) (hP.next10 hb));by_cases h5 : 5000 < ts.length
 · have h5i : (5000 : Int) < (ts.length : Int) := by omega
   obtain ⟨a, cap, rfl, _⟩ := hT;go_enter Tryd.func4, Tryd.ntmps4
   go_wp2_with fail
   refine (hWk.out _ (Below.refl _ _)).mono ?_;rintro e w2 ⟨rfl, hb⟩;go_wp2_with fail
   go_ret
   exact ⟨rfl, hb⟩
 · have h5i : ¬ (5000 : Int) < (ts.length : Int) := by omega
   obtain ⟨ks, E, hI⟩ := show_is ts;have hEE : (E != E) = false := by simp
   have kA := Lib.hid (fun (W : World) (hb : Below w.heap.size w W) => Tokens_is (hT.below hb) hf (hM.below hM.lt hb) hI);have kR := Lib.hid (fun (W : World) (hb : Below w.heap.size w W) => AllD_is (hT.below hb) hf hI);obtain ⟨a, cap, rfl, hz⟩ := hT;clear hz hf hS hM hP hI;generalize ts.length = n at *;go_enter Tryd.func4, Tryd.ntmps4
   go_wp2_with fail
   refine (kA.out _ (Below.refl _ _)).mono ?_;rintro e w1 ⟨v1, rfl, hT1, hb1⟩;obtain ⟨F, a1, cap1, rfl, hF, hrow⟩ := tgs_blocks hT1;go_wp2_with fail
   refine (kR.out _ hb1).mono ?_;rintro e w2 ⟨v2, rfl, hT2, hb2⟩;obtain ⟨a2, cap2, rfl, _, _⟩ := id hT2.shape;have hb3 := below_next hb1 hb2;go_wp2_with fail
   refine (alike10_any (hT1.tgIn.below hb2) hT2.tgIn).mono ?_;rintro e w4 ⟨rfl, hb4⟩;have hb5 := Lib.hid (below_next hb3 hb4);have hT4 := Lib.hid (hT2.below hb4);have hrow4 : 0 < ks.length → ∃ g, F g ∧ a1 = some ⟨g, 0, none⟩ ∧ GRow w4 g ks.length := by
     intro h0;obtain ⟨g, hg, he, cs, hc, hn⟩ := hrow h0;exact ⟨g, hg, he, cs, ((below_next hb2 hb4).block g (hF g hg).2).trans hc, hn⟩
   have hz14 := (below_next hb2 hb4).size;replace hrow4 := Lib.hid hrow4;replace hF := Lib.hid hF;clear hrow hT1 hT2 hb1 hb2 hb3 hb4;go_wp2
   go_loopw [7] (fun t7 wr => ∃ i : Nat, i ≤ ks.length ∧ t7 = .int .i64 i ∧ Hid (Only F w4 wr) ∧ Hid (0 < ks.length → ∃ g, F g ∧ a1 = some ⟨g, 0, none⟩ ∧ GRow wr g ks.length)) (fun t7 _ => ks.length - (intOf t7).toNat)
   case atStart => exact ⟨0, by omega, rfl, Only.refl _ _, hrow4⟩
   case round =>
     obtain ⟨i, hin, rfl, ho, hr⟩ := hrel;rcases Nat.lt_or_ge i ks.length with hlt | hge
     · have hlti : (i : Int) < (ks.length : Int) := by omega
       obtain ⟨g, hg, rfl, hL⟩ := hr.out (by omega);obtain ⟨⟨z0, x0⟩, y0⟩ := hL.cell (j := i * 4) (by omega);obtain ⟨⟨z1, x1⟩, y1⟩ := hL.cell (j := i * 4 + 1) (by omega);obtain ⟨⟨z2, x2⟩, y2⟩ := hL.cell (j := i * 4 + 2) (by omega);obtain ⟨⟨z3, x3⟩, y3⟩ := hL.cell (j := i * 4 + 3) (by omega);have hset := Lib.hid ((((hL.set (i * 4) (.int .u8 9)).set (i * 4 + 1) (.string ⟨#[]⟩)).set (i * 4 + 2) (.int .i64 0)).set (i * 4 + 3) (.int .i64 0));have hoset := Lib.hid ((((ho.out.setCell (p := ⟨g, i * 4, none⟩) (.inl hg) (.int .u8 9)).setCell (p := ⟨g, i * 4 + 1, none⟩) (.inl hg) (.string ⟨#[]⟩)).setCell (p := ⟨g, i * 4 + 2, none⟩) (.inl hg) (.int .i64 0)).setCell (p := ⟨g, i * 4 + 3, none⟩) (.inl hg) (.int .i64 0));replace hL := Lib.hid hL;go_wp2
       go_roundw
       case rel => exact ⟨i + 1, by omega, by go_num, hoset, fun _ => ⟨g, hg, rfl, hset.out⟩⟩
       case measure => simp [intOf]; omega
     · obtain rfl : i = ks.length := by omega
       have hlti : ¬ ((ks.length : Int) < (ks.length : Int)) := by omega
       have hbr := Lib.hid ((Below.refl w.heap.size w).trans (hb5.out.trans (ho.out.below hb5.out.size (fun k hk e => by have := (hF.out k e).1; omega))));have hTr : TgsAt wr w1.heap.size (.slice a2 ks.length cap2) ks := ownsRow_only hT4.out ho.out (fun g hg e => by have h1 := (hF.out g e).2; have h2 := (World.ownsRow.lt hT4.out g hg).1; omega);replace hTr := Lib.hid hTr.tgIn;clear hr;go_wp2_with fail
       refine (kA.out _ hbr.out).mono ?_;rintro e w6 ⟨v6, rfl, hT6, hb6⟩;obtain ⟨a6, cap6, rfl, _, _⟩ := id hT6.shape;have hb7 := Lib.hid (below_next hbr.out hb6);have hT7 := Lib.hid (hTr.out.below hb6);replace hT6 := Lib.hid hT6.tgIn;go_wp2_with fail
       refine (alike10_any hT6.out hT7.out).mono ?_;rintro e w8 ⟨rfl, hb8⟩;have hb9 := Lib.hid (below_next hb7.out hb8);go_wp2_with fail
       refine (hWk.out _ hb9.out).mono ?_;rintro e wx ⟨rfl, hbx⟩;go_wp2
       go_ret
       exact ⟨rfl, below_next hb9.out hbx⟩
end Go.Proofs.YtjiemkidmlgbeaaDoor
namespace Go.Proofs.YtjiemkidmlgbeaaDoor
open Go.RowKit Tok
section
theorem own_parts {s : List UInt8} (h : ownL s = true) : nameL s = true ∧ kwB s = false := by
 unfold ownL at h;rw [Bool.and_eq_true] at h;exact ⟨h.1, by simpa using h.2⟩
def Every (P : Tw → Fs → Prop) : Fs → Prop
 | .nil => True
 | .cons x k r => P x k ∧ Every P k ∧ Every P r
theorem every_of {P : Tw → Fs → Prop} (h : ∀ x k, (Fs.cons x k .nil).ok → Every P k → P x k) : ∀ F : Fs, F.ok → Every P F
 | .nil, _ => trivial
 | .cons _ k r, ⟨a, b, c, d⟩ => ⟨h _ k ⟨a, b, c, trivial⟩ (every_of h k c), every_of h k c, every_of h r d⟩
end
end Go.Proofs.YtjiemkidmlgbeaaDoor
namespace Go.Proofs.YtjiemkidmlgbeaaDoor
open Go.RowKit Tok
theorem params_pos {F : Fs} (h : F.params) : 0 < F.count := by
 cases F with
 | nil => exact h.elim
 | cons x k r => exact Nat.succ_pos _
def ToldG (t : Tg) : Prop := told t = true ∧ t.num ≤ 9223372036854775807
theorem told_word {s : List UInt8} (h : nameL s = true) : ToldG (wordTg s) := by
 refine ⟨?_, by show (0 : Int) ≤ _; decide⟩;unfold told;rw [if_pos (show (wordTg s).kind = 1 from rfl)];show (nameL s && decide ((0 : Int) = 0)) = true
 rw [h];rfl
theorem told_sign {s : List UInt8} (h : s ∈ signs) : ToldG (signTg s) := by
 refine ⟨?_, by show (0 : Int) ≤ _; decide⟩;show told ⟨4, s, 0, 0⟩ = true
 simp [told, h]
def ToldL (l : List Tg) : Prop := ∀ t ∈ l, ToldG t
theorem ToldL.nil : ToldL [] := fun t h => by cases h
theorem ToldL.cons {t : Tg} {l : List Tg} (h : ToldG t) (hl : ToldL l) : ToldL (t :: l) := fun u hu => by
 rcases List.mem_cons.1 hu with rfl | hu
 · exact h
 · exact hl u hu
theorem ToldL.app {a b : List Tg} (ha : ToldL a) (hb : ToldL b) : ToldL (a ++ b) := fun u hu => by
 rcases List.mem_append.1 hu with hu | hu
 · exact ha u hu
 · exact hb u hu
theorem told_mark (op : Nat) : ToldL (markTg op) := by
 have h : ∀ L : List (Nat × Nat × List UInt8), (∀ m ∈ L, told ⟨m.2.1, m.2.2, 0, 0⟩ = true) → ToldL (markGo op L) := by
   intro L
   induction L with
   | nil => intro _; exact ToldL.nil
   | cons m r ih =>
     intro hm;unfold markGo;split
     · exact .cons ⟨hm m List.mem_cons_self, by show (0 : Int) ≤ _; decide⟩ (ih fun x hx => hm x (List.mem_cons_of_mem _ hx))
     · exact ih fun x hx => hm x (List.mem_cons_of_mem _ hx)
 exact h marksL (by decide)
def TeP (x : Tw) (k : Fs) : Prop := (∀ y ∈ x :: k.flat, y.num ≤ 9223372036854775807) → ToldL (bareS x k)
theorem told_at {x : Tw} {k : Fs} (h : ToldL (bareS x k)) (a : Nat) : ToldL (atS a x k) := by
 unfold atS wrapT;split
 · exact .cons (told_sign (by decide)) (h.app (.cons (told_sign (by decide)) .nil))
 · exact h
theorem mem_kid {x : Tw} {k r : Fs} {P : Tw → Prop} (h : ∀ y ∈ (Fs.cons x k r).flat, P y) : (∀ y ∈ x :: k.flat, P y) ∧ ∀ y ∈ r.flat, P y := by
 constructor
 · intro y hy
   rcases List.mem_cons.1 hy with rfl | hy
   · exact h _ List.mem_cons_self
   · exact h _ (List.mem_cons_of_mem _ (List.mem_append_left _ hy))
 · intro y hy
   exact h _ (List.mem_cons_of_mem _ (List.mem_append_right _ hy))
theorem told_commas : ∀ (F : Fs) (p : Nat), Every TeP F → (∀ y ∈ F.flat, y.num ≤ 9223372036854775807) → ToldL (commaS p F)
 | .nil, _, _, _ => .nil
 | .cons x k r, p, ⟨h1, _, h3⟩, hn => by
   obtain ⟨n1, n2⟩ := mem_kid hn;refine ToldL.app (ToldL.app ?_ (h1 n1)) (told_commas r (p + 1) h3 n2);show ToldL (if p = 0 then [] else [signTg B.com])
   split
   · exact .nil
   · exact .cons (told_sign (by decide)) .nil
theorem told_rows : ∀ (F : Fs), Every TeP F → (∀ y ∈ F.flat, y.num ≤ 9223372036854775807) → ToldL (rowS F)
 | .nil, _, _ => .nil
 | .cons x k r, ⟨h1, _, h3⟩, hn => by
   obtain ⟨n1, n2⟩ := mem_kid hn;exact ToldL.app (h1 n1) (told_rows r h3 n2)
theorem told_params : ∀ (F : Fs) (p : Nat), Every TeP F → (∀ y ∈ F.flat, y.num ≤ 9223372036854775807) → ToldL (paramS p F)
 | .nil, _, _, _ => .nil
 | .cons b kb .nil, _, ⟨h1, _, _⟩, hn => by
   obtain ⟨n1, n2⟩ := mem_kid hn;exact .cons (told_sign (by decide)) (h1 n1)
 | .cons x k (.cons y k' r), p, ⟨h1, _, h3⟩, hn => by
   obtain ⟨n1, n2⟩ := mem_kid hn;refine ToldL.app (ToldL.app ?_ (h1 n1)) (told_params (.cons y k' r) (p + 1) h3 n2);show ToldL (if p = 0 then [] else [signTg B.com])
   split
   · exact .nil
   · exact .cons (told_sign (by decide)) .nil
theorem te_all : ∀ x k, (Fs.cons x k .nil).ok → Every TeP k → TeP x k := by
 intro x k hok hk hn;have sg : ∀ {s : List UInt8}, s ∈ signs → ∀ {l : List Tg}, ToldL l → ToldL (signTg s :: l) := fun h => .cons (told_sign h);have kw : ∀ {s : List UInt8}, nameL s = true → ∀ {l : List Tg}, ToldL l → ToldL (wordTg s :: l) := fun h => .cons (told_word h);have hkf : ∀ y ∈ k.flat, y.num ≤ 9223372036854775807 := fun y hy => hn y (List.mem_cons_of_mem _ hy)
 cases view hok with
 | bare op ho => rw [bare_bare ho]; exact told_mark op
 | int n =>
   rw [bare_int];refine .cons ⟨?_, hn _ List.mem_cons_self⟩ .nil;simp [told]
 | text s h =>
   rw [bare_text];refine .cons ⟨?_, by show (0 : Int) ≤ _; decide⟩ .nil;simp [told, h]
 | own op s ho h =>
   have hs := (own_parts h).1;rcases ho with rfl | rfl | rfl
   · rw [bare_name]; exact kw hs .nil
   · rw [bare_take]; exact kw (by decide) (kw hs .nil)
   · rw [bare_param]; exact kw hs .nil
 | one op a ka ho ha =>
   have hA : ToldL (bareS a ka) := hk.1 (mem_kid hkf).1;by_cases c1 : asksW op
   · rw [bare_asks c1]
     exact (told_mark op).app (sg (by decide) (hA.app (sg (by decide) .nil)))
   · by_cases c2 : op = 43 ∨ op = 44 ∨ op = 54 ∨ op = 55
     · rw [bare_pre c2]
       exact (told_mark op).app (told_at hA _)
     · have ho' : 8 ≤ op ∧ op ≤ 11 := by
         unfold asksW at c1;omega
       rw [bare_stmt ho'];exact (told_mark op).app hA
 | set op s a ka ho h ha =>
   have hA : ToldL (bareS a ka) := hk.1 (mem_kid hkf).1;have hs := (own_parts h).1;rcases ho with rfl | rfl
   · rw [bare_let]; exact kw (by decide) (kw hs (sg (by decide) hA))
   · rw [bare_set]; exact kw hs (sg (by decide) hA)
 | two op a ka b kb h1 h2 ha hb =>
   have hA : ToldL (bareS a ka) := hk.1 (mem_kid hkf).1;have hB : ToldL (bareS b kb) := hk.2.2.1 (mem_kid (mem_kid hkf).2).1;by_cases c1 : op = 41
   · subst c1
     rw [bare_num];exact kw (by decide) (sg (by decide) (hA.app (sg (by decide) (hB.app (sg (by decide) .nil)))))
   · by_cases c2 : op = 42
     · subst c2
       rw [bare_at];exact (told_at hA _).app (sg (by decide) (hB.app (sg (by decide) .nil)))
     · by_cases c3 : 32 ≤ op ∧ op ≤ 35
       · rw [bare_cmp c3.1 c3.2]
         exact (told_at hA _).app ((told_mark op).app (told_at hB _))
       · rw [bare_left (by unfold leftW; omega)]
         exact (told_at hA _).app ((told_mark op).app (told_at hB _))
 | list k he hn => rw [bare_list]; exact sg (by decide) ((told_commas k 0 hk hkf).app (sg (by decide) .nil))
 | call op s k ho h he hn =>
   rw [bare_call ho];exact (told_mark op).app (kw (own_parts h).1 (sg (by decide) ((told_commas k 0 hk hkf).app (sg (by decide) .nil))))
 | fork b kb hb => rw [bare_fork]; exact kw (by decide) (hk.1 (mem_kid hkf).1)
 | block k hs hn => rw [bare_block]; exact sg (by decide) ((told_rows k hk hkf).app (sg (by decide) .nil))
 | cond2 op a ka b kb ho ha hb =>
   rw [bare_cond2 ho];exact kw (by rcases ho with rfl | rfl <;> decide) ((hk.1 (mem_kid hkf).1).app (hk.2.2.1 (mem_kid (mem_kid hkf).2).1))
 | cond3 a ka b kb c kc ha hb hc =>
   rw [bare_cond3];exact kw (by decide) ((hk.1 (mem_kid hkf).1).app ((hk.2.2.1 (mem_kid (mem_kid hkf).2).1).app (kw (by decide) (hk.2.2.2.2.1 (mem_kid (mem_kid (mem_kid hkf).2).2).1))))
 | flow s k h hp hn =>
   rw [bare_flow (params_pos hp)];exact kw (by decide) (kw (own_parts h).1 (sg (by decide) (told_params k 0 hk hkf)))
theorem show_told {x : Tw} {k : Fs} (hok : (Fs.cons x k .nil).ok) (hn : ∀ y ∈ x :: k.flat, y.num ≤ 9223372036854775807) : ToldL (showL x k) := told_at (te_all x k hok (every_of te_all k hok.2.2.1) hn) 1
end Go.Proofs.YtjiemkidmlgbeaaDoor
namespace Go.Proofs.YtjiemkidmlgbeaaDoor
open Go.RowKit Go.Shelf Tok
theorem told_num10 {t : Tg} (h : told t = true) : 0 ≤ t.num := by
 obtain ⟨kd, tx, x, at_⟩ := t;unfold told at h;dsimp only at *
 repeat' split at h
 all_goals first
   | (rw [Bool.and_eq_true] at h; have := of_decide_eq_true h.2; omega)
   | (rw [Bool.and_eq_true] at h; exact of_decide_eq_true h.1)
   | (cases h)
theorem told_fit {t : Tg} (h : ToldG t) : Fit t := by
 have h1 := told_len h.1;have h2 := told_num10 h.1;have h3 := h.2;exact ⟨by omega, by omega, by omega⟩
theorem show_told10 {ts : List Tw} {L : List Tg} {E : Int} (h : ShowIs ts L E) (hf : ∀ x ∈ ts, FitT x) : ToldL L := by
 rcases h with ⟨_, rfl, _⟩ | ⟨_, x, r, _, _, _, rfl, _⟩ | ⟨_, x, k, rfl, hok, _, _, rfl, _⟩
 · exact ToldL.nil
 · exact ToldL.nil
 · exact show_told hok (fun y hy => (hf y hy).2.2.1.2)
theorem show_fit {ts : List Tw} {L : List Tg} {E : Int} (h : ShowIs ts L E) (hf : ∀ x ∈ ts, FitT x) : ∀ t ∈ L, Fit t := fun t ht => told_fit (show_told10 h hf t ht)
def TreeIs (ts : List Tw) (st : List UInt8) (cd : Int) : Prop := ∃ L E, ShowIs ts L E ∧ ((E = 0 ∧ spellR L = (st, cd.toNat) ∧ 0 ≤ cd) ∨ (E ≠ 0 ∧ st = [] ∧ cd = E))
theorem tree_is (ts : List Tw) : ∃ st cd, TreeIs ts st cd := by
 obtain ⟨L, E, h⟩ := show_is ts;by_cases hE : E = 0
 · exact ⟨(spellR L).1, ((spellR L).2 : Int), L, E, h, .inl ⟨hE, rfl, by omega⟩⟩
 · exact ⟨[], E, L, E, h, .inr ⟨hE, rfl, rfl⟩⟩
set_option maxRecDepth 20000 in
set_option maxHeartbeats 1000000 in
theorem Tree_no {v : Value} {ts : List Tw} {w : World} {L : List Tg} {E : Int} (hT : TwIn w v ts) (hf : ∀ x ∈ ts, FitT x) (hM : MarksOK w) (h : ShowIs ts L E) (hE : E ≠ 0) :
   Calls Tryd.prog 6 #[v] w fun e w' => e = .returned (.tuple #[.string ⟨#[]⟩, .int .i64 E]) ∧ Below w.heap.size w w' := by
 have kT := Lib.hid (Tokens_is hT hf hM h);have hc : (E != 0) = true := by simpa using hE
 clear hT hf hM h hE;go_enter Tryd.func6, Tryd.ntmps6
 go_wp2_with fail
 with_reducible refine kT.out.mono ?_
 rintro e w1 ⟨v1, rfl, h1, hb1⟩;go_wp2_with fail
 go_ret2
 exact ⟨rfl, hb1⟩
theorem spellV_is {L : List Tg} {st : List UInt8} {cd : Int} (h : spellR L = (st, cd.toNat)) (h0 : 0 ≤ cd) : spellV (spellR L) = .tuple #[.string ⟨st.toArray⟩, .int .i64 cd] := by
 rw [h];unfold spellV;dsimp only;rw [Int.toNat_of_nonneg h0]
theorem Tree_is10 {v : Value} {ts : List Tw} {w : World} {st : List UInt8} {cd : Int} (hT : TwIn w v ts) (hf : ∀ x ∈ ts, FitT x) (hM : MarksOK w) (hS : SignsOK w) (hP : PowOK w.heap.size w) (h : TreeIs ts st cd) :
   Calls Tryd.prog 6 #[v] w fun e w' => e = .returned (.tuple #[.string ⟨st.toArray⟩, .int .i64 cd]) ∧ Below w.heap.size w w' := by
 obtain ⟨L, E, hI, ⟨rfl, hs, h0⟩ | ⟨hE, rfl, rfl⟩⟩ := h
 · rw [← spellV_is hs h0]
   exact Tree_ok hT hf hM hS hP hI (show_fit hI hf)
 · exact Tree_no hT hf hM hI hE
end Go.Proofs.YtjiemkidmlgbeaaDoor
namespace Go.Proofs.YtjiemkidmlgbeaaDoor
open Go.RowKit Tok
set_option maxHeartbeats 400000 in
theorem refLow_any (c : UInt8) (w : World) : Calls Tryd.prog 47 #[.int .u8 (c.toNat : Int)] w fun e w' => e = .returned (.bool (lowC c)) ∧ w' = w := by
 obtain ⟨B, hB⟩ := exHid (lowC c);rw [hB.out];rcases between_any (B := B) (a := 97) (b := 122) (by rw [← hB.out]; rfl) with ⟨h1, h2⟩ | ⟨h1, h2⟩
 all_goals
   replace h2 := Lib.hid h2;go_enter Tryd.func47, Tryd.ntmps47
   go_wp2
   go_ret
   exact ⟨ret_bool (by rw [h2.out]; try rfl), rfl⟩
set_option maxHeartbeats 400000 in
theorem refDig_any (c : UInt8) (w : World) : Calls Tryd.prog 77 #[.int .u8 (c.toNat : Int)] w fun e w' => e = .returned (.bool (digC c)) ∧ w' = w := by
 obtain ⟨B, hB⟩ := exHid (digC c);rw [hB.out];rcases between_any (B := B) (a := 48) (b := 57) (by rw [← hB.out]; rfl) with ⟨h1, h2⟩ | ⟨h1, h2⟩
 all_goals
   replace h2 := Lib.hid h2;go_enter Tryd.func77, Tryd.ntmps77
   go_wp2
   go_ret
   exact ⟨ret_bool (by rw [h2.out]; try rfl), rfl⟩
def toldV (kd : Nat) (tx : List UInt8) (x at_ en a e : Nat) : Value := .agg #[.int .u8 kd, .string ⟨tx.toArray⟩, .int .i64 x, .int .i64 at_, .int .i64 en, .int .i64 a, .int .i64 e]
def resT (i : Nat) : Res → Value
 | .ok kd tx x n => toldV kd tx x i (i + n) 0 0
 | .bad n e => toldV 0 [] 0 0 0 (i + n) e
set_option maxHeartbeats 400000 in
theorem refWrong_any (a e : Nat) (w : World) : Calls Tryd.prog 78 #[.int .i64 a, .int .i64 e] w fun r w' => r = .returned (.agg #[.int .u8 0, .string ⟨#[]⟩, .int .i64 0, .int .i64 0, .int .i64 0, .int .i64 a, .int .i64 e]) ∧ w' = w.alloc (.cells #[.int .u8 0, .string ⟨#[]⟩, .int .i64 0, .int .i64 0, .int .i64 0, .int .i64 a, .int .i64 e] 77) := by
 go_enter Tryd.func78, Tryd.ntmps78
 go_wp2
 go_returns
 exact ⟨rfl, rfl⟩
theorem drop_get {s : ByteArray} {i j : Nat} (h : j < (s.data.toList.drop i).length) : ∃ hi : i + j < s.size, (s.data.toList.drop i)[j] = s[i + j] := by
 have hl : (s.data.toList.drop i).length = s.size - i := by rw [List.length_drop, size_list]
 refine ⟨by omega, ?_⟩;rw [List.getElem_drop];rfl
theorem span_yes_at {p : UInt8 → Bool} {s : ByteArray} {i j : Nat} (h : j < span p (s.data.toList.drop i)) : ∃ hi : i + j < s.size, p s[i + j] = true := by
 have hl := Nat.lt_of_lt_of_le h (span_le (p := p) (s.data.toList.drop i));obtain ⟨hi, e⟩ := drop_get hl;have h2 := span_in _ _ h;rw [e] at h2;exact ⟨hi, h2⟩
theorem span_no_at {p : UInt8 → Bool} {s : ByteArray} {i j : Nat} (h : j = span p (s.data.toList.drop i)) (hi : i + j < s.size) : p s[i + j] = false := by
 have hl : (s.data.toList.drop i).length = s.size - i := by rw [List.length_drop, size_list]
 subst h;have h1 : span p (s.data.toList.drop i) < (s.data.toList.drop i).length := by omega
 have h2 := span_out _ h1;obtain ⟨_, e⟩ := drop_get h1;rw [e] at h2;exact h2
theorem extract_piece (s : ByteArray) (i n : Nat) : s.extract i (i + n) = ⟨((s.data.toList.drop i).take n).toArray⟩ := by
 rw [Lib.extract_eq]
 congr 1
 rw [show i + n - i = n by omega]
def RefW (c : UInt8) (b : Bool) : Prop := (lowC c = true ∧ b = true) ∨ (lowC c = false ∧ digC c = true ∧ b = true) ∨ (lowC c = false ∧ digC c = false ∧ ((c.toNat : Int) == 95) = true ∧ b = true) ∨ (lowC c = false ∧ digC c = false ∧ ((c.toNat : Int) == 95) = false ∧ b = false)
theorem refW_of {c : UInt8} {b : Bool} (h : wordC c = b) : RefW c b := by
 subst h;rcases word_iff c with ⟨h1, hW⟩ | ⟨h1, h2, hW⟩ | ⟨h1, h2, h3, hW⟩ | ⟨h1, h2, h3, hW⟩
 · exact .inl ⟨h1, hW⟩
 · exact .inr (.inl ⟨h1, h2, hW⟩)
 · exact .inr (.inr (.inl ⟨h1, h2, by rw [h3]; rfl, hW⟩))
 · exact .inr (.inr (.inr ⟨h1, h2, beq_eq_false_iff_ne.2 (by omega), hW⟩))
set_option maxRecDepth 20000 in
set_option maxHeartbeats 2000000 in
theorem refWord_any (s : ByteArray) (i : Nat) (w : World) (hs : s.size ≤ 1000000) (hi : i ≤ s.size) :
   Calls Tryd.prog 48 #[.string s, .int .i64 i] w fun e w' => e = .returned (resT i (wordT (s.data.toList.drop i))) ∧ Below w.heap.size w w' := by
 have hyes := Lib.hid (fun j => span_yes_at (p := wordC) (s := s) (i := i) (j := j));have hno := Lib.hid (fun j => span_no_at (p := wordC) (s := s) (i := i) (j := j));have hle := span_le (p := wordC) (s.data.toList.drop i);rw [List.length_drop, size_list] at hle;have hV : (∀ n, span wordC (s.data.toList.drop i) = n → (24 < n → resT i (wordT (s.data.toList.drop i)) = toldV 0 [] 0 0 0 i 2) ∧ (¬ 24 < n → resT i (wordT (s.data.toList.drop i)) = toldV 1 ((s.data.toList.drop i).take n) 0 i (i + n) 0 0)) := by
   rintro n rfl;unfold wordT;exact ⟨fun h => by rw [if_pos h]; rfl, fun h => by rw [if_neg h]; rfl⟩
 obtain ⟨V, hVe⟩ := exHid (resT i (wordT (s.data.toList.drop i)));rw [hVe.out] at hV ⊢;replace hV := Lib.hid (hV _ rfl);generalize span wordC (s.data.toList.drop i) = n at *;have hx := Lib.hid (extract_piece s i n);go_enter Tryd.func48, Tryd.ntmps48
 go_wp2
 go_loop [5] (fun t5 => ∃ j : Nat, j ≤ n ∧ t5 = .int .i64 ((i + j : Nat) : Int)) (fun t5 => i + n - (intOf t5).toNat)
 case atStart => exact ⟨0, by omega, rfl⟩
 case round =>
   obtain ⟨j, hj, rfl⟩ := hrel;rcases Nat.lt_or_ge j n with hlt | hge
   · obtain ⟨hi2, hp⟩ := hyes.out j hlt
     have hi3 : ((i + j : Nat) : Int) < (s.size : Int) := by omega
     generalize hq : i + j = q at *;rcases refW_of hp with ⟨h1, -⟩ | ⟨h1, h2, -⟩ | ⟨h1, h2, h3, -⟩ | ⟨_, _, _, h4⟩
     case inr.inr.inr => cases h4
     all_goals
       have k1 := Lib.hid (fun W => calls_at (refLow_any s[q] W) h1)
       try have k2 := Lib.hid (fun W => calls_at (refDig_any s[q] W) h2)
       clear hp;go_wp2_with (first | (with_reducible refine (k1.out _).mono ?_; rintro e w' ⟨rfl, rfl⟩) | (with_reducible refine (k2.out _).mono ?_; rintro e w' ⟨rfl, rfl⟩))
       go_round
       case rel => exact ⟨j + 1, by omega, by rw [show i + (j + 1) = q + 1 by omega]; go_num⟩
       case measure => simp [intOf]; omega
   · obtain rfl : j = n := by omega
     have h24s : (24 < j ∧ (24 : Int) < ((i + j : Nat) : Int) - (i : Int)) ∨ (¬ 24 < j ∧ ¬ (24 : Int) < ((i + j : Nat) : Int) - (i : Int)) := by omega
     rcases Nat.lt_or_ge (i + j) s.size with hi2 | hi2
     · have hp := hno.out j rfl hi2
       have hi3 : ((i + j : Nat) : Int) < (s.size : Int) := by omega
       rcases refW_of hp with ⟨_, h4⟩ | ⟨_, _, h4⟩ | ⟨_, _, _, h4⟩ | ⟨h1, h2, h3, -⟩
       case inl => cases h4
       case inr.inl => cases h4
       case inr.inr.inl => cases h4
       rcases h24s with ⟨h24, h24i⟩ | ⟨h24, h24i⟩
       · have hr := Lib.hid (hV.out.1 h24)
         clear hV;generalize hq : i + j = q at *;have k1 := Lib.hid (fun W => calls_at (refLow_any s[q] W) h1);have k2 := Lib.hid (fun W => calls_at (refDig_any s[q] W) h2);clear hp;go_wp2_with (first | (with_reducible refine (k1.out _).mono ?_; rintro e w' ⟨rfl, rfl⟩) | (with_reducible refine (k2.out _).mono ?_; rintro e w' ⟨rfl, rfl⟩) | (go_at_call 78; refine (refWrong_any i 2 _).mono ?_; rintro e w' ⟨rfl, rfl⟩))
         go_returns
         exact ⟨by rw [hr.out]; simp [toldV], by go_grown⟩
       · have hr := Lib.hid (hV.out.2 h24)
         clear hV;generalize hq : i + j = q at *;have k1 := Lib.hid (fun W => calls_at (refLow_any s[q] W) h1);have k2 := Lib.hid (fun W => calls_at (refDig_any s[q] W) h2);clear hp;have hiq : (i : Int) ≤ (q : Int) := by omega
         go_wp2_with (first | (with_reducible refine (k1.out _).mono ?_; rintro e w' ⟨rfl, rfl⟩) | (with_reducible refine (k2.out _).mono ?_; rintro e w' ⟨rfl, rfl⟩))
         go_returns
         exact ⟨by rw [hr.out, hx.out]; simp [toldV], by go_grown⟩
     · have hi3 : ¬ ((i + j : Nat) : Int) < (s.size : Int) := by omega
       rcases h24s with ⟨h24, h24i⟩ | ⟨h24, h24i⟩
       · have hr := Lib.hid (hV.out.1 h24)
         clear hV;generalize hq : i + j = q at *;go_wp2_with (go_at_call 78; refine (refWrong_any i 2 _).mono ?_; rintro e w' ⟨rfl, rfl⟩)
         go_returns
         exact ⟨by rw [hr.out]; simp [toldV], by go_grown⟩
       · have hr := Lib.hid (hV.out.2 h24)
         clear hV;have hiq : (i : Int) ≤ ((i + j : Nat) : Int) := by omega
         generalize hq : i + j = q at *;have hqs : (q : Int) ≤ (s.size : Int) := by omega
         go_wp2
         go_returns
         exact ⟨by rw [hr.out, hx.out]; simp [toldV], by go_grown⟩
end Go.Proofs.YtjiemkidmlgbeaaDoor
namespace Go.Proofs.YtjiemkidmlgbeaaDoor
open Go.RowKit Tok
def Txts (w : World) (a : Option Addr) (f : Nat → ByteArray) (n : Nat) : Prop :=
 0 < n → ∃ b off, a = some ⟨b, off, none⟩ ∧ b < w.heap.size ∧ ∀ j, j < n → w.cell? ⟨b, off + j, none⟩ = some (.string (f j))
theorem any_range (g : Nat → Bool) : ∀ n, (∀ j, j < n → g j = false) → (List.range n).any g = false := by
 intro n h;rw [List.any_eq_false];intro j hj;simp [h j (List.mem_range.1 hj)]
theorem any_hit {g : Nat → Bool} {n j : Nat} (hj : j < n) (h : g j = true) : (List.range n).any g = true :=
 List.any_eq_true.2 ⟨j, List.mem_range.2 hj, h⟩
set_option maxRecDepth 20000 in
set_option maxHeartbeats 1000000 in
theorem among_any {w : World} {a : Option Addr} {f : Nat → ByteArray} {n cap : Nat} (h : Txts w a f n) (hn : n ≤ 1000) (s : ByteArray) :
   Calls Tryd.prog 45 #[.slice a n cap, .string s] w fun e w' => e = .returned (.bool ((List.range n).any fun j => (f j).toList == s.toList)) ∧ w = w' := by
 obtain ⟨V, hV⟩ := exHid ((List.range n).any fun j => (f j).toList == s.toList);rw [hV];replace h := Lib.hid h;go_enter Tryd.func45, Tryd.ntmps45
 go_wp2
 go_loop [5] (fun t5 => ∃ i : Nat, i ≤ n ∧ t5 = .int .i64 i ∧ Hid (∀ j, j < i → ((f j).toList == s.toList) = false)) (fun t5 => n - (intOf t5).toNat)
 case atStart => exact ⟨0, by omega, rfl, fun j hj => by omega⟩
 case round =>
   obtain ⟨i, hi, rfl, hall⟩ := hrel;rcases Nat.lt_or_ge i n with hlt | hge
   · obtain ⟨b, off, rfl, _, hc⟩ := h.out (by omega)
     have x := hc i hlt;have hlti : (i : Int) < (n : Int) := by omega
     cases hq : ((f i).toList == s.toList) with
     | false =>
       have hnx : Hid (∀ j, j < i + 1 → ((f j).toList == s.toList) = false) := by
         intro j hj;rcases Nat.lt_or_ge j i with h1 | h1
         · exact hall j h1
         · obtain rfl : j = i := by omega
           exact hq
       generalize f i = S at *;clear hc;go_wp2
       go_round
       case rel => exact ⟨i + 1, by omega, by go_num, hnx⟩
       case measure => simp [intOf]; omega
     | true =>
       have hv : V = true := by rw [← hV.out]; exact any_hit hlt hq
       replace hv := Lib.hid hv;generalize f i = S at *;clear hc;go_wp2
       go_ret
       exact ⟨ret_bool (by rw [hv.out]), rfl⟩
   · obtain rfl : i = n := by omega
     have hlti : ¬ ((i : Int) < (i : Int)) := by omega
     have hv : V = false := by rw [← hV.out]; exact any_range _ _ hall
     replace hv := Lib.hid hv;go_wp2
     go_ret
     exact ⟨ret_bool (by rw [hv.out]), rfl⟩
def sgAt (i : Nat) : ByteArray := ⟨(signs.getD i []).toArray⟩
theorem txts_signs (w : World) (cs : Array Value) (t : TypeId) (h : cs = ((List.range 17).map fun j => Value.string (sgAt j)).toArray) : Txts (w.alloc (.cells cs t)) (some ⟨w.heap.size, 0, none⟩) sgAt 17 := by
 subst h;refine fun _ => ⟨_, 0, rfl, by simp, fun j hj => ?_⟩
 rw [Nat.zero_add];simp only [World.cell?, heap_alloc_new];simp [List.getElem?_range hj]
set_option maxRecDepth 20000 in
theorem refSigns_any (w : World) :
   Calls Tryd.prog 46 #[] w fun e w' => ∃ b, e = .returned (.slice (some ⟨b, 0, none⟩) 17 17) ∧ Txts w' (some ⟨b, 0, none⟩) sgAt 17 ∧ Below w.heap.size w w' := by
 go_enter Tryd.func46, Tryd.ntmps46
 go_wp2
 go_ret
 exact ⟨_, rfl, txts_signs w _ _ (by rfl), (Below.refl _ w).alloc (Nat.le_refl _) _⟩
theorem sg_range (l : List UInt8) : ((List.range 17).any fun j => (sgAt j).toList == (⟨l.toArray⟩ : ByteArray).toList) = decide (l ∈ signs) := by
 have h : signs = (List.range 17).map fun j => (sgAt j).data.toList := by decide +kernel
 have e : ∀ s : ByteArray, s.toList = s.data.toList := fun s => ByteArray.toList_eq s
 simp only [e]
 conv => rhs; rw [h]
 rw [Bool.eq_iff_iff, List.any_eq_true, decide_eq_true_iff, List.mem_map]
 constructor
 · rintro ⟨j, hj, h2⟩
   exact ⟨j, hj, beq_iff_eq.1 h2⟩
 · rintro ⟨j, hj, h2⟩
   exact ⟨j, hj, beq_iff_eq.2 h2⟩
end Go.Proofs.YtjiemkidmlgbeaaDoor
namespace Go.Proofs.YtjiemkidmlgbeaaDoor
open Go.RowKit Tok
theorem span_len {p : UInt8 → Bool} : ∀ l : List UInt8, decide (span p l = l.length) = l.all p
 | [] => rfl
 | c :: l => by
   have ih := span_len (p := p) l;have e : span p (c :: l) = if p c = true then span p l + 1 else 0 := rfl;rw [e, List.all_cons];cases hc : p c
   · simp
   · rw [if_pos rfl, Bool.true_and, ← ih]
     exact decide_eq_decide.2 (by simp)
theorem name_span {c : UInt8} {l : List UInt8} (h1 : (c :: l).length ≤ 24) (h2 : lowC c = true) : nameL (c :: l) = decide (span wordC (c :: l) = (c :: l).length) := by
 rw [span_len];have e : nameL (c :: l) = (decide (l.length < 24) && lowC c && l.all wordC) := rfl;rw [e, decide_eq_true (by simp only [List.length_cons] at h1; omega), h2, List.all_cons, low_word h2];rfl
theorem told_num {t : Tg} (h2 : t.kind ≠ 2) (hx : t.num ≠ 0) : told t = false := by
 obtain ⟨kd, tx, x, at_⟩ := t;unfold told;dsimp only at *;rw [decide_eq_false hx];simp [h2]
theorem amongSigns_any {w : World} {b : Nat} (h : Txts w (some ⟨b, 0, none⟩) sgAt 17) (tx : List UInt8) {B : Bool} (hB : decide (tx ∈ signs) = B) :
   Calls Tryd.prog 45 #[.slice (some ⟨b, 0, none⟩) 17 17, .string ⟨tx.toArray⟩] w fun e w' => e = .returned (.bool B) ∧ w' = w := by
 refine (among_any (cap := 17) h (by omega) ⟨tx.toArray⟩).mono fun e w' ⟨h1, h2⟩ => ⟨?_, h2.symm⟩;rw [h1, sg_range, hB]
set_option maxRecDepth 20000 in
set_option maxHeartbeats 4000000 in
theorem refMay_any (t : Tg) (w : World) (hl : t.text.length ≤ 9223372036854775807) :
   Calls Tryd.prog 23 #[tgV t] w fun e w' => e = .returned (.bool (told t)) ∧ Below w.heap.size w w' := by
 obtain ⟨kd, tx, x, at_⟩ := t;obtain ⟨B, hB⟩ := exHid (told ⟨kd, tx, x, at_⟩);rw [hB.out];unfold tgV; dsimp only at *;have hk := Below.refl w.heap.size w;have hB' := hB.out;by_cases c2 : kd = 2
 · subst c2
   unfold told at hB'; dsimp only at hB';rw [if_neg (by omega), if_pos rfl] at hB';rcases hn : decide (0 ≤ x) with _ | _ <;> rcases hx : decide (tx = []) with _ | _
   all_goals
     rw [hn, hx] at hB';replace hB' := Lib.hid hB';have q := tx_none tx hx;clear hx hB;replace hn := Lib.hid hn
     first
     | (have hx0 : 0 ≤ x := of_decide_eq_true hn.out)
     | (have hx0 : ¬ 0 ≤ x := of_decide_eq_false hn.out)
     go_enter Tryd.func23, Tryd.ntmps23
     go_wp2
     go_ret
     exact ⟨ret_bool (by rw [← hB'.out]; try rfl), by go_grown⟩
 · have n2 : ((kd : Int) == 2) = false := beq_eq_false_iff_ne.2 (by omega)
   by_cases hx : x = 0
   · subst hx
     unfold told at hB'; dsimp only at hB';rw [if_neg c2, decide_eq_true (rfl : (0 : Int) = 0), Bool.and_true, Bool.and_true, Bool.and_true] at hB';by_cases c3 : kd = 3
     · subst c3
       rw [if_neg (by omega), if_pos rfl] at hB';rcases hn : decide (tx.length ≤ 4095) with _ | _
       all_goals
         rw [hn] at hB';replace hB' := Lib.hid hB';have q2 := len_most tx hn;clear hn hB;go_enter Tryd.func23, Tryd.ntmps23
         go_wp2
         go_ret
         exact ⟨ret_bool (by rw [← hB'.out]; try rfl), by go_grown⟩
     · have n3 : ((kd : Int) == 3) = false := beq_eq_false_iff_ne.2 (by omega)
       by_cases c4 : kd = 4
       · subst c4
         rw [if_neg (by omega), if_neg (by omega), if_pos rfl] at hB';have kS := Lib.hid (fun W b (h : Txts W (some ⟨b, 0, none⟩) sgAt 17) => amongSigns_any h tx hB');clear hB hB';go_enter Tryd.func23, Tryd.ntmps23
         go_wp2
         go_region_with (first
           | (go_at_call 46; refine (refSigns_any _).mono ?_; rintro e w' ⟨b, rfl, hT, hb⟩; have hc1 : w'.cell? ⟨w.heap.size, 1, none⟩ = some (.string ⟨tx.toArray⟩) := (hb.cell (p := ⟨w.heap.size, 1, none⟩) (by simp)).trans (one_cell w #[.int .u8 4, .string ⟨tx.toArray⟩, .int .i64 0, .int .i64 at_] 35 1); have hk : Below w.heap.size w _ := below_next (by go_grown) hb; have hz := hk.size)
           | (go_at_call 45; refine (kS.out _ _ hT).mono ?_; rintro e w' ⟨rfl, rfl⟩))
         all_goals
           go_wp2
           go_ret
           exact ⟨rfl, hk⟩
       · have n4 : ((kd : Int) == 4) = false := beq_eq_false_iff_ne.2 (by omega)
         rw [if_neg c3, if_neg c4] at hB';by_cases c1 : kd = 1
         · subst c1
           rw [if_pos rfl] at hB';cases tx with
           | nil =>
             have hv : B = false := hB'.symm;replace hv := Lib.hid hv;clear hB hB';go_enter Tryd.func23, Tryd.ntmps23
             go_wp2
             go_ret
             exact ⟨ret_bool (by rw [hv.out]), by go_grown⟩
           | cons c l =>
             rcases Nat.lt_or_ge 24 (c :: l).length with h24 | h24
             · have hv : B = false := by
                 rw [← hB'];simp only [List.length_cons] at h24;show (decide (l.length < 24) && letC c && l.all restC) = false
                 rw [decide_eq_false (by omega)]; rfl
               have h24i : (24 : Int) < (l.length : Int) + 1 := by simp only [List.length_cons] at h24; omega
               replace hv := Lib.hid hv;clear hB hB';go_enter Tryd.func23, Tryd.ntmps23
               go_wp2
               go_ret
               exact ⟨ret_bool (by rw [hv.out]), by go_grown⟩
             · have h24i : ¬ (24 : Int) < (l.length : Int) + 1 := by simp only [List.length_cons] at h24; omega
               rcases hc : lowC c with _ | _
               · have hv : B = false := by
                   rw [← hB'];show (decide (l.length < 24) && lowC c && l.all restC) = false
                   rw [hc]; simp
                 have k := Lib.hid (fun W => calls_at (refLow_any c W) hc);replace hv := Lib.hid hv;clear hB hB' hc;go_enter Tryd.func23, Tryd.ntmps23
                 go_wp2_with fail
                 refine (k.out _).mono ?_;rintro e w2 ⟨rfl, rfl⟩;go_wp2
                 go_ret
                 exact ⟨ret_bool (by rw [hv.out]), by go_grown⟩
               · rw [name_span h24 hc] at hB'
                 have k := Lib.hid (fun W => calls_at (refLow_any c W) hc);have kw := Lib.hid (fun W => refWord_any ⟨(c :: l).toArray⟩ 0 W (by simp only [ByteArray.size, List.size_toArray]; omega) (by omega));have hw : resT 0 (wordT ((⟨(c :: l).toArray⟩ : ByteArray).data.toList.drop 0)) = toldV 1 ((c :: l).take (span wordC (c :: l))) 0 0 (span wordC (c :: l)) 0 0 := by
                   have hle := span_le (p := wordC) (c :: l);show resT 0 (wordT (c :: l)) = _
                   unfold wordT;rw [if_neg (by omega)];simp [resT]
                 rw [hw] at kw;clear hw hB hc;unfold toldV at kw;have hq : (((span wordC (c :: l) : Nat) : Int) == (l.length : Int) + 1) = B := by
                   rw [← hB', Bool.eq_iff_iff, beq_iff_eq, decide_eq_true_iff];simp only [List.length_cons];omega
                 generalize span wordC (c :: l) = n at *;generalize (c :: l).take n = T at *;clear hB';go_enter Tryd.func23, Tryd.ntmps23
                 go_wp2_with fail
                 refine (k.out _).mono ?_;rintro e w2 ⟨rfl, rfl⟩;go_wp2_with fail
                 refine (kw.out _).mono ?_;rintro e w3 ⟨rfl, hb3⟩;have hc1 := (hb3.cell (p := ⟨w.heap.size, 1, none⟩) (by simp)).trans (one_cell w #[.int .u8 1, .string ⟨(c :: l).toArray⟩, .int .i64 0, .int .i64 at_] 35 1);simp only [List.getElem?_toArray, List.getElem?_cons_succ, List.getElem?_cons_zero] at hc1;have hb4 := ((Below.refl w.heap.size w).alloc (Nat.le_refl _) (.cells #[.int .u8 1, .string ⟨(c :: l).toArray⟩, .int .i64 0, .int .i64 at_] 35)).trans (hb3.mono (by simp));have hlt3 : w.heap.size < w3.heap.size := Nat.lt_of_lt_of_le (by simp) hb3.size;go_wp2
                 go_ret
                 exact ⟨rfl, hb4.alloc (by omega) _⟩
         · have n1 : ((kd : Int) != 1) = true := by simp; omega
           rw [if_neg c1] at hB';replace hB' := Lib.hid hB';clear hB;go_enter Tryd.func23, Tryd.ntmps23
           go_wp2
           go_ret
           exact ⟨ret_bool (by rw [← hB'.out]; try rfl), by go_grown⟩
   · have hB2 := Lib.hid ((told_num (t := ⟨kd, tx, x, at_⟩) c2 hx).symm.trans hB')
     have qx : (x != 0) = true := bne_iff_ne.2 hx;clear hB hB';go_enter Tryd.func23, Tryd.ntmps23
     go_wp2
     go_ret
     exact ⟨ret_bool (by rw [← hB2.out]; try rfl), by go_grown⟩
end Go.Proofs.YtjiemkidmlgbeaaDoor
