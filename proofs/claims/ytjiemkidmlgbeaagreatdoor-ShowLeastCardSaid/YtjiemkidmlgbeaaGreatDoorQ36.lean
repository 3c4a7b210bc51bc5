/- A part of the proof: SlB, SlP, SlW. No condition. -/
import Derived.Test.YtjiemkidmlgbeaaGreatDoorQ05
import Derived.Test.YtjiemkidmlgbeaaGreatDoorQ33
import Derived.Test.YtjiemkidmlgbeaaGreatDoorQ35
set_option linter.unusedVariables false
set_option linter.unusedSimpArgs false
namespace Go.Proofs.YtjiemkidmlgbeaaGreatDoor
open Go.RowKit Tok
def isO (t : Tg) : Bool := decide (t.kind = 4) && decide (t.text = [40])
def isC (t : Tg) : Bool := decide (t.kind = 4) && decide (t.text = [41])
def dv (t : Tg) : Int := if isO t then 1 else if isC t then -1 else 0
def dp : List Tg → Int
 | [] => 0
 | t :: r => dv t + dp r
theorem dp_app : ∀ a b : List Tg, dp (a ++ b) = dp a + dp b
 | [], b => by show dp b = 0 + dp b; omega
 | t :: r, b => by
   show dv t + dp (r ++ b) = dv t + dp r + dp b
   rw [dp_app r b];omega
def Bal (l : List Tg) : Prop := dp l = 0 ∧ ∀ m, 0 ≤ dp (l.take m)
theorem Bal.nil : Bal [] := ⟨rfl, fun m => by rw [List.take_nil]; exact Int.le_refl _⟩
theorem Bal.app {a b : List Tg} (ha : Bal a) (hb : Bal b) : Bal (a ++ b) := by
 refine ⟨by rw [dp_app, ha.1, hb.1]; rfl, fun m => ?_⟩;rw [List.take_append, dp_app];have h1 := ha.2 m;have h2 := hb.2 (m - a.length);omega
theorem Bal.cons {t : Tg} {l : List Tg} (ht : dv t = 0) (h : Bal l) : Bal (t :: l) := by
 refine ⟨by show dv t + dp l = 0; rw [ht, h.1]; rfl, fun m => ?_⟩;cases m with
 | zero => exact Int.le_refl _
 | succ m =>
   show 0 ≤ dv t + dp (l.take m)
   have := h.2 m;omega
theorem dv_word (s : List UInt8) : dv (wordTg s) = 0 := by simp [dv, isO, isC, wordTg]
theorem dv_opn : dv (signTg B.opn) = 1 := by decide
theorem dv_cls : dv (signTg B.cls) = -1 := by decide
theorem Bal.wrap {l : List Tg} (h : Bal l) : Bal (signTg B.opn :: (l ++ [signTg B.cls])) := by
 have e1 : dp [signTg B.cls] = -1 := by decide
 refine ⟨?_, fun m => ?_⟩
 · show dv (signTg B.opn) + dp (l ++ [signTg B.cls]) = 0
   rw [dp_app, dv_opn, h.1, e1];rfl
 · cases m with
   | zero => exact Int.le_refl _
   | succ m =>
     show 0 ≤ dv (signTg B.opn) + dp ((l ++ [signTg B.cls]).take m)
     rw [List.take_append, dp_app, dv_opn];have h1 := h.2 m;have h2 : -1 ≤ dp ([signTg B.cls].take (m - l.length)) := by
       cases m - l.length with
       | zero => decide
       | succ k =>
         show -1 ≤ dv (signTg B.cls) + dp (List.take k [])
         rw [List.take_nil, dv_cls]
         decide
     omega
theorem bal_mark (op : Nat) : Bal (markTg op) := by
 have h : ∀ L : List (Nat × Nat × List UInt8), (∀ m ∈ L, dv ⟨m.2.1, m.2.2, 0, 0⟩ = 0) → Bal (markGo op L) := by
   intro L
   induction L with
   | nil => intro _; exact Bal.nil
   | cons m r ih =>
     intro hm;unfold markGo;split
     · exact .cons (hm m List.mem_cons_self) (ih fun x hx => hm x (List.mem_cons_of_mem _ hx))
     · exact ih fun x hx => hm x (List.mem_cons_of_mem _ hx)
 exact h marksL (by decide)
def BaP (x : Tw) (k : Fs) : Prop := Bal (bareS x k)
theorem bal_at {x : Tw} {k : Fs} (h : Bal (bareS x k)) (a : Nat) : Bal (atS a x k) := by
 unfold atS wrapT;split
 · exact h.wrap
 · exact h
theorem bal_comma (p : Nat) : Bal (comma p).1 := by
 show Bal (if p = 0 then [] else [signTg B.com])
 split
 · exact .nil
 · exact .cons (by decide) .nil
theorem bal_commas : ∀ (F : Fs) (p : Nat), Every BaP F → Bal (commaS p F)
 | .nil, _, _ => .nil
 | .cons x k r, p, ⟨h1, _, h3⟩ => Bal.app (Bal.app (bal_comma p) h1) (bal_commas r (p + 1) h3)
theorem bal_rows : ∀ (F : Fs), Every BaP F → Bal (rowS F)
 | .nil, _ => .nil
 | .cons x k r, ⟨h1, _, h3⟩ => Bal.app h1 (bal_rows r h3)
theorem bal_params : ∀ (F : Fs) (p : Nat), Every BaP F → 0 < F.count → ∃ A R, paramS p F = A ++ (signTg B.cls :: R) ∧ Bal A ∧ Bal R
 | .nil, _, _, h => absurd h (by decide)
 | .cons b kb .nil, _, ⟨h1, _, _⟩, _ => ⟨[], _, rfl, .nil, h1⟩
 | .cons x k (.cons y k' r), p, ⟨h1, _, h3⟩, _ => by
   obtain ⟨A, R, e, hA, hR⟩ := bal_params (.cons y k' r) (p + 1) h3 (Nat.succ_pos _);refine ⟨(comma p).1 ++ bareS x k ++ A, R, ?_, (Bal.app (Bal.app (bal_comma p) h1) hA), hR⟩;show (comma p).1 ++ bareS x k ++ paramS (p + 1) (.cons y k' r) = _
   rw [e];simp
theorem ba_all : ∀ x k, (Fs.cons x k .nil).ok → Every BaP k → BaP x k := by
 intro x k hok hk;show Bal (bareS x k)
 have kw : ∀ {s : List UInt8} {l : List Tg}, Bal l → Bal (wordTg s :: l) := fun h => .cons (dv_word _) h;cases view hok with
 | bare op ho => rw [bare_bare ho]; exact bal_mark op
 | int n => rw [bare_int]; exact .cons (by simp [dv, isO, isC]) .nil
 | text s h => rw [bare_text]; exact .cons (by simp [dv, isO, isC]) .nil
 | own op s ho h =>
   rcases ho with rfl | rfl | rfl
   · rw [bare_name]; exact kw .nil
   · rw [bare_take]; exact kw (kw .nil)
   · rw [bare_param]; exact kw .nil
 | one op a ka ho ha =>
   have hA : Bal (bareS a ka) := hk.1;by_cases c1 : asksW op
   · rw [bare_asks c1]
     exact (bal_mark op).app hA.wrap
   · by_cases c2 : op = 43 ∨ op = 44 ∨ op = 54 ∨ op = 55
     · rw [bare_pre c2]
       exact (bal_mark op).app (bal_at hA _)
     · have ho' : 8 ≤ op ∧ op ≤ 11 := by
         unfold asksW at c1;omega
       rw [bare_stmt ho'];exact (bal_mark op).app hA
 | set op s a ka ho h ha =>
   have hA : Bal (bareS a ka) := hk.1;rcases ho with rfl | rfl
   · rw [bare_let]; exact kw (kw (.cons (by decide) hA))
   · rw [bare_set]; exact kw (.cons (by decide) hA)
 | two op a ka b kb h1 h2 ha hb =>
   have hA : Bal (bareS a ka) := hk.1;have hB : Bal (bareS b kb) := hk.2.2.1;by_cases c1 : op = 41
   · subst c1
     rw [bare_num];refine kw ?_;have := (hA.app (Bal.cons (t := signTg B.com) (by decide) hB)).wrap
     simpa using this
   · by_cases c2 : op = 42
     · subst c2
       rw [bare_at];exact (bal_at hA _).app (.cons (by decide) (hB.app (.cons (by decide) .nil)))
     · by_cases c3 : 32 ≤ op ∧ op ≤ 35
       · rw [bare_cmp c3.1 c3.2]
         exact (bal_at hA _).app ((bal_mark op).app (bal_at hB _))
       · rw [bare_left (by unfold leftW; omega)]
         exact (bal_at hA _).app ((bal_mark op).app (bal_at hB _))
 | list k he hn => rw [bare_list]; exact .cons (by decide) ((bal_commas k 0 hk).app (.cons (by decide) .nil))
 | call op s k ho h he hn =>
   rw [bare_call ho];exact (bal_mark op).app (kw (bal_commas k 0 hk).wrap)
 | fork b kb hb => rw [bare_fork]; exact kw hk.1
 | block k hs hn => rw [bare_block]; exact .cons (by decide) ((bal_rows k hk).app (.cons (by decide) .nil))
 | cond2 op a ka b kb ho ha hb =>
   rw [bare_cond2 ho];exact kw (Bal.app hk.1 hk.2.2.1)
 | cond3 a ka b kb c kc ha hb hc =>
   rw [bare_cond3];exact kw (Bal.app hk.1 (Bal.app hk.2.2.1 (kw hk.2.2.2.2.1)))
 | flow s k h hp hn =>
   rw [bare_flow (params_pos hp)];obtain ⟨A, R, e, hA, hR⟩ := bal_params k 0 hk (params_pos hp);rw [e];have := hA.wrap.app hR;exact kw (kw (by simpa using this))
theorem show_bal {x : Tw} {k : Fs} (hok : (Fs.cons x k .nil).ok) : Bal (showL x k) := bal_at (ba_all x k hok (every_of ba_all k hok.2.2.1)) 1
def clG (n : Nat) : List Tg → Int → Nat → Nat
 | [], _, _ => n
 | t :: r, o, k => if isO t then clG n r (o + 1) (k + 1) else if isC t then (if o - 1 = 0 then k else clG n r (o - 1) (k + 1)) else clG n r o (k + 1)
def closesN (L : List Tg) (i : Nat) : Nat := clG L.length (L.drop i) 0 i
theorem cl_at (n : Nat) : ∀ (r : List Tg) (o : Int) (k : Nat), 0 < o → o + dp r ≤ 0 → ∃ A t B, r = A ++ t :: B ∧ isC t = true ∧ clG n r o k = k + A.length
 | [], o, k, h0, h1 => by
   have : dp [] = 0 := rfl;omega
 | t :: r, o, k, h0, h1 => by
   have hd : dp (t :: r) = dv t + dp r := rfl;unfold clG;by_cases c1 : isO t = true
   · rw [if_pos c1]
     have hv : dv t = 1 := by unfold dv; rw [if_pos c1]
     obtain ⟨A, u, B, e, hu, hc⟩ := cl_at n r (o + 1) (k + 1) (by omega) (by omega);exact ⟨t :: A, u, B, by rw [e]; rfl, hu, by rw [hc, List.length_cons]; omega⟩
   · rw [if_neg c1]
     by_cases c2 : isC t = true
     · rw [if_pos c2]
       have hv : dv t = -1 := by unfold dv; rw [if_neg c1, if_pos c2]
       by_cases c3 : o - 1 = 0
       · rw [if_pos c3]
         exact ⟨[], t, r, rfl, c2, rfl⟩
       · rw [if_neg c3]
         obtain ⟨A, u, B, e, hu, hc⟩ := cl_at n r (o - 1) (k + 1) (by omega) (by omega);exact ⟨t :: A, u, B, by rw [e]; rfl, hu, by rw [hc, List.length_cons]; omega⟩
     · rw [if_neg c2]
       have hv : dv t = 0 := by unfold dv; rw [if_neg c1, if_neg c2]
       obtain ⟨A, u, B, e, hu, hc⟩ := cl_at n r o (k + 1) h0 (by omega);exact ⟨t :: A, u, B, by rw [e]; rfl, hu, by rw [hc, List.length_cons]; omega⟩
theorem close_of {L : List Tg} (hb : Bal L) {i : Nat} (hi : i < L.length) (ho : isO L[i] = true) : ∃ A c B, L = L.take i ++ L[i] :: (A ++ c :: B) ∧ closesN L i = i + 1 + A.length := by
 have hd : L.drop i = L[i] :: L.drop (i + 1) := List.drop_eq_getElem_cons hi;have h1 : dp L = dp (L.take i) + dp (L.drop i) := by rw [← dp_app, List.take_append_drop]
 have h2 := hb.1;have h3 := hb.2 i;have h4 : dp (L.drop i) = dv L[i] + dp (L.drop (i + 1)) := by rw [hd]; rfl
 have h5 : dv L[i] = 1 := by unfold dv; rw [if_pos ho]
 obtain ⟨A, c, B, e, _, hc⟩ := cl_at L.length (L.drop (i + 1)) 1 (i + 1) (by decide) (by omega);refine ⟨A, c, B, ?_, ?_⟩
 · rw [← e, ← hd, List.take_append_drop]
 · unfold closesN
   rw [hd];unfold clG;rw [if_pos ho];exact hc
end Go.Proofs.YtjiemkidmlgbeaaGreatDoor
namespace Go.Proofs.YtjiemkidmlgbeaaGreatDoor
open Go.RowKit Go.Shelf Tok
theorem pc_same {ks ls : List Tk} (h : ks.map keyT = ls.map keyT) : pc ks = pc ls := by
 have hm := markT_same h
 funext j
 induction j with
 | zero => rfl
 | succ j ih =>
   show pc ks j + oB (markT ks j) = pc ls j + oB (markT ls j)
   rw [ih, hm]
theorem pc_map (l : List Tg) : ∀ m, m ≤ l.length → pc (l.map toK) m = oc (l.take m)
 | 0, _ => rfl
 | m + 1, h => by
   show pc (l.map toK) m + oB (markT (l.map toK) m) = _
   rw [pc_map l m (by omega), List.take_succ_eq_append_getElem (by omega), oc_app];have e : markT (l.map toK) m = mkG l[m] := by
     unfold markT;rw [List.getElem?_map, List.getElem?_eq_getElem (by omega)];rfl
   rw [e];rfl
theorem less_oc {L P A B : List Tg} {t c : Tg} (h : L = P ++ t :: (A ++ c :: B)) (ho : isO t = true) : oc (P ++ (A ++ B)) + 1 ≤ oc L := by
 unfold isO at ho;rw [Bool.and_eq_true] at ho;have h1 := of_decide_eq_true ho.1;have h2 := of_decide_eq_true ho.2;have e : oB (mkG t) = 1 := by
   unfold mkG;rw [if_pos (.inr h1), h2];rfl
 rw [h, oc_app, oc_app, oc_app];show _ ≤ oc P + (oB (mkG t) + oc (A ++ c :: B))
 rw [oc_app];show _ ≤ oc P + (oB (mkG t) + (oc A + (oB (mkG c) + oc B)))
 omega
theorem less_told {L P A B : List Tg} {t c : Tg} (h : L = P ++ t :: (A ++ c :: B)) (hL : ToldL L) : ToldL (P ++ (A ++ B)) := by
 intro u hu;refine hL u ?_;rw [h];simp only [List.mem_append, List.mem_cons] at hu ⊢;rcases hu with hu | hu | hu
 · exact .inl hu
 · exact .inr (.inr (.inl hu))
 · exact .inr (.inr (.inr (.inr hu)))
theorem less_unread {ts : List Tw} {L : List Tg} (h : ShowIs ts L 0) {x : Tw} {r : List Tw} (hx : ts = x :: r) {l : List Tg} (hT : ToldL l) (ho : oc l + 1 ≤ oc L) (hl : (joinL l).length ≤ 16384) (hz : (readR (joinL l) (ruleN x.op)).2.2 = 0) : (readR (joinL l) (ruleN x.op)).1 ≠ ts := by
 rcases h with ⟨hc, _, hE⟩ | ⟨_, _, _, _, _, _, _, hE⟩ | ⟨hc, x', k, hts, hok, _, hx1, rfl, _⟩
 · exact absurd hE.symm (by simpa using hc)
 · exact absurd hE (by decide)
 · rw [hts] at hx
   obtain ⟨rfl, rfl⟩ := List.cons.inj hx;obtain ⟨ks, h1, h2⟩ := join_back hT hl;have hk := key_shown h2;have hlen : ks.length = l.length := by have := congrArg List.length hk; simpa using this
   unfold readR at hz ⊢;rw [h1] at hz ⊢;dsimp only at hz ⊢;rw [if_neg (by decide)] at hz ⊢;unfold readK at hz ⊢;cases hg : gP ks (fuelP ks (ruleN x'.op)) (ruleN x'.op) 0 with
   | out =>
     rw [hts];dsimp only;exact fun e => by cases e
   | bad j =>
     rw [hts];dsimp only;exact fun e => by cases e
   | ok c j =>
     rw [hg] at hz;dsimp only at hz ⊢;by_cases hj : j < ks.length
     · rw [if_pos hj, hts]
       exact fun e => by cases e
     · rw [if_neg hj]
       by_cases hf : (lookF c.ts).2.2 = 0
       · rw [if_pos hf]
         dsimp only;intro e;have hfine := gP_fine ks (fuelP ks (ruleN x'.op)) (ruleN x'.op) 0 (rule_wf _) (Nat.zero_le _) (by unfold fuelP; omega);have hj2 := (hfine.2 c j hg).2;obtain rfl : j = ks.length := by omega
         have hle := least (ks := ks) hok (q := ruleN x'.op) (by unfold ruleN; split; exact .inl rfl; exact .inr rfl) hg (e.trans hts);rw [pc_same hk, hlen, pc_map l _ (Nat.le_refl _), List.take_length] at hle;omega
       · rw [if_neg hf, hts]
         exact fun e => by cases e
end Go.Proofs.YtjiemkidmlgbeaaGreatDoor
namespace Go.Proofs.YtjiemkidmlgbeaaGreatDoor
open Go.RowKit Go.Shelf Tok
set_option maxRecDepth 20000 in
set_option maxHeartbeats 1000000 in
theorem closes_any {w : World} {v : Value} {L : List Tg} (h : TgIn w v L) {i : Nat} (hi : i ≤ L.length) (hL : L.length ≤ 1000000) :
   Calls Tryz.prog 13 #[v, .int .i64 (i : Int)] w fun e w' => e = .returned (.int .i64 (closesN L i : Int)) ∧ Below w.heap.size w w' := by
 obtain ⟨a, cap, rfl, _, _, k1⟩ := h;obtain ⟨Z, hZ⟩ := exHid (closesN L i);rw [hZ.out];replace k1 := Lib.hid k1;replace hL := Lib.hid hL;go_enter Tryz.func13, Tryz.ntmps13
 go_wp2
 go_loopw [5, 6] (fun t5 t6 wr => ∃ (j : Nat) (o : Int), j ≤ L.length ∧ t5 = .int .i64 o ∧ t6 = .int .i64 j ∧ -2000000 ≤ o + j ∧ o ≤ j ∧ Hid (clG L.length (L.drop j) o j = Z) ∧ Hid (Below w.heap.size w wr)) (fun _ t6 _ => L.length - (intOf t6).toNat)
 case atStart => exact ⟨i, 0, hi, rfl, rfl, by omega, by omega, Lib.hid (by rw [← hZ.out]; rfl), Below.refl _ _⟩
 case round =>
   obtain ⟨j, o, hj, rfl, rfl, ho1, ho2, hC, hbw⟩ := hrel;rcases Nat.lt_or_ge j L.length with hlt | hge
   · have hlti : (j : Int) < (L.length : Int) := by omega
     have hLn := hL.out;obtain ⟨b1, o1, rfl, hl1, hc1⟩ := k1.out (by omega);have x1 := fun c (h : c < 4) => (hbw.out.cell (p := ⟨b1, o1 + j * 4 + c, none⟩) hl1).trans (hc1 j hlt c h)
     have hd := hC.out;rw [List.drop_eq_getElem_cons hlt] at hd;unfold clG at hd;have eO : isO L[j] = (decide (L[j].kind = 4) && decide (L[j].text = [40])) := rfl;have eC : isC L[j] = (decide (L[j].kind = 4) && decide (L[j].text = [41])) := rfl;generalize L[j] = t at *;obtain ⟨kd, tx, x, at_⟩ := t;have p0 := x1 0 (by omega); have p1 := x1 1 (by omega);simp only [tgC, List.getElem?_cons_succ, List.getElem?_cons_zero, Nat.add_zero] at p0 p1;dsimp only at eO eC;clear x1 hc1;by_cases ck : kd = 4
     · subst ck
       by_cases c1 : tx = [40]
       · subst c1
         have e1 : isO ⟨4, [40], x, at_⟩ = true := by rw [eO]; rfl
         rw [if_pos e1] at hd;replace hd := Lib.hid hd;clear eO eC e1 hC;go_wp2
         go_roundw
         case rel => exact ⟨j + 1, o + 1, by omega, rfl, by go_num, by omega, by omega, hd, hbw⟩
         case measure => simp [intOf]; omega
       · have e1 : isO ⟨4, tx, x, at_⟩ = false := by rw [eO]; simp [c1]
         have q1 : (tx == [40]) = false := by simpa using c1
         rw [if_neg (by rw [e1]; decide)] at hd;by_cases c2 : tx = [41]
         · subst c2
           have e2 : isC ⟨4, [41], x, at_⟩ = true := by rw [eC]; rfl
           rw [if_pos e2] at hd;by_cases c3 : o - 1 = 0
           · rw [if_pos c3] at hd
             obtain rfl : o = 1 := by omega
             clear eO eC e1 e2 hC q1 c1;subst hd;go_wp2
             go_ret
             exact ⟨rfl, hbw.out⟩
           · rw [if_neg c3] at hd
             have c4 : (o - 1 == 0) = false := by simpa using c3
             clear c3 c1 q1;replace hd := Lib.hid hd;clear eO eC e1 e2 hC;go_wp2
             go_roundw
             case rel => exact ⟨j + 1, o - 1, by omega, rfl, by go_num, by omega, by omega, hd, hbw⟩
             case measure => simp [intOf]; omega
         · have e2 : isC ⟨4, tx, x, at_⟩ = false := by rw [eC]; simp [c2]
           have q2 : (tx == [41]) = false := by simpa using c2
           rw [if_neg (by rw [e2]; decide)] at hd;replace hd := Lib.hid hd;clear eO eC e1 e2 hC;go_wp2
           go_roundw
           case rel => exact ⟨j + 1, o, by omega, rfl, by go_num, by omega, by omega, hd, hbw⟩
           case measure => simp [intOf]; omega
     · have e1 : isO ⟨kd, tx, x, at_⟩ = false := by rw [eO]; simp [ck]
       have e2 : isC ⟨kd, tx, x, at_⟩ = false := by rw [eC]; simp [ck]
       have qk : ((kd : Int) == 4) = false := beq_eq_false_iff_ne.2 (by omega);rw [if_neg (by rw [e1]; decide), if_neg (by rw [e2]; decide)] at hd;replace hd := Lib.hid hd;clear eO eC e1 e2 hC;go_wp2
       go_roundw
       case rel => exact ⟨j + 1, o, by omega, rfl, by go_num, by omega, by omega, hd, hbw⟩
       case measure => simp [intOf]; omega
   · obtain rfl : j = L.length := by omega
     have hlti : ¬ ((L.length : Int) < (L.length : Int)) := by omega
     have hd := hC.out;rw [List.drop_length] at hd;unfold clG at hd;clear hC;subst hd;go_wp2
     go_ret
     exact ⟨rfl, hbw.out⟩
end Go.Proofs.YtjiemkidmlgbeaaGreatDoor
