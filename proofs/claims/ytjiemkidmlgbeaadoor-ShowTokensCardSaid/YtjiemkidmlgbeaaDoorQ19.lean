/- A part of the proof: SdH3, SdK. No condition. -/
import Derived.Deep.RegionHeld3
import Derived.Deep.AppendLies
import Derived.Test.YtjiemkidmlgbeaaDoorQ17
set_option linter.unusedVariables false
set_option linter.unusedSimpArgs false
namespace Go.Proofs.YtjiemkidmlgbeaaDoor
open Go.RowKit Go.Shelf
theorem tgs_nil (w : World) (b : Nat) : TgsAt w b (.slice none 0 0) [] := ⟨rfl, .inl ⟨rfl, rfl⟩⟩
theorem step_append_tgr {w : World} {base : Nat} {v : Value} {ts us : List Tg} {ops : Array Oper} {o : Oper} {a : Act} {K : Act → World → Prop} {Q : Exit → Act → World → Prop} {E : Prop} (hgd : o.guard = none) (s x : Operand)
   (ho : o.op = .call { callee := .builtin .append, args := #[s, x], argTypes := #[30, 30] })
   (hs : a.eval s = v) (hown : TgsAt w base v ts) {u : Value} {b2 : Nat} (hx : a.eval x = u) (hu : TgsAt w b2 u us) (hne : us ≠ [])
   (hk : ts.length ≤ 1000000000) (hk2 : us.length ≤ 1000000000) (hbase : base ≤ w.heap.size)
   (h : ∀ v' w', TgsAt w' base v' (ts ++ us) → Below base w w' → K (a.put o.dst v') w') : if Region.wanted o (yielded ops a.tmps) = true then Oper.wp Tryd.prog o a w K Q else E := by
 obtain ⟨i0, hi, hz0, hz1, hz2⟩ := tk_parts;obtain ⟨G, c, hv⟩ : ∃ G c, u = .slice (some ⟨G, 0, none⟩) us.length c := by
   rcases hu.2 with ⟨_, h0⟩ | ⟨g, cap, cur, hv, _⟩
   · exact absurd (List.eq_nil_of_length_eq_zero h0) hne
   · exact ⟨g, cap, hv⟩
 subst hv;have hpos : 0 < us.length := by
   cases us with
   | nil => exact absurd rfl hne
   | cons t r => simp
 refine step_append_lies w hgd s x 30 ho base 35 i0 (.agg #[.int .u8 0, .string ⟨#[]⟩, .int .i64 0, .int .i64 0]) 4 40 Tryd.underlying30 hi hz0 hz1 hz2 rfl (by decide) v ts.length (rowOf tgC ts) hs hown ⟨G, 0, none⟩ us.length c (rowOf tgC us) hx (rowOf_length tgC_len us) ?_ ?_ hpos (by unfold maxLen; omega) (by omega) hbase w.heap.size rfl ?_
 · intro j y hj
   have hl : j < (rowOf tgC us).length := (List.getElem?_eq_some_iff.1 hj).1;rw [rowOf_length tgC_len] at hl;have := World.ownsRow.cellAt (g := G) (cap := c) hu j (by omega);rw [hj] at this;rw [show (⟨G, 0, none⟩ : Addr).add j = ⟨G, j, none⟩ by simp [Addr.add]; omega];exact this
 · intro y hy
   have : ∀ (l : List Tg), ∀ y ∈ rowOf tgC l, y.oneCell' = true := by
     intro l
     induction l with
     | nil => intro y hy; cases hy
     | cons t r ih =>
       intro y hy;rcases List.mem_append.1 (show y ∈ tgC t ++ rowOf tgC r from hy) with h | h
       · exact tgC_one t y h
       · exact ih y h
   exact this us y hy
 · intro g' cap w' h2 h3 _ _
   refine h _ w' ?_ ((Below.refl base _).grown h3 hbase (fun k hk => (World.ownsRow.lt hown k hk).1));unfold TgsAt;rw [rowOf_append, List.length_append];exact h2
set_option maxRecDepth 20000 in
set_option maxHeartbeats 2000000 in
theorem stmtD_let {w0 : World} {tv : Value} {ts : List Tw} (hT : TwIn w0 tv ts) (hts : ts.length ≤ 2048) (hks : ∀ x ∈ ts, 0 ≤ x.kids ∧ x.kids ≤ 2048) {kids num : Int} {text : List UInt8} {a : Tw} {ka : Fs} (hSa : Hid (SayD w0 tv ts 36 [.int .i64 1] a ka (bareS a ka))) (hna : bareS a ka ≠ []) (hla : (bareS a ka).length ≤ 1000000) (hTT : bareS ⟨4, kids, num, text⟩ (.cons a ka .nil) = ([] ++ [wordTg [108, 101, 116], wordTg text, signTg [61]]) ++ bareS a ka) (hok : ((.cons a ka .nil) : Fs).ok) (hkn : kids = (((.cons a ka .nil) : Fs).count : Int)) : SayD w0 tv ts 73 [] ⟨4, kids, num, text⟩ (.cons a ka .nil) (bareS ⟨4, kids, num, text⟩ (.cons a ka .nil)) := by
 intro W i rest hb hd;rw [hTT];obtain ⟨hi, hxi, hlen⟩ := drop_facts hd;have hal := (Below.refl W.heap.size W).alloc (Nat.le_refl _) (.cells #[.int .u8 4, .int .i64 kids, .int .i64 num, .string ⟨text.toArray⟩] 37);have hX := heap_alloc_new W (.cells #[.int .u8 4, .int .i64 kids, .int .i64 num, .string ⟨text.toArray⟩] 37 (0, 0));have hPo := posd_offs (ts := ts) (.cons a ka .nil) (i + 1) rest (by rw [← List.drop_drop, hd]; rfl);have kK := Lib.hid (KidsAt_any (W.alloc (.cells #[.int .u8 4, .int .i64 kids, .int .i64 num, .string ⟨text.toArray⟩] 37)) ((hT.below hb).below hal) hks hts hd hkn hok);obtain ⟨g, off, cap, rfl, hg, z0, z1, z2, z3⟩ := tw_at hT hb hi hxi;have hii : (i : Int) < (ts.length : Int) := by omega
 replace hPo := Lib.hid hPo;replace hX := Lib.hid hX;replace hal := Lib.hid hal;replace hTT := Lib.hid hTT;replace hkn := Lib.hid hkn;replace hb := Lib.hid hb;clear hd hxi hT hks hi;obtain ⟨n, hn⟩ : ∃ n, n = ts.length := ⟨_, rfl⟩;rw [← hn] at kK hii;show Calls Tryd.prog _ #[.slice (some ⟨g, off, none⟩) ts.length cap, .int .i64 (i : Int)] W _
 rw [← hn];replace hn := Lib.hid hn;go_enter Tryd.func73, Tryd.ntmps73
 go_wp2_with fail
 with_reducible refine kK.out.mono ?_
 rintro e w3 ⟨kv, rfl, hko, hb2⟩;have hX2 := (hb2.block _ (Array.getElem?_eq_some_iff.1 hX.out).1).trans hX.out;have hB2 := Lib.hid (below_next hal.out hb2);have x0 := cellD hX2 0; have x1 := cellD hX2 1; have x2 := cellD hX2 2; have x3 := cellD hX2 3;simp only [List.getElem?_toArray, List.getElem?_cons_zero, List.getElem?_cons_succ] at x0 x1 x2 x3;have hbw : Hid (Below w0.heap.size w0 w3) := Lib.hid (hb.out.trans (hB2.out.mono hb.out.size));replace hX2 := Lib.hid hX2;clear hX hal hb2 kK z0 z1 z2 z3;have hpo := hPo.out;simp only [offsF] at hpo hko;obtain ⟨⟨rest0, hd0⟩, _⟩ := hpo;obtain ⟨p, hp⟩ : ∃ p, p = i + 1 := ⟨_, rfl⟩;rw [← hp] at hd0 hko;obtain ⟨kg, kc, rfl, hkb, hkg, hkc⟩ := hko.owned (by simp);have kc0 := hkc 0 (by simp);simp only [List.getElem_cons_zero, natV] at kc0;simp only [offsF, ← hp, List.length_cons, List.length_nil, Nat.zero_add];replace hd0 := Lib.hid hd0;replace hp := Lib.hid hp;clear hkc hko hPo;have hB0 := Lib.hid (Below.refl w3.heap.size w3);have hT0 : Hid (TgsAt w3 w3.heap.size (.slice none 0 0) []) := Lib.hid ⟨rfl, .inl ⟨rfl, rfl⟩⟩;have kc0' := Lib.hid kc0;clear kc0;have cX3 := fun (W' : World) (h : Below w3.heap.size w3 W') => (h.cell (p := ⟨W.heap.size, 3, none⟩) (Array.getElem?_eq_some_iff.1 hX2.out).1).trans x3
 have hz := Nat.le_refl w3.heap.size;have kt := Lib.hid (fun W => wordE_any #[108, 101, 116] W);have kx := Lib.hid (fun W => wordE_any text.toArray W);have ke := Lib.hid (fun W => signE_any #[61] W);clear x1 x2;go_wp2_with fail
 go_region_held3 (fun W' => w3.heap.size ≤ W'.heap.size ∧ Below w3.heap.size w3 W')
   (first
     | exact ⟨hz, (Below.refl _ _).drew⟩
     | exact ⟨Nat.le_trans hr0 hb10.size, hr1.trans hb10⟩
     | (go_split_ands; rename_i hq0 hq1; exact ⟨Nat.le_trans hq0 hb9.size, hq1.trans (hb9.mono hq0)⟩)
     | (go_split_ands; rename_i hq0 hq1; exact ⟨Nat.le_trans hq0 ((Below.refl _ _).alloc (Nat.le_refl _) _).size, below_next hq1 ((Below.refl _ _).alloc (Nat.le_refl _) _)⟩))
   (first
     | (go_at_call 38; refine (ke.out _).mono ?_; rintro e w9 ⟨rfl, hb9⟩)
     | (go_at_call 37; (first | (with_reducible refine (kt.out _).mono ?_) | (with_reducible refine (kx.out _).mono ?_)); rintro e w9 ⟨rfl, hb9⟩)
     | (go_split_ands; rename_i hr0 hr1; refine step_append_tgr rfl _ _ rfl rfl (tgs_nil _ _) rfl (tgs_new w9 [wordTg [108, 101, 116], wordTg text, signTg [61]] (cs := #[.int .u8 1, .string ⟨#[108, 101, 116]⟩, .int .i64 0, .int .i64 0, .int .u8 1, .string ⟨text.toArray⟩, .int .i64 0, .int .i64 0, .int .u8 4, .string ⟨#[61]⟩, .int .i64 0, .int .i64 0]) rfl (n := 3) rfl (q := w9.heap.size) rfl (by simp)) (by simp) (by simp) (by simp) hr0 ?_; intro v10 w10 h10 hb10))
 all_goals
   rename_i hr
   obtain ⟨hqa, hqb⟩ := hr;replace h10 := Lib.hid h10;replace hqb := Lib.hid hqb;have hc10 := (hqb.out.cell (p := ⟨kg, 0, none⟩) hkg).trans kc0'.out;have hz10 := Nat.lt_of_lt_of_le hkg hqb.out.size;clear hb10 kt kx ke cX3 x0 x3;go_wp2_with fail
   have hbw11 := hbw.out.trans (hqb.out.mono hbw.out.size);have kS11 := Lib.hid (hSa.out _ p rest0 hbw11 hd0.out);rw [← hn.out] at kS11;clear hbw11;refine kS11.out.mono ?_;rintro e w11 ⟨v11, rfl, hU11, hb11⟩;have hTA11 := Lib.hid (h10.out.below hb11);have hBm11 := Lib.hid (below_next hqb.out hb11);have hsz11 := hBm11.out.size;replace hU11 := Lib.hid hU11;clear kS11 hb11 hc10 hz10;go_wp2_with (at_builtin; (refine wpList_append_tgr rfl _ _ rfl rfl hTA11.out rfl hU11.out hna (by simp only [List.length_append, List.length_cons, List.length_nil]; omega) (by omega) hsz11 ?_; intro v12 w12 hT12 hb12; have hB12 := Lib.hid (hBm11.out.trans hb12); replace hT12 := Lib.hid hT12; clear hb12 hTA11 hU11 hsz11 hBm11))
   go_ret
   exact ⟨_, rfl, hT12.out.low hB2.out.size, below_next hB2.out hB12.out⟩
end Go.Proofs.YtjiemkidmlgbeaaDoor
namespace Go.Proofs.YtjiemkidmlgbeaaDoor
open Go.RowKit Go.Shelf
def ParD (w0 : World) (tv : Value) (ts : List Tw) : Fs → Prop
 | .nil => False
 | .cons b kb .nil => SayD w0 tv ts 40 [] b kb (bareS b kb) ∧ bareS b kb ≠ [] ∧ (bareS b kb).length ≤ 1000000
 | .cons x k (.cons y k' r) => bareS x k = [wordTg x.text] ∧ ParD w0 tv ts (.cons y k' r)
section
variable {w : World} {tv : Value}
set_option maxRecDepth 20000 in
set_option maxHeartbeats 2000000 in
theorem flowD_any {kids num : Int} {text : List UInt8} {K : Fs} (hT : TwIn w tv (⟨1, kids, num, text⟩ :: K.flat)) (hts : ((⟨1, kids, num, text⟩ : Tw) :: K.flat).length ≤ 2048) (hks : ∀ x ∈ (⟨1, kids, num, text⟩ : Tw) :: K.flat, 0 ≤ x.kids ∧ x.kids ≤ 2048) (hPar : ParD w tv (⟨1, kids, num, text⟩ :: K.flat) K) (hok : K.ok) (hkn : kids = (K.count : Int)) (hn9 : K.count ≤ 5000) (hTT : bareS ⟨1, kids, num, text⟩ K = [wordTg [102, 108, 111, 119], wordTg text, signTg [40]] ++ paramS 0 K) (hLn : (paramS 0 K).length ≤ 1000000) :
   Calls Tryd.prog 20 #[tv] w fun e w' => ∃ v', e = .returned v' ∧ TgsAt w' w.heap.size v' (bareS ⟨1, kids, num, text⟩ K) ∧ Below w.heap.size w w' := by
 rw [hTT];have hP := Lib.hid (posd_offs (ts := ⟨1, kids, num, text⟩ :: K.flat) K (0 + 1) [] (by rw [List.append_nil]; rfl));have kK : Hid (∀ W', Below w.heap.size w W' → Calls Tryd.prog 39 #[tv, .int .i64 0] W' fun e w' => ∃ v', e = .returned v' ∧ OffsAt w' W'.heap.size v' (offsF K (0 + 1)) ∧ Below W'.heap.size W' w') := Lib.hid (fun W' hb' => KidsAt_any (ts := ⟨1, kids, num, text⟩ :: K.flat) (x := ⟨1, kids, num, text⟩) (i := 0) (rest := []) W' (hT.below hb') hks hts (by rw [List.append_nil]; rfl) hkn hok);have hoL := offsF_len K (0 + 1);obtain ⟨n, hn⟩ : ∃ n, n = K.count := ⟨_, rfl⟩;generalize offsF K (0 + 1) = os at *;rw [← hn] at hoL hn9;obtain ⟨ts, hts'⟩ : ∃ ts, ts = (⟨1, kids, num, text⟩ : Tw) :: K.flat := ⟨_, rfl⟩;have hxi : ∃ h : 0 < ts.length, ts[0] = ⟨1, kids, num, text⟩ := ⟨by rw [hts']; simp, by simp [hts']⟩;rw [← hts'] at hT hP hPar hts;obtain ⟨h0, hx0⟩ := hxi;obtain ⟨a, cap, rfl, -, -, h3⟩ := hT;obtain ⟨g, off, rfl, hg, hc⟩ := h3 h0;have hcT : ∀ (W : World) (i : Nat) (x : Tw) (r : List Tw), Below w.heap.size w W → ts.drop i = x :: r → (i : Int) < (ts.length : Int) ∧ W.cell? ⟨g, off + i * 4 + 3, none⟩ = some (.string ⟨x.text.toArray⟩) := by
   intro W i x r hb hd;obtain ⟨hi, hxi, _⟩ := drop_facts hd;refine ⟨by omega, (hb.cell (p := ⟨g, off + i * 4 + 3, none⟩) hg).trans ?_⟩;rw [hc i hi 3 (by decide), hxi];rfl
 have y0 := hc 0 h0 0 (by decide);have y3 := hc 0 h0 3 (by decide);rw [hx0] at y0 y3;simp only [twC, List.getElem?_cons_zero, List.getElem?_cons_succ, Nat.zero_mul, Nat.add_zero] at y0 y3;obtain ⟨m, hm⟩ : ∃ m, ts.length = m + 1 := ⟨ts.length - 1, by omega⟩;have hPP : ∃ G, G = K ∧ ParD w (.slice (some ⟨g, off, none⟩) ts.length cap) ts G ∧ Posd ts G os := ⟨K, rfl, hPar, hP.out⟩;obtain ⟨G0, hG0, hPar0, hP0⟩ := hPP;replace hcT := Lib.hid hcT;replace hPar0 := Lib.hid hPar0;replace hP0 := Lib.hid hP0;have hcl0 : Hid ((w.cell? ⟨g, off + 3, none⟩ = some (.string ⟨text.toArray⟩)) ∧ g < w.heap.size) := Lib.hid ⟨y3, hg⟩;have cX3 := fun (W' : World) (h : Below w.heap.size w W') => (h.cell (p := ⟨g, off + 3, none⟩) hg).trans y3
 have hgW := fun (W' : World) (h : w.heap.size ≤ W'.heap.size) => Nat.lt_of_lt_of_le hg h
 have hz := Nat.le_refl w.heap.size;have kt := Lib.hid (fun W => wordE_any #[102, 108, 111, 119] W);have kx := Lib.hid (fun W => wordE_any text.toArray W);have ke := Lib.hid (fun W => signE_any #[40] W);replace hoL := Lib.hid hoL;replace hn := Lib.hid hn;replace hG0 := Lib.hid hG0;replace hts' := Lib.hid hts';clear h3 hc hx0 hok hkn hks hTT hPar hP hts h0 y3;rw [hm] at kK hcT hPar0 ⊢;replace hm := Lib.hid hm;go_enter Tryd.func20, Tryd.ntmps20
 go_wp2_with fail
 go_region_held3 (fun W' => w.heap.size ≤ W'.heap.size ∧ Below w.heap.size w W')
   (first
     | exact ⟨hz, (Below.refl _ _).drew⟩
     | (go_split_ands; rename_i hq0 hq1; exact ⟨Nat.le_trans hq0 hb9.size, hq1.trans (hb9.mono hq0)⟩)
     | (go_split_ands; rename_i hq0 hq1; exact ⟨Nat.le_trans hq0 ((Below.refl _ _).alloc (Nat.le_refl _) _).size, below_next hq1 ((Below.refl _ _).alloc (Nat.le_refl _) _)⟩))
   (first
     | (go_at_call 38; refine (ke.out _).mono ?_; rintro e w9 ⟨rfl, hb9⟩)
     | (go_at_call 37; (first | (with_reducible refine (kt.out _).mono ?_) | (with_reducible refine (kx.out _).mono ?_)); rintro e w9 ⟨rfl, hb9⟩))
 all_goals
   rename_i wA hbA wB hbB hS0
   obtain ⟨hqa, hqb⟩ := hS0;have hz9 : w.heap.size ≤ w9.heap.size := Nat.le_trans hbA.size (Nat.le_trans hbB.size hb9.size);have hT9 := Lib.hid ((tgs_new w9 [wordTg [102, 108, 111, 119], wordTg text, signTg [40]] (cs := #[.int .u8 1, .string ⟨#[102, 108, 111, 119]⟩, .int .i64 0, .int .i64 0, .int .u8 1, .string ⟨text.toArray⟩, .int .i64 0, .int .i64 0, .int .u8 4, .string ⟨#[40]⟩, .int .i64 0, .int .i64 0]) rfl (n := 3) rfl (q := w9.heap.size) rfl (by simp)).low (b := w.heap.size) hz9);have hq1 : Hid (w9.heap.size < (w9.alloc (.cells #[.int .u8 1, .string ⟨#[102, 108, 111, 119]⟩, .int .i64 0, .int .i64 0, .int .u8 1, .string ⟨text.toArray⟩, .int .i64 0, .int .i64 0, .int .u8 4, .string ⟨#[40]⟩, .int .i64 0, .int .i64 0] 35)).heap.size) := Lib.hid (by simp);have kK2 := Lib.hid (kK.out _ hqb);have hb2 := Lib.hid hqb;clear hbA hbB hb9 hqa hqb kK kt kx ke cX3 hgW hz y0 hz9 hm;go_wp2_with fail
   refine kK2.out.mono ?_;rintro e2 w2 ⟨kv, rfl, hko, hb3⟩;have hT2 := Lib.hid (hT9.out.below hb3);have hB2 := Lib.hid (below_next hb2.out hb3);have hKI := Lib.hid (kidsIn_offs hko);have hAp : Hid (Apart10 (.slice (some ⟨w9.heap.size, 0, none⟩) 3 3) kv) := Lib.hid (fun g hg hk => by
     have h1 := (World.ownsRow.lt hko g hk).1;have h2 := hq1.out;injection hg with e;have e' : w9.heap.size = g := e;omega)
   obtain ⟨ka, kc, rfl, _, _⟩ := id hko.shape;rw [hoL.out] at hKI hAp ⊢;clear hko hb3 kK2 hT9 hb2 hq1;generalize w9.heap.size = q1 at *;go_wp2_with fail
   go_loopw [3, 5] (fun t3 t5 wr => ∃ (j : Nat) (G : Fs) (A : List Tg), Hid (j + G.count = n) ∧ t5 = .int .i64 j ∧ Hid (ParD w (.slice (some ⟨g, off, none⟩) (m + 1) cap) ts G) ∧ Hid (Posd ts G (os.drop j)) ∧ Hid (A ++ paramS j G = paramS 0 K) ∧ Hid (TgsAt wr w.heap.size t3 ([wordTg [102, 108, 111, 119], wordTg text, signTg [40]] ++ A)) ∧ Hid (KidsIn wr (.slice ka n kc) os) ∧ Hid (Apart10 t3 (.slice ka n kc)) ∧ Hid (Below w.heap.size w wr)) (fun _ t5 _ => n - (intOf t5).toNat)
   case atStart => exact ⟨0, G0, [], Lib.hid (by rw [hG0.out, ← hn.out]; omega), rfl, hPar0, hP0, Lib.hid (by rw [hG0.out]; rfl), hT2, hKI, hAp, hB2⟩
   case round =>
     obtain ⟨j, G, A, hj, rfl, hG, hPG, hA, hT, hK, hAp', hB⟩ := hrel;have hAl : A.length ≤ 1000000 := by
       have := congrArg List.length hA.out;rw [List.length_append] at this;omega
     cases G with
     | nil => exact hG.out.elim
     | cons x k r =>
       have hcc : (Fs.cons x k r).count = r.count + 1 := rfl;have hjj : j + 1 + r.count = n := by have := hj.out; omega
       have hjl : j < os.length := by rw [hoL.out]; omega
       have hd : os.drop j = os[j] :: os.drop (j + 1) := List.drop_eq_getElem_cons hjl;have hP0 := hPG.out;rw [hd] at hP0;obtain ⟨⟨rest, hdr⟩, hPr⟩ := hP0;obtain ⟨ka', kc', e0, hkc⟩ := id hK.out;simp only [Value.slice.injEq] at e0;obtain ⟨rfl, -, -⟩ := e0;obtain ⟨g2, off2, ea, hgr, hcl⟩ := hkc j hjl;subst ea;obtain ⟨hpi, hcx⟩ := hcT.out wr _ _ _ hB.out hdr;have hgw : g < wr.heap.size := Nat.lt_of_lt_of_le hcl0.out.2 hB.out.size;generalize os[j] = p at *;replace hPr := Lib.hid hPr;cases r with
       | nil =>
         have hjn : j + 1 = n := hjj;have hlti : ¬ ((j : Int) + 1 < (n : Int)) := by omega
         have hnj : (n : Int) - 1 = (j : Int) := by omega
         have hnl : (j : Int) < (n : Int) := by omega
         obtain ⟨hS, hne, hbl⟩ := hG.out;have hA0 := Lib.hid (show A ++ (signTg [41] :: bareS x k) = paramS 0 K from hA.out);have kE := Lib.hid (signE_any #[41] wr);replace hS := Lib.hid hS;replace hdr := Lib.hid hdr;replace hcl := Lib.hid hcl;clear hj hA hG hPG hd hkc hcx hcc hPr;go_wp2_with fail
         with_reducible refine kE.out.mono ?_
         rintro e3 w3 ⟨rfl, hb3⟩;have hal := (Below.refl w3.heap.size w3).alloc (Nat.le_refl _) (.cells #[.int .u8 4, .string ⟨#[41]⟩, .int .i64 0, .int .i64 0] 35);have hN3 := Lib.hid (tgs_new w3 [signTg [41]] (cs := #[.int .u8 4, .string ⟨#[41]⟩, .int .i64 0, .int .i64 0]) rfl (n := 1) rfl (q := w3.heap.size) rfl (by simp));have hT3 := Lib.hid ((hT.out.below hb3).below hal);have hl3 := Lib.hid (below_next hb3 hal);have hB3 := Lib.hid (below_next hB.out hl3.out);have hsz := hB3.out.size;have hg3 := Lib.hid (Nat.lt_of_lt_of_le hgr hl3.out.size);have hc3 := Lib.hid ((hl3.out.cell (p := ⟨g2, off2 + j, none⟩) hgr).trans hcl.out);clear hb3 hal kE hT hB hcl hgr hK hl3 hgw;go_wp2_with (at_builtin; (refine wpList_append_tga rfl _ _ rfl rfl hT3.out rfl hN3.out (by simp) (by simp only [List.length_append, List.length_cons, List.length_nil]; omega) (by simp) hsz ?_; intro v5 w5 h5 hb5 ho5 hv5; have hB5 := Lib.hid (hB3.out.trans hb5); have hc5 : w5.cell? ⟨g2, off2 + j, none⟩ = some (.int .i64 (p : Int)) := (ho5.cell (p := ⟨g2, off2 + j, none⟩) hg3.out (fun hv => hAp'.out g2 hv rfl)).trans hc3.out; have hg5 : g2 < w5.heap.size := Nat.lt_of_lt_of_le hg3.out ho5.size; replace h5 := Lib.hid h5; clear hb5 ho5 hv5 hsz hT3 hN3))
         have kB := Lib.hid (hS.out w5 p rest hB5.out hdr.out);clear hS hdr hc5 hg5 hB3;refine kB.out.mono ?_;rintro e6 w6 ⟨v6, rfl, h6, hb6⟩;have hT6 := Lib.hid (h5.out.below hb6);have hB6 := Lib.hid (below_next hB5.out hb6);have hsz6 := hB6.out.size;replace h6 := Lib.hid h6;clear kB hb6 h5 hB5;go_wp2_with (at_builtin; (refine wpList_append_tgr rfl _ _ rfl rfl hT6.out rfl h6.out hne (by simp only [List.length_append, List.length_cons, List.length_nil]; omega) (by omega) hsz6 ?_; intro v7 w7 h7 hb7))
         go_ret
         refine ⟨_, rfl, ?_, hB6.out.trans hb7⟩;rw [← hA0.out];have e7 : wordTg [102, 108, 111, 119] :: wordTg text :: signTg [40] :: (A ++ signTg [41] :: bareS x k) = [wordTg [102, 108, 111, 119], wordTg text, signTg [40]] ++ A ++ [signTg [41]] ++ bareS x k := by simp
         rw [e7];exact h7
       | cons y k' r' =>
         have hc2 : (Fs.cons y k' r').count = r'.count + 1 := rfl;have hlti : (j : Int) + 1 < (n : Int) := by omega
         have hnl : (j : Int) < (n : Int) := by omega
         obtain ⟨hbx, hGr⟩ := hG.out;have hA0 := hA.out;rw [show paramS j (.cons x k (.cons y k' r')) = (comma j).1 ++ bareS x k ++ paramS (j + 1) (.cons y k' r') from rfl, hbx] at hA0;obtain ⟨xop, xk, xn, xt⟩ := x;dsimp only at hcx hA0;replace hGr := Lib.hid hGr;replace hdr := Lib.hid hdr;clear hj hcc hPG hA hG hd hbx hkc;by_cases h0 : j = 0
         · have hgt : ¬ (0 : Int) < (j : Int) := by omega
           have ec : (comma j).1 = [] := by unfold comma; rw [if_pos h0]
           rw [ec, List.nil_append, ← List.append_assoc] at hA0;have kE := Lib.hid (wordE_any xt.toArray wr);replace hA0 := Lib.hid hA0;clear h0 ec;go_wp2_with fail
           with_reducible refine kE.out.mono ?_
           rintro e3 w3 ⟨rfl, hb3⟩;have hal := (Below.refl w3.heap.size w3).alloc (Nat.le_refl _) (.cells #[.int .u8 1, .string ⟨xt.toArray⟩, .int .i64 0, .int .i64 0] 35);have hN3 := Lib.hid (tgs_new w3 [wordTg xt] (cs := #[.int .u8 1, .string ⟨xt.toArray⟩, .int .i64 0, .int .i64 0]) rfl (n := 1) rfl (q := w3.heap.size) rfl (by simp));have hT3 := Lib.hid ((hT.out.below hb3).below hal);have hl3 := Lib.hid (below_next hb3 hal);have hB3 := Lib.hid (below_next hB.out hl3.out);have hK3 := Lib.hid (hK.out.below hl3.out);have hgz := Lib.hid (Nat.lt_of_lt_of_le hgr hl3.out.size);have hsz := hB3.out.size;clear hb3 hal kE hT hB hcl hgr hl3 hK hgw hcx hpi;go_wp2_with (at_builtin; (refine wpList_append_tga rfl _ _ rfl rfl hT3.out rfl hN3.out (by simp) (by simp only [List.length_append, List.length_cons, List.length_nil]; omega) (by simp) hsz ?_; intro v5 w5 h5 hb5 ho5 hv5))
           have hB5 := Lib.hid (hB3.out.trans hb5);have hK5 := Lib.hid (hK3.out.only ho5 hAp'.out);have hA5 := Lib.hid (apart10_new hAp'.out hv5 (fun g' e => by
             injection e with e';have e2 : g2 = g' := e';have := hgz.out;omega))
           rw [List.append_assoc] at h5;replace h5 := Lib.hid h5;clear hb5 ho5 hv5 hK3 hAp';go_wp2_with fail
           go_roundw
           case rel => exact ⟨j + 1, .cons y k' r', A ++ [wordTg xt], Lib.hid hjj, by go_num, hGr, hPr, hA0, h5, hK5, hA5, hB5⟩
           case measure => simp [intOf]; omega
         · have hgt : (0 : Int) < (j : Int) := by omega
           have ec : (comma j).1 = [signTg [44]] := by unfold comma; rw [if_neg h0]; rfl
           rw [ec] at hA0;have hA1 : (A ++ [signTg [44], wordTg xt]) ++ paramS (j + 1) (.cons y k' r') = paramS 0 K := by
             rw [← hA0];simp
           replace hA1 := Lib.hid hA1;have kC := Lib.hid (signE_any #[44] wr);clear h0 ec hA0;go_wp2_with fail
           with_reducible refine kC.out.mono ?_
           rintro e2 w4 ⟨rfl, hb4⟩;have hal := (Below.refl w4.heap.size w4).alloc (Nat.le_refl _) (.cells #[.int .u8 4, .string ⟨#[44]⟩, .int .i64 0, .int .i64 0] 35);have hN4 := Lib.hid (tgs_new w4 [signTg [44]] (cs := #[.int .u8 4, .string ⟨#[44]⟩, .int .i64 0, .int .i64 0]) rfl (n := 1) rfl (q := w4.heap.size) rfl (by simp));have hT4 := Lib.hid ((hT.out.below hb4).below hal);have hl4 := Lib.hid (below_next hb4 hal);have hB4 := Lib.hid (below_next hB.out hl4.out);have hK4 := Lib.hid (hK.out.below hl4.out);have hg4 := Lib.hid (Nat.lt_of_lt_of_le hgr hl4.out.size);have hc4 := Lib.hid ((hl4.out.cell (p := ⟨g2, off2 + j, none⟩) hgr).trans hcl);have hsz := hB4.out.size;clear hb4 hal kC hT hB hcl hgr hl4 hK hgw hcx;go_wp2_with (at_builtin; (refine wpList_append_tga rfl _ _ rfl rfl hT4.out rfl hN4.out (by simp) (by simp only [List.length_append, List.length_cons, List.length_nil]; omega) (by simp) hsz ?_; intro v5 w5 h5 hb5 ho5 hv5; have hB5 := Lib.hid (hB4.out.trans hb5); have hc5 : w5.cell? ⟨g2, off2 + j, none⟩ = some (.int .i64 (p : Int)) := (ho5.cell (p := ⟨g2, off2 + j, none⟩) hg4.out (fun hv => hAp'.out g2 hv rfl)).trans hc4.out; have hg5 : g2 < w5.heap.size := Nat.lt_of_lt_of_le hg4.out ho5.size; have hcx5 : w5.cell? ⟨g, off + p * 4 + 3, none⟩ = some (.string ⟨xt.toArray⟩) := (hcT.out w5 _ _ _ hB5.out hdr.out).2; have hgw5 : g < w5.heap.size := Nat.lt_of_lt_of_le hcl0.out.2 hB5.out.size; have hK5 := Lib.hid (hK4.out.only ho5 hAp'.out); have hA5 := Lib.hid (apart10_new hAp'.out hv5 (fun g' e => by (injection e with e'; have e2 : g2 = g' := e'; have := hg4.out; omega))); replace h5 := Lib.hid h5; clear hb5 ho5 hv5 hsz hT4 hN4 hK4 hAp'))
           have kE := Lib.hid (wordE_any xt.toArray w5)
           with_reducible refine kE.out.mono ?_
           rintro e3 w3 ⟨rfl, hb3⟩;have hal := (Below.refl w3.heap.size w3).alloc (Nat.le_refl _) (.cells #[.int .u8 1, .string ⟨xt.toArray⟩, .int .i64 0, .int .i64 0] 35);have hN3 := Lib.hid (tgs_new w3 [wordTg xt] (cs := #[.int .u8 1, .string ⟨xt.toArray⟩, .int .i64 0, .int .i64 0]) rfl (n := 1) rfl (q := w3.heap.size) rfl (by simp));have hT3 := Lib.hid ((h5.out.below hb3).below hal);have hl3 := Lib.hid (below_next hb3 hal);have hB3 := Lib.hid (below_next hB5.out hl3.out);have hK3 := Lib.hid (hK5.out.below hl3.out);have hgz := Lib.hid (Nat.lt_of_lt_of_le hg5 hl3.out.size);have hsz3 := hB3.out.size;clear hb3 hal kE h5 hl3 hK5 hgw5 hcx5 hpi hc5 hg5 hB5 hB4;go_wp2_with (at_builtin; (refine wpList_append_tga rfl _ _ rfl rfl hT3.out rfl hN3.out (by simp) (by simp only [List.length_append, List.length_cons, List.length_nil]; omega) (by simp) hsz3 ?_; intro v7 w7 h7 hb7 ho7 hv7))
           have hB7 := Lib.hid (hB3.out.trans hb7);have hK7 := Lib.hid (hK3.out.only ho7 hA5.out);have hA7 := Lib.hid (apart10_new hA5.out hv7 (fun g' e => by
             injection e with e';have e2 : g2 = g' := e';have := hgz.out;omega))
           have e8 : [wordTg [102, 108, 111, 119], wordTg text, signTg [40]] ++ (A ++ [signTg [44], wordTg xt]) = [wordTg [102, 108, 111, 119], wordTg text, signTg [40]] ++ A ++ [signTg [44]] ++ [wordTg xt] := by simp
           have h7' : Hid (TgsAt w7 w.heap.size v7 ([wordTg [102, 108, 111, 119], wordTg text, signTg [40]] ++ (A ++ [signTg [44], wordTg xt]))) := Lib.hid (by rw [e8]; exact h7);clear hb7 ho7 hv7 hK3 hA5 h7 e8;go_wp2_with fail
           go_roundw
           case rel => exact ⟨j + 1, .cons y k' r', A ++ [signTg [44], wordTg xt], Lib.hid hjj, by go_num, hGr, hPr, hA1, h7', hK7, hA7, hB7⟩
           case measure => simp [intOf]; omega
end
end Go.Proofs.YtjiemkidmlgbeaaDoor
