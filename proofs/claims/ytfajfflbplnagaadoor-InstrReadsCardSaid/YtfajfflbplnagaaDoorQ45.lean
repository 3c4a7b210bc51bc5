/- A part of the proof: JDRead, ISame, BOpen, GWdL. No condition. -/
import Derived.BigQuiet
import Derived.LoopTactic
import Derived.IntWalk
import Derived.ProofKit
import Derived.OpenShut
import Derived.SizedLaws
import Derived.Carry
import Derived.ChangeSame
import Derived.Stop.LaidErr
import Derived.Lib.LaidTab
import Derived.Test.YtfajfflbplnagaaDoorQ04
import Derived.Test.YtfajfflbplnagaaDoorQ07
import Derived.Test.YtfajfflbplnagaaDoorQ32
import Derived.Test.YtfajfflbplnagaaDoorQ43
import Derived.Test.YtfajfflbplnagaaDoorQ44
set_option linter.unusedVariables false
set_option linter.unusedSimpArgs false
namespace Go.Proofs.YtfajfflbplnagaaDoor
open Go.RowKit Go.Shelf
theorem textTo_le {L : Nat} {r : Rn} (h : r.to ≤ L) : textTo L r ≤ L := by
 unfold textTo;split
 · split <;> omega
 · exact h
theorem insR_to {f : Nat → Nat} {L n p : Nat} (hp : p ≤ L) (hf : ∀ j, j < L → f j < 256) : (insR f L n p).to ≤ L := by
 unfold insR;split
 · exact Nat.le_refl _
 · rename_i c
   have h1 : (aR f L (f p) (p + 1)).to ≤ L := by
     unfold aR;split
     · show p + 1 ≤ L; omega
     · exact (numR_to (by omega) (fun j _ hj => hf j hj)).1
   generalize (aR f L (f p) (p + 1)) = A at *;have h2 : (nR f L (f p) A.to).to ≤ L := by
     unfold nR;split
     · exact (numR_to h1 (fun j _ hj => hf j hj)).1
     · exact h1
   generalize (nR f L (f p) A.to) = B at *;have h3 : tTo f L (f p) B.to ≤ L := by
     unfold tTo;split
     · exact textTo_le (numR_to h2 (fun j _ hj => hf j hj)).1
     · exact h2
   split
   · exact h1
   · split
     · exact h2
     · split
       · exact h3
       · split
         · exact h3
         · exact hp
set_option maxRecDepth 20000 in
set_option maxHeartbeats 4000000 in
theorem refRead_any {w : World} {L cap : Nat} {a : Option Addr} {f : Nat → Nat} (h : By w a L f) (hlc : L ≤ cap) (hcm : cap ≤ 9223372036854775807) (hnl : a = none → cap = 0) (hL : L ≤ 20000) :
   Calls Tryd.prog 6 #[.slice a L cap] w fun e w' => ∃ lv, e = .returned (.tuple #[lv, .int .i64 (readR f L).2.1, .int .i64 (readR f L).2.2]) ∧ InsAt w' w.heap.size lv (readR f L).1 ∧ Below w.heap.size w w' := by
 have hBy := Lib.hid (fun (W : World) (hb : Below w.heap.size w W) => h.kept (F := fun _ => False) (Only.of_below hb) (fun _ _ _ e => e));have hf := Lib.hid (fun j (hj : j < L) => h.lt j hj);obtain ⟨Z, hZ⟩ := exHid (readR f L);rw [hZ.out];have hz := hZ.out;unfold readR at hz;have kU := refUint_any h hlc hcm hL (Nat.zero_le L);have hr := numR_range (f := f) (L := L) (p := 0) (Nat.zero_le _) (fun j _ hj => h.lt j hj);obtain ⟨r, hrr⟩ := exHid (numR f L 0);rw [hrr.out] at kU hr hz;obtain ⟨n, q, c⟩ := r;dsimp only at kU hr hz;have hq : q ≤ L := hr.2.1;replace hr := Lib.hid hr.1;replace kU := Lib.hid kU;clear hrr h hZ;by_cases c0 : c ≠ 0
 · rw [if_pos c0] at hz
   subst hz;have qe : ((c : Int) != 0) = true := bne_iff_ne.2 (by omega);clear c0;go_enter Tryd.func6, Tryd.ntmps6
   go_wp2_with fail
   refine kU.out.mono ?_;rintro e w1 ⟨rfl, hw⟩;subst hw;go_wp2_with fail
   refine bodyPost_ret (v := .tuple #[.slice none 0 0, .int .i64 q, .int .i64 c]) (by kernel_rfl) rfl ⟨_, rfl, World.ownsRow_nil _ _ _ _, Below.refl _ _⟩
 · rw [if_neg c0] at hz
   have hc0 : c = 0 := by omega
   subst hc0;clear c0;by_cases c1 : 8192 < n
   · rw [if_pos c1] at hz
     subst hz;have ci : (8192 : Int) < (n : Int) := by omega
     clear c1;go_enter Tryd.func6, Tryd.ntmps6
     go_wp2_with fail
     refine kU.out.mono ?_;rintro e w1 ⟨rfl, hw⟩;subst hw;go_wp2_with fail
     refine bodyPost_ret (v := .tuple #[.slice none 0 0, .int .i64 0, .int .i64 2]) (by kernel_rfl) rfl ⟨_, rfl, World.ownsRow_nil _ _ _ _, Below.refl _ _⟩
   · rw [if_neg c1] at hz
     have ci : ¬ (8192 : Int) < (n : Int) := by omega
     have cn : (n : Int) ≤ 8192 := by omega
     have hn := Lib.hid (show n ≤ 8192 by omega);replace hz := Lib.hid hz;clear c1;go_enter Tryd.func6, Tryd.ntmps6
     go_wp2_with fail
     refine kU.out.mono ?_;rintro e w1 ⟨rfl, hw⟩;subst hw;go_wp2_with fail
     go_loopw [6, 8, 9] (fun t6 t8 t9 wr => ∃ (l : List Ins) (q : Nat), Hid (InsAt wr w.heap.size t8 l) ∧ t6 = .int .i64 q ∧ t9 = .int .i64 l.length ∧ l.length ≤ n ∧ q ≤ L ∧ Hid (goR f L n (n - l.length) q l = Z) ∧ Hid (Below w.heap.size w wr)) (fun _ _ t9 _ => n - (intOf t9).toNat)
     case atStart => exact ⟨[], q, Lib.hid (World.ownsRow_nil _ _ _ _), rfl, rfl, Nat.zero_le _, hq, hz, Lib.hid (Below.refl _ _)⟩
     case round =>
       obtain ⟨l, q, hI, rfl, rfl, hl, hq, hG, hB⟩ := hrel;obtain ⟨la, lc, rfl, hc1, hc2⟩ := id hI.out.shape;by_cases hlt : l.length < n
       · have qi : (l.length : Int) < (n : Int) := by omega
         have hG1 := hG.out;rw [show n - l.length = (n - (l.length + 1)) + 1 by omega] at hG1;unfold goR at hG1;have kO := one_any (p := q) (n := n) (hBy.out _ hB.out) hlc hcm hnl hL hq hn.out;have hle := insR_to (f := f) (L := L) (n := n) (p := q) hq hf.out;obtain ⟨X, hX⟩ := exHid (insR f L n q);rw [hX.out] at hG1 kO hle;have kO := Lib.hid (kO.mono fun e w' h => show ∃ XO XA XN XT, e = .returned (.tuple #[.agg #[.int .u8 (XO : Nat), .int .i64 XA, .int .i64 XN, .string ⟨List.toArray XT⟩], .int .i64 X.to, .int .i64 X.code]) ∧ Below wr.heap.size wr w' ∧ (X.code = 0 → (⟨XO, XA, XN, XT⟩ : Ins) = X.x) from by obtain ⟨h1, ⟨x1, x2, x3, x4⟩, h2, h3⟩ := h; exact ⟨x1, x2, x3, x4, h2, h1, h3⟩);obtain ⟨XX, XP, XC⟩ := X;dsimp only at hG1 kO hle;clear hG hX;by_cases e : XC ≠ 0
         · rw [if_pos e] at hG1
           subst hG1;have qe : ((XC : Int) != 0) = true := bne_iff_ne.2 (by omega);clear e;go_wp2_with fail
           refine kO.out.mono ?_;rintro e w5 ⟨XO, XA, XN, XT, rfl, hb5, hx⟩;have hb6 := Lib.hid (hB.out.trans ((hb5.mono hB.out.size).trans (((Below.refl w5.heap.size w5).alloc (Nat.le_refl _) (.cells #[.int .u8 XO, .int .i64 XA, .int .i64 XN, .string ⟨XT.toArray⟩] 40)).mono (Nat.le_trans hB.out.size hb5.size))));clear kO hb5 hx hI;go_wp2_with fail
           refine bodyPost_ret (v := .tuple #[.slice none 0 0, .int .i64 XP, .int .i64 XC]) (by kernel_rfl) rfl ⟨_, rfl, World.ownsRow_nil _ _ _ _, hb6.out⟩
         · rw [if_neg e] at hG1
           have qe : XC = 0 := by omega
           subst qe;replace hG1 := Lib.hid hG1;clear e;go_wp2_with fail
           refine kO.out.mono ?_;rintro e w5 ⟨XO, XA, XN, XT, rfl, hb5, hx⟩;obtain ⟨C, hC⟩ := exHid (Obj.cells #[.int .u8 (XO : Nat), .int .i64 XA, .int .i64 XN, .string ⟨XT.toArray⟩] 40);have hb6 := ((Below.refl w5.heap.size w5).alloc (Nat.le_refl _) C).alloc (by simp) C;have hI6 := (hI.out.below hb5).below hb6;have hB6 := hB.out.trans ((hb5.mono hB.out.size).trans (hb6.mono (Nat.le_trans hB.out.size hb5.size)));have hz6 := hB6.size;have hu : InsIn ((w5.alloc C).alloc C) (.slice (some ⟨w5.heap.size + 1, 0, none⟩) [(⟨XO, XA, XN, XT⟩ : Ins)].length 1) [⟨XO, XA, XN, XT⟩] := by
             refine ⟨_, 1, rfl, Nat.le_refl _, by decide, fun _ => ⟨w5.heap.size + 1, 0, rfl, by simp, fun i hi c hc => ?_⟩⟩;have hi0 : i = 0 := by simp at hi; omega
             subst hi0;rw [show 0 + 0 * 4 + c = c by omega, ← hC.out];have e1 := cellJ (heap_alloc_new (w5.alloc (Obj.cells #[.int .u8 (XO : Nat), .int .i64 XA, .int .i64 XN, .string ⟨XT.toArray⟩] 40)) (.cells #[.int .u8 (XO : Nat), .int .i64 XA, .int .i64 XN, .string ⟨XT.toArray⟩] 40)) c;have e2 : (w5.alloc (Obj.cells #[.int .u8 (XO : Nat), .int .i64 XA, .int .i64 XN, .string ⟨XT.toArray⟩] 40)).heap.size = w5.heap.size + 1 := by simp
             rw [e2] at e1;rw [e1];simp [insC]
           rw [← hC.out] at hb6 hI6 hB6 hz6 hu;replace hI6 := Lib.hid hI6;replace hB6 := Lib.hid hB6;replace hu := Lib.hid hu;have hxx := Lib.hid (hx (by simp));have hln := hn.out;clear kO hb5 hI hB hx hb6 hC C;go_wp2_with (at_builtin; (refine wpList_append_inss (base := w.heap.size) (us := [(⟨XO, XA, XN, XT⟩ : Ins)]) rfl _ _ rfl rfl hI6.out rfl hu.out (by omega) (by simp) hz6 ?_; intro a7 cap7 w7 hI7 hb7))
           have hB7 := Lib.hid (hB6.out.trans hb7);replace hI7 := Lib.hid hI7;clear hB6 hb7 hu hI6;go_roundw
           case rel => exact ⟨l ++ [⟨XO, XA, XN, XT⟩], XP, hI7, rfl, by simp, by rw [List.length_append, List.length_singleton]; omega, hle, Lib.hid (by rw [List.length_append, List.length_singleton, hxx.out]; exact hG1.out), hB7⟩
           case measure => simp [intOf]; omega
       · have qi : ¬ (l.length : Int) < (n : Int) := by omega
         have hG1 := hG.out;rw [show n - l.length = 0 by omega] at hG1;unfold goR at hG1;by_cases c : q < L
         · have ci2 : (q : Int) < (L : Int) := by omega
           rw [if_pos c] at hG1;subst hG1;clear hG c;go_wp2_with fail
           refine bodyPost_ret (v := .tuple #[.slice none 0 0, .int .i64 q, .int .i64 3]) (by kernel_rfl) rfl ⟨_, rfl, World.ownsRow_nil _ _ _ _, hB.out⟩
         · have ci2 : ¬ (q : Int) < (L : Int) := by omega
           rw [if_neg c] at hG1;subst hG1;clear hG c;go_wp2_with fail
           refine bodyPost_ret (v := .tuple #[.slice la l.length lc, .int .i64 q, .int .i64 0]) (by kernel_rfl) rfl ⟨_, rfl, hI.out, hB.out⟩
end Go.Proofs.YtfajfflbplnagaaDoor
namespace Go.Proofs.YtfajfflbplnagaaDoor
open Go.RowKit
set_option maxRecDepth 20000 in
set_option maxHeartbeats 1000000 in
theorem same_ins {w : World} {v1 v2 : Value} {ts : List Ins} (h1 : InsIn w v1 ts) (h2 : InsIn w v2 ts) :
   Calls Tryd.prog 7 #[v1, v2] w fun e w' => e = .returned (.bool true) ∧ Below w.heap.size w w' := by
 obtain ⟨a1, cap1, rfl, _, _, k1⟩ := h1;obtain ⟨a2, cap2, rfl, hlc, hcm, k2⟩ := h2;have hne : ((ts.length : Int) != (ts.length : Int)) = false := by simp
 replace k1 := Lib.hid k1;replace k2 := Lib.hid k2;go_enter Tryd.func7, Tryd.ntmps7
 go_wp2
 go_loopw [5] (fun t5 wr => ∃ i : Nat, i ≤ ts.length ∧ t5 = .int .i64 i ∧ Below w.heap.size w wr) (fun t5 _ => ts.length - (intOf t5).toNat)
 case atStart => exact ⟨0, by omega, rfl, Below.refl _ _⟩
 case round =>
   obtain ⟨i, hi, rfl, hbw⟩ := hrel;rcases Nat.lt_or_ge i ts.length with hlt | hge
   · obtain ⟨b1, o1, rfl, hl1, hc1⟩ := k1.out (by omega)
     obtain ⟨b2, o2, rfl, hl2, hc2⟩ := k2.out (by omega);have hlti : (i : Int) < (ts.length : Int) := by omega
     have x1 := fun n c (h : c < 4) => ((below_drewN hbw n).cell (p := ⟨b1, o1 + i * 4 + c, none⟩) hl1).trans (hc1 i hlt c h)
     have x2 := fun n c (h : c < 4) => ((below_drewN hbw n).cell (p := ⟨b2, o2 + i * 4 + c, none⟩) hl2).trans (hc2 i hlt c h)
     generalize ts[i] = t at *;obtain ⟨op, kids, num, text⟩ := t;have p0 := fun n => x1 n 0 (by omega); have p1 := fun n => x1 n 1 (by omega); have p2 := fun n => x1 n 2 (by omega); have p3 := fun n => x1 n 3 (by omega)
     have q0 := fun n => x2 n 0 (by omega); have q1 := fun n => x2 n 1 (by omega); have q2 := fun n => x2 n 2 (by omega); have q3 := fun n => x2 n 3 (by omega)
     simp only [insC, List.getElem?_cons_succ, List.getElem?_cons_zero, Nat.add_zero] at p0 p1 p2 p3 q0 q1 q2 q3;clear x1 x2 hc1 hc2;replace hbw := Lib.hid hbw;go_wp2
     go_quiet (fail)
     go_wp2
     go_roundw
     case rel => exact ⟨i + 1, by omega, by go_num, below_drewN hbw.out _⟩
     case measure => simp [intOf]; omega
   · obtain rfl : i = ts.length := by omega
     have hlti : ¬ ((ts.length : Int) < (ts.length : Int)) := by omega
     go_wp2
     go_ret
     exact ⟨rfl, hbw⟩
end Go.Proofs.YtfajfflbplnagaaDoor
namespace Go.Proofs.YtfajfflbplnagaaDoor
open Go.RowKit Go.ChangeShapes Go.WideShapes
def BytesIn (w : World) (v : Value) : Prop :=
 ∃ (a : Option Addr) (L cap : Nat) (f : Nat → Nat), v = .slice a L cap ∧ By w a L f ∧ L ≤ cap ∧ cap ≤ 9223372036854775807 ∧ (a = none → cap = 0)
theorem bytesIn_of_trod {H : Type} {enc : TypeId × Value → H} {P : Program} {W : World} {t e : TypeId} {v : Value} {d : DataW H} {ps : List MemPlace}
   (ht : P.underlying t = some (.slice e)) (he : P.underlying e = some (.int .u8)) (hc : P.cellsOf e = 1)
   (hv : ∃ a len cap, v = .slice a len cap) (h : DataW.Trod enc P W 0 (fun _ => true) true t v d ps) : BytesIn W v := by
 obtain ⟨a0, len, cap, rfl⟩ := hv;obtain ⟨fuel, hf⟩ := h;rcases open_ints ht he hc hf with ⟨hcs, _⟩ | ⟨a, len', cap', zs, hcs, _, hl, hm, hz, _, hcell, hwf⟩
 · simp [Value.cells] at hcs
   obtain ⟨rfl, rfl, rfl⟩ := hcs;exact ⟨_, _, _, fun _ => 0, rfl, fun h => by omega, by omega, by omega, fun _ => rfl⟩
 · simp [Value.cells] at hcs
   obtain ⟨rfl, rfl, rfl⟩ := hcs;simp only [if_true] at hz;have hzl : len ≤ zs.length := by omega
   refine ⟨_, len, cap, fun j => (zs.getD j 0).toNat, rfl, fun h0 => ?_, hl, hm, fun h => by cases h⟩;obtain ⟨b, off, spot⟩ := a;have hspot : spot = none := by simpa [Addr.add] using World.cell?_spot (hcell 0 (by omega))
   subst hspot;refine ⟨b, off, rfl, ?_, fun j hj => ?_⟩
   · have := hcell 0 (by omega)
     rw [add_plain] at this;exact World.block_lt_of_cell? W _ this
   · have h1 := hcell j (by omega)
     rw [add_plain] at h1;have hw := hwf (zs.getD j 0) (by rw [List.getD_eq_getElem?_getD, List.getElem?_eq_getElem (by omega)]; exact List.getElem_mem _);simp [Lit.wf, IntKind.min, IntKind.max, IntKind.signed, IntKind.bits] at hw
     have e1 : zs.getD j 0 = (((zs.getD j 0).toNat : Nat) : Int) := by
       have := hw.1;simp [List.getD_eq_getElem?_getD] at this ⊢
       omega
     refine ⟨?_, ?_⟩
     · rw [h1, ← e1]
     · have := hw.2
       simp [List.getD_eq_getElem?_getD] at this ⊢
       omega
end Go.Proofs.YtfajfflbplnagaaDoor
namespace Go.Proofs.YtfajfflbplnagaaDoor
open Go.RowKit Go.ChangeShapes
theorem cells_of_strs {H : Type} {enc : TypeId × Value → H} {P : Program} {w : World} {base : Nat} {sp : Nat → Bool} {held : Bool} {fuel : Nat} {t e : TypeId} {n : Nat} {cs : List Value} {zs : List (List UInt8)} {p : List MemPlace}
   (ht : P.underlying t = some (.array n e)) (he : P.underlying e = some .string) (hce : P.cellsOf e = 1) (hct : P.cellsOf t = n)
   (h : DataW.trod enc P w base sp held fuel t cs = some (.agg (zs.map fun z => .lit (.string z)), p)) : cs = zs.map fun z => Value.string ⟨z.toArray⟩ := by
 cases fuel with
 | zero => simp [DataW.trod] at h
 | succ fuel =>
   simp only [DataW.trod, ht, hce, hct, Nat.mul_one] at h;split at h
   · rename_i hl
     obtain ⟨xs, hm, hx⟩ := Option.map_eq_some_iff.1 h;have hxs : xs.map (·.1) = zs.map fun z => (DataW.lit (.string z) : DataW H) := by
       have := congrArg Prod.fst hx
       simpa using this
     have hxl : xs.length = n := by simpa using Lib.mapM_length hm
     have hzl : zs.length = n := by
       have := congrArg List.length hxs;simp at this
       omega
     apply List.ext_getElem?
     intro i;by_cases hi : i < n
     · obtain ⟨b, hb, hf⟩ := Lib.mapM_at hm i i (by simp [hi])
       obtain ⟨z, hc, rfl, _⟩ := DataW.trod_string he hf;have h1 : cs[i]? = some (.string z) := by
         have := congrArg (·[0]?) hc
         simpa [List.getElem?_take, List.getElem?_drop] using this
       have h2 : (xs.map (·.1))[i]? = some (DataW.lit (.string z.data.toList) : DataW H) := by simp [hb]
       rw [hxs] at h2;simp only [List.getElem?_map, Option.map_eq_some_iff, DataW.lit.injEq, Lit.string.injEq] at h2;obtain ⟨z', hz', h3⟩ := h2;subst h3;simp [h1, hz']
     · rw [List.getElem?_eq_none (by omega), List.getElem?_eq_none (by simp; omega)]
   · cases h
theorem words_num : Tryd.prog.globalNamed "prompter/instr.words" = some 0 := by kernel_rfl
theorem wordsOK_of {r : List (String × DataW Unit)} {W : World} (h : laidMet Tryd.prog (("prompter/instr.words", .agg (wordL.map fun z => .lit (.string z))) :: r) W) : WordsOK W := by
 obtain ⟨ps, ⟨g', t', cs, fuel, p, q, hg', ht', hvar, hd, _, _⟩, _⟩ := h;obtain rfl := Option.some.inj (words_num.symm.trans hg');obtain rfl := Option.some.inj ((show (Tryd.prog.globals[0]?).map (·.type) = some 132 by kernel_rfl).symm.trans ht');have hcs := cells_of_strs Tryd.underlying132 Tryd.underlying9 (by kernel_rfl) (by kernel_rfl) hd;intro i hi;have h1 := World.var?_cell words_num hvar i;have h2 : cs[i]? = cs.toList[i]? := by simp
 rw [h1, h2, hcs];have hl : i < wordL.length := hi;simp [wordI, List.getElem?_map, List.getElem?_eq_getElem hl, List.getD_eq_getElem?_getD]
end Go.Proofs.YtfajfflbplnagaaDoor
