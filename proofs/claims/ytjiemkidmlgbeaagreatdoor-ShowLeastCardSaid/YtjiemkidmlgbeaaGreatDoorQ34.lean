/- A part of the proof: ROpen, RAlike, TLaidS, TLaid, PLaid, SLaid, TPow, SbL. No condition. -/
import Derived.Deep.Slices
import Derived.Deep.Fields
import Derived.ChangeSame
import Derived.ProofKit
import Derived.OpenShut
import Derived.SizedLaws
import Derived.Carry
import Derived.Stop.LaidErr
import Derived.Lib.LaidTab
import Derived.Deep.Strs
import Derived.Test.YtjiemkidmlgbeaaGreatDoorQ04
import Derived.Test.YtjiemkidmlgbeaaGreatDoorQ06
import Derived.Test.YtjiemkidmlgbeaaGreatDoorQ07
import Derived.Test.YtjiemkidmlgbeaaGreatDoorQ08
import Derived.Test.YtjiemkidmlgbeaaGreatDoorQ21
import Derived.Test.YtjiemkidmlgbeaaGreatDoorQ24
import Derived.Test.YtjiemkidmlgbeaaGreatDoorQ33
set_option linter.unusedVariables false
set_option linter.unusedSimpArgs false
namespace Go.Proofs.YtjiemkidmlgbeaaGreatDoor
open Go.RowKit Go.ChangeShapes Go.WideShapes Go.Deep
section
variable {H : Type} {enc : TypeId × Value → H} {P : Program} {w : World} {base : Nat} {spare : Nat → Bool} {held : Bool}
theorem open_slice_fields {t e : TypeId} {fs : Array Field} {fuel : Nat} {cs : List Value} {x : DataW H × List MemPlace} (ht : P.underlying t = some (.slice e)) (he : P.underlying e = some (.struct fs))
   (hone : oneCellFields P fs = true) (hC : P.cellsOf e = fs.size) (h : DataW.trod enc P w base spare held fuel t cs = some x) :
   (cs = [.slice none 0 0] ∧ x = (.nil, [])) ∨
   ∃ (a : Addr) (len cap m : Nat) (D : Nat → DataW H) (Pl : Nat → List MemPlace), cs = [.slice (some a) len cap] ∧ base ≤ a.block ∧ len ≤ cap ∧ cap ≤ maxLen ∧ m = (if spare a.block then cap else len) ∧
     x = (.slice ((List.range len).map D) ((List.range (m - len)).map fun j => D (len + j)), MemPlace.row a (m * fs.size) ++ (List.range m).flatMap Pl) ∧
     ∀ i, i < m → ∃ (ys : List (DataW H × List MemPlace)) (n : Nat), D i = .agg (ys.map (·.1)) ∧ Pl i = ys.flatMap (·.2) ∧ ys.length = fs.size ∧
       ∀ (j : Nat) (f : Field), fs[j]? = some f → ∃ (v : Value) (y : DataW H × List MemPlace), w.cell? (a.add (i * fs.size + j)) = some v ∧ ys[j]? = some y ∧ DataW.trod enc P w base spare held n f.type [v] = some y := by
 rcases open_slice ht h with h0 | ⟨a, len, cap, m, n, D, Pl, hcs, hb, hl, hm, hmm, hx, hi⟩
 · exact .inl h0
 · refine .inr ⟨a, len, cap, m, D, Pl, hcs, hb, hl, hm, hmm, by rw [hC] at hx; exact hx, fun i him => ?_⟩
   obtain ⟨cs', hc, ht'⟩ := hi i him;rw [hC] at hc;obtain ⟨ys, n', hn', hy, hlen, hyl, hf⟩ := DataW.trod_struct he ht';obtain ⟨_, hcl, hat⟩ := World.cells?_some hc;simp only [Prod.mk.injEq] at hy;refine ⟨ys, n', hy.1, hy.2, hyl, fun j f hj => ?_⟩;obtain ⟨ho, hk⟩ := hone_of hone j f hj;have hjl : j < fs.size := (Array.getElem?_eq_some_iff.1 hj).1;have hcell := hat j hjl;have hv : cs'[j]? = some (cs'[j]'(by omega)) := List.getElem?_eq_getElem (by omega);have h1 := hf j f hj;rw [ho, hk] at h1;have hone' : (cs'.drop j).take 1 = [cs'[j]'(by omega)] := by
     rw [List.drop_eq_getElem_cons (by omega)];rfl
   rw [hone'] at h1;have hys : ys[j]? = some (ys[j]'(by omega)) := List.getElem?_eq_getElem (by omega);refine ⟨_, _, ?_, hys, h1.trans hys⟩;rw [← Go.Deep.add_add, hcell, hv]
end
theorem i64_of_wf' {a : Int} (h : (Lit.int .i64 a).wf = true) : I64 a := by
 simp [Lit.wf, IntKind.min, IntKind.max, IntKind.signed, IntKind.bits] at h
 exact ⟨by omega, by omega⟩
def TwsIn (w : World) (v : Value) : Prop := ∃ ts, TwIn w v ts ∧ (∀ t ∈ ts, FitT t) ∧ ∀ len cap, v = .slice none len cap → len = 0 ∧ cap = 0
theorem twsIn_of_trod {H : Type} {enc : TypeId × Value → H} {P : Program} {W : World} {t e : TypeId} {f0 f1 f2 f3 : Field} {v : Value} {d : DataW H} {ps : List MemPlace}
   (ht : P.underlying t = some (.slice e)) (he : P.underlying e = some (.struct #[f0, f1, f2, f3])) (hone : oneCellFields P #[f0, f1, f2, f3] = true) (hc : P.cellsOf e = 4)
   (h0 : P.underlying f0.type = some (.int .u8)) (h1 : P.underlying f1.type = some (.int .i64)) (h2 : P.underlying f2.type = some (.int .i64)) (h3 : P.underlying f3.type = some .string)
   (hv : ∃ a len cap, v = .slice a len cap) (h : DataW.Trod enc P W 0 (fun _ => true) true t v d ps) : TwsIn W v := by
 obtain ⟨a0, len, cap, rfl⟩ := hv;obtain ⟨fuel, hf⟩ := h;rcases open_slice_fields ht he hone hc hf with ⟨hcs, _⟩ | ⟨a, len', cap', m, Dt, Pl, hcs, _, hl, hm, hmm, _, hi⟩
 · simp [Value.cells] at hcs
   obtain ⟨rfl, rfl, rfl⟩ := hcs;exact ⟨[], ⟨none, 0, rfl, by simp, by omega, fun h => by simp at h⟩, by simp, fun len cap h => by cases h; exact ⟨rfl, rfl⟩⟩
 · simp [Value.cells] at hcs
   obtain ⟨rfl, rfl, rfl⟩ := hcs;simp only [if_true] at hmm;have key : ∀ j, ∃ s : Tw, j < len → FitT s ∧ (W.cell? (a.add (j * 4)) = some (.int .u8 s.op) ∧ W.cell? (a.add (j * 4 + 1)) = some (.int .i64 s.kids) ∧ W.cell? (a.add (j * 4 + 2)) = some (.int .i64 s.num) ∧ W.cell? (a.add (j * 4 + 3)) = some (.string ⟨s.text.toArray⟩)) := by
     intro j;by_cases hj : j < len
     · obtain ⟨ys, n, _, _, hyl, hg⟩ := hi j (by omega)
       obtain ⟨v0, y0, c0, _, t0⟩ := hg 0 f0 rfl;obtain ⟨v1, y1, c1, _, t1⟩ := hg 1 f1 rfl;obtain ⟨v2, y2, c2, _, t2⟩ := hg 2 f2 rfl;obtain ⟨v3, y3, c3, _, t3⟩ := hg 3 f3 rfl;obtain ⟨n0, e0, _, w0⟩ := DataW.trod_int h0 t0;obtain ⟨n1, e1, _, w1⟩ := DataW.trod_int h1 t1;obtain ⟨n2, e2, _, w2⟩ := DataW.trod_int h2 t2;obtain ⟨s3, e3, _, w3⟩ := DataW.trod_string h3 t3;simp only [List.cons.injEq, and_true] at e0 e1 e2 e3;subst e0; subst e1; subst e2; subst e3;have hn0 : 0 ≤ n0 := by
         simp only [Lit.wf, Bool.and_eq_true, decide_eq_true_eq] at w0;exact w0.1
       obtain ⟨k0, rfl⟩ := Int.eq_ofNat_of_zero_le hn0;refine ⟨⟨k0, n1, n2, s3.data.toList⟩, fun _ => ⟨⟨?_, i64_of_wf' w1, i64_of_wf' w2, ?_⟩, c0, c1, c2, c3⟩⟩
       · show s3.data.toList.length ≤ _
         rw [Array.length_toList];unfold maxLen at w3;exact w3
       · simp [Lit.wf, IntKind.min, IntKind.max, IntKind.signed, IntKind.bits] at w0
         show k0 < 256
         omega
     · exact ⟨⟨0, 0, 0, []⟩, fun h => absurd h hj⟩
   obtain ⟨f, hf⟩ := Classical.axiomOfChoice key;have hgl : ((List.range len).map f).length = len := by rw [List.length_map, List.length_range]
   refine ⟨(List.range len).map f, ⟨some a, cap, by rw [hgl], by rw [hgl]; exact hl, hm, ?_⟩, ?_, fun len cap h => by cases h⟩
   · intro hpos
     rw [hgl] at hpos;obtain ⟨b, off, spot⟩ := a;have hspot : spot = none := by simpa [Addr.add] using World.cell?_spot (hf 0 hpos).2.1
     subst hspot;refine ⟨b, off, rfl, ?_, fun j hj c hc' => ?_⟩
     · have := (hf 0 hpos).2.1
       rw [add_plain] at this;exact World.block_lt_of_cell? W _ this
     · have hj' : j < len := by simpa using hj
       obtain ⟨g0, g1, g2, g3⟩ := (hf j hj').2;rw [add_plain] at g0 g1 g2 g3;rw [List.getElem_map, List.getElem_range]
       match c, hc' with
       | 0, _ => exact g0
       | 1, _ => rw [Nat.add_assoc]; exact g1
       | 2, _ => rw [Nat.add_assoc]; exact g2
       | 3, _ => rw [Nat.add_assoc]; exact g3
   · intro s hs
     obtain ⟨j, hj, rfl⟩ := List.mem_map.1 hs;exact (hf j (List.mem_range.1 hj)).1
end Go.Proofs.YtjiemkidmlgbeaaGreatDoor
namespace Go.Proofs.YtjiemkidmlgbeaaGreatDoor
open Go.RowKit Go.Shelf
set_option maxRecDepth 20000 in
set_option maxHeartbeats 1000000 in
theorem alike_tw {w : World} {v1 v2 : Value} {ts : List Tw} (h1 : TwIn w v1 ts) (h2 : TwIn w v2 ts) :
   Calls Tryz.prog 10 #[v1, v2] w fun e w' => e = .returned (.bool true) ∧ Below w.heap.size w w' := by
 obtain ⟨a1, cap1, rfl, _, _, k1⟩ := h1;obtain ⟨a2, cap2, rfl, hlc, hcm, k2⟩ := h2;have hne : ((ts.length : Int) != (ts.length : Int)) = false := by simp
 replace k1 := Lib.hid k1;replace k2 := Lib.hid k2;go_enter Tryz.func10, Tryz.ntmps10
 go_wp2
 go_loopw [5] (fun t5 wr => ∃ i : Nat, i ≤ ts.length ∧ t5 = .int .i64 i ∧ Below w.heap.size w wr) (fun t5 _ => ts.length - (intOf t5).toNat)
 case atStart => exact ⟨0, by omega, rfl, Below.refl _ _⟩
 case round =>
   obtain ⟨i, hi, rfl, hbw⟩ := hrel;rcases Nat.lt_or_ge i ts.length with hlt | hge
   · obtain ⟨b1, o1, rfl, hl1, hc1⟩ := k1.out (by omega)
     obtain ⟨b2, o2, rfl, hl2, hc2⟩ := k2.out (by omega);have hlti : (i : Int) < (ts.length : Int) := by omega
     have x1 := fun n c (h : c < 4) => ((below_drewN hbw n).cell (p := ⟨b1, o1 + i * 4 + c, none⟩) hl1).trans (hc1 i hlt c h)
     have x2 := fun n c (h : c < 4) => ((below_drewN hbw n).cell (p := ⟨b2, o2 + i * 4 + c, none⟩) hl2).trans (hc2 i hlt c h)
     generalize ts[i] = t at *;obtain ⟨op, kids, num, text⟩ := t;have p0 := fun n => x1 n 0 (by omega); have p1 := fun n => x1 n 1 (by omega); have p2 := fun n => x1 n 2 (by omega); have p3 := fun n => x1 n 3 (by omega)
     have q0 := fun n => x2 n 0 (by omega); have q1 := fun n => x2 n 1 (by omega); have q2 := fun n => x2 n 2 (by omega); have q3 := fun n => x2 n 3 (by omega)
     simp only [twC, List.getElem?_cons_succ, List.getElem?_cons_zero, Nat.add_zero] at p0 p1 p2 p3 q0 q1 q2 q3;clear x1 x2 hc1 hc2;replace hbw := Lib.hid hbw;go_wp2
     go_quiet (fail)
     go_wp2
     go_roundw
     case rel => exact ⟨i + 1, by omega, by go_num, below_drewN hbw.out _⟩
     case measure => simp [intOf]; omega
   · obtain rfl : i = ts.length := by omega
     have hlti : ¬ ((ts.length : Int) < (ts.length : Int)) := by omega
     go_wp2
     go_ret
     exact ⟨rfl, hbw⟩
end Go.Proofs.YtjiemkidmlgbeaaGreatDoor
namespace Go.Proofs.YtjiemkidmlgbeaaGreatDoor
open Go.RowKit Go.ChangeShapes Tok
theorem cells_of_strs {H : Type} {enc : TypeId × Value → H} {P : Program} {w : World} {base : Nat} {sp : Nat → Bool} {held : Bool} {fuel : Nat} {t e : TypeId} {n : Nat} {cs : List Value} {zs : List (List UInt8)} {p : List MemPlace}
   (ht : P.underlying t = some (.array n e)) (he : P.underlying e = some .string) (hce : P.cellsOf e = 1) (hct : P.cellsOf t = n)
   (h : DataW.trod enc P w base sp held fuel t cs = some (.agg (zs.map fun z => .lit (.string z)), p)) : cs = zs.map fun z => Value.string ⟨z.toArray⟩ := by
 cases fuel with
 | zero => simp [DataW.trod] at h
 | succ fuel =>
   simp only [DataW.trod, ht, hce, hct, Nat.mul_one] at h;split at h
   · rename_i hl
     obtain ⟨xs, hm, hx⟩ := Option.map_eq_some_iff.1 h;have hxs : xs.map (·.1) = zs.map fun z => (DataW.lit (.string z) : DataW H) := by
       have := congrArg Prod.fst hx
       simpa using this
     have hxl : xs.length = n := by simpa using Lib.mapM_length hm
     have hzl : zs.length = n := by
       have := congrArg List.length hxs;simp at this
       omega
     apply List.ext_getElem?
     intro i;by_cases hi : i < n
     · obtain ⟨b, hb, hf⟩ := Lib.mapM_at hm i i (by simp [hi])
       obtain ⟨z, hc, rfl, _⟩ := DataW.trod_string he hf;have h1 : cs[i]? = some (.string z) := by
         have := congrArg (·[0]?) hc
         simpa [List.getElem?_take, List.getElem?_drop] using this
       have h2 : (xs.map (·.1))[i]? = some (DataW.lit (.string z.data.toList) : DataW H) := by simp [hb]
       rw [hxs] at h2;simp only [List.getElem?_map, Option.map_eq_some_iff, DataW.lit.injEq, Lit.string.injEq] at h2;obtain ⟨z', hz', h3⟩ := h2;subst h3;simp [h1, hz']
     · rw [List.getElem?_eq_none (by omega), List.getElem?_eq_none (by simp; omega)]
   · cases h
theorem signs_num : Tryz.prog.globalNamed "prompter/token.signs" = some 0 := by kernel_rfl
theorem signsOK_of {r : List (String × DataW Unit)} {W : World} (h : laidMet Tryz.prog (("prompter/token.signs", .agg (signs.map fun z => .lit (.string z))) :: r) W) : SignsOK W := by
 obtain ⟨ps, ⟨g', t', cs, fuel, p, q, hg', ht', hvar, hd, _, _⟩, _⟩ := h;obtain rfl := Option.some.inj (signs_num.symm.trans hg');obtain rfl := Option.some.inj ((show (Tryz.prog.globals[0]?).map (·.type) = some 96 by kernel_rfl).symm.trans ht');have hcs := cells_of_strs Tryz.underlying96 Tryz.underlying9 (by kernel_rfl) (by kernel_rfl) hd;intro i hi;have h1 := World.var?_cell signs_num hvar i;have h2 : cs[i]? = cs.toList[i]? := by simp
 rw [h1, h2, hcs];have hl : i < signs.length := hi;simp [List.getElem?_map, List.getElem?_eq_getElem hl, List.getD_eq_getElem?_getD]
end Go.Proofs.YtjiemkidmlgbeaaGreatDoor
namespace Go.Proofs.YtjiemkidmlgbeaaGreatDoor
open Go.RowKit Tok
theorem rowE : ∀ u, Tryz.prog.typeName? 3 u = some "*errors.errorString" → u = 154 := fun u h =>
 typeName_ptr_named (nm := "errors.errorString") (by kernel_rfl) (by kernel_rfl) (by decide) u h
theorem errR_of {text : List UInt8} {r : List (String × DataW Unit)} {W : World} (h : laidMet Tryz.prog (("strconv.ErrRange", .iface "*errors.errorString" (.ptr (.agg [.lit (.string text)]))) :: r) W) : ErrR W := by
 obtain ⟨a0, s0, hv0, _⟩ := laid_sentinel h (show Tryz.prog.globalNamed "strconv.ErrRange" = some 5 by kernel_rfl) (by kernel_rfl) Tryz.underlying117 rowE Tryz.underlying154 Tryz.underlying156 rfl rfl Tryz.underlying9 (by kernel_rfl) (by kernel_rfl);exact ⟨_, _, hv0⟩
end Go.Proofs.YtjiemkidmlgbeaaGreatDoor
namespace Go.Proofs.YtjiemkidmlgbeaaGreatDoor
open Go.RowKit Go.ChangeShapes Tok
theorem chunks_of {α β : Type} {g : α → List β} : ∀ (zs : List α) (cs : List β), (∀ z, (g z).length = 2) → cs.length = zs.length * 2 → (∀ k (h : k < zs.length), (cs.drop (k * 2)).take 2 = g zs[k]) → cs = zs.flatMap g
 | [], cs, _, hl, _ => by simpa using hl
 | z :: zs, cs, hg, hl, h => by
   have h0 := h 0 (by simp);rw [List.length_cons] at hl;rw [List.flatMap_cons, ← chunks_of zs (cs.drop 2) hg (by rw [List.length_drop]; omega) (fun k hk => by
     have := h (k + 1) (by simpa using hk);rw [List.drop_drop, show 2 + k * 2 = (k + 1) * 2 by omega]
     simpa using this)]
   have h1 : cs.take 2 = g z := by simpa using h0
   rw [← h1, List.take_append_drop]
theorem cells_of_pairs {H : Type} {enc : TypeId × Value → H} {P : Program} {w : World} {base : Nat} {sp : Nat → Bool} {held : Bool} {fuel : Nat} {t e : TypeId} {f0 f1 : Field} {n : Nat} {cs : List Value} {zs : List (List UInt8 × Nat)} {p : List MemPlace}
   (ht : P.underlying t = some (.array n e)) (he : P.underlying e = some (.struct #[f0, f1])) (h0 : P.underlying f0.type = some .string) (h1 : P.underlying f1.type = some (.int .u8)) (o0 : f0.offset = 0) (o1 : f1.offset = 1)
   (hc0 : P.cellsOf f0.type = 1) (hc1 : P.cellsOf f1.type = 1) (hce : P.cellsOf e = 2) (hct : P.cellsOf t = n * 2)
   (h : DataW.trod enc P w base sp held fuel t cs = some (.agg (zs.map fun z => .agg [.lit (.string z.1), .lit (.int .u8 (z.2 : Int))]), p)) : cs = zs.flatMap fun z => [Value.string ⟨z.1.toArray⟩, Value.int .u8 (z.2 : Int)] := by
 cases fuel with
 | zero => simp [DataW.trod] at h
 | succ fuel =>
   simp only [DataW.trod, ht, hce, hct] at h;split at h
   · rename_i hl
     obtain ⟨xs, hm, hx⟩ := Option.map_eq_some_iff.1 h;have hxs : xs.map (·.1) = zs.map fun z => (DataW.agg [.lit (.string z.1), .lit (.int .u8 (z.2 : Int))] : DataW H) := by
       have := congrArg Prod.fst hx
       simpa using this
     have hxl : xs.length = n := by simpa using Lib.mapM_length hm
     have hzl : zs.length = n := by
       have := congrArg List.length hxs;simp at this
       omega
     refine chunks_of zs cs (fun z => rfl) (by rw [hl, hzl]) (fun k hk => ?_);obtain ⟨b, hb, hf⟩ := Lib.mapM_at hm k k (by rw [List.getElem?_range (by omega)]);obtain ⟨y0, y1, m, rfl, hlen, g0, g1⟩ := trod_struct2 he hf;have h2 : (xs.map (·.1))[k]? = some (DataW.agg [y0.1, y1.1] : DataW H) := by simp [hb]
     rw [hxs, List.getElem?_map, List.getElem?_eq_getElem hk] at h2;simp only [Option.map_some, Option.some.injEq, DataW.agg.injEq, List.cons.injEq, and_true] at h2;rw [o0, hc0] at g0;rw [o1, hc1] at g1;obtain ⟨z, e0, e0', _⟩ := DataW.trod_string h0 g0;obtain ⟨q, e1, e1', _⟩ := DataW.trod_int h1 g1;rw [hce] at hlen;generalize (cs.drop (k * 2)).take 2 = ch at *
     match ch, hlen with
     | [a, b], _ =>
       simp at e0 e1
       subst e0 e1;have k0 : y0.1 = .lit (.string z.data.toList) := by rw [e0']
       have k1 : y1.1 = .lit (.int .u8 q) := by rw [e1']
       rw [k0] at h2;rw [k1] at h2;simp at h2
       obtain ⟨hz, hq⟩ := h2;rw [hz, hq]
   · cases h
theorem makes_num : Tryz.prog.globalNamed "prompter/parse.makes" = some 2 := by kernel_rfl
theorem makesOK_of {r : List (String × DataW Unit)} {W : World} (h : laidMet Tryz.prog (("prompter/parse.makes", .agg (makesL.map fun z => .agg [.lit (.string z.1), .lit (.int .u8 (z.2 : Int))])) :: r) W) : MakesOK W := by
 obtain ⟨ps, ⟨g', t', cs, fuel, p, q, hg', ht', hvar, hd, _, _⟩, _⟩ := h;obtain rfl := Option.some.inj (makes_num.symm.trans hg');obtain rfl := Option.some.inj ((show (Tryz.prog.globals[2]?).map (·.type) = some 124 by kernel_rfl).symm.trans ht');have hcs := cells_of_pairs Tryz.underlying124 Tryz.underlying123 Tryz.underlying9 Tryz.underlying5 rfl rfl (by kernel_rfl) (by kernel_rfl) (by kernel_rfl) (by kernel_rfl) hd;intro j v hv;rw [Nat.zero_add];rw [World.var?_cell makes_num hvar j];have h2 : cs[j]? = cs.toList[j]? := by simp
 rw [h2, hcs];exact hv
end Go.Proofs.YtjiemkidmlgbeaaGreatDoor
namespace Go.Proofs.YtjiemkidmlgbeaaGreatDoor
open Go.RowKit Go.ChangeShapes Go.Deep Tok
theorem chunks3_of {α β : Type} {g : α → List β} : ∀ (zs : List α) (cs : List β), (∀ z, (g z).length = 3) → cs.length = zs.length * 3 → (∀ k (h : k < zs.length), (cs.drop (k * 3)).take 3 = g zs[k]) → cs = zs.flatMap g
 | [], cs, _, hl, _ => by simpa using hl
 | z :: zs, cs, hg, hl, h => by
   have h0 := h 0 (by simp);rw [List.length_cons] at hl;rw [List.flatMap_cons, ← chunks3_of zs (cs.drop 3) hg (by rw [List.length_drop]; omega) (fun k hk => by
     have := h (k + 1) (by simpa using hk);rw [List.drop_drop, show 3 + k * 3 = (k + 1) * 3 by omega]
     simpa using this)]
   have h1 : cs.take 3 = g z := by simpa using h0
   rw [← h1, List.take_append_drop]
theorem cells_of_marks {H : Type} {enc : TypeId × Value → H} {P : Program} {w : World} {base : Nat} {sp : Nat → Bool} {held : Bool} {fuel : Nat} {t e : TypeId} {f0 f1 f2 : Field} {n : Nat} {cs : List Value} {zs : List (Nat × Nat × List UInt8)} {p : List MemPlace}
   (ht : P.underlying t = some (.array n e)) (he : P.underlying e = some (.struct #[f0, f1, f2])) (h0 : P.underlying f0.type = some (.int .u8)) (h1 : P.underlying f1.type = some (.int .u8)) (h2 : P.underlying f2.type = some .string) (o0 : f0.offset = 0) (o1 : f1.offset = 1) (o2 : f2.offset = 2)
   (hc0 : P.cellsOf f0.type = 1) (hc1 : P.cellsOf f1.type = 1) (hc2 : P.cellsOf f2.type = 1) (hce : P.cellsOf e = 3) (hct : P.cellsOf t = n * 3)
   (h : DataW.trod enc P w base sp held fuel t cs = some (.agg (zs.map fun z => .agg [.lit (.int .u8 (z.1 : Int)), .lit (.int .u8 (z.2.1 : Int)), .lit (.string z.2.2)]), p)) : cs = zs.flatMap fun z => [Value.int .u8 (z.1 : Int), Value.int .u8 (z.2.1 : Int), Value.string ⟨z.2.2.toArray⟩] := by
 cases fuel with
 | zero => simp [DataW.trod] at h
 | succ fuel =>
   simp only [DataW.trod, ht, hce, hct] at h;split at h
   · rename_i hl
     obtain ⟨xs, hm, hx⟩ := Option.map_eq_some_iff.1 h;have hxs : xs.map (·.1) = zs.map fun z => (DataW.agg [.lit (.int .u8 (z.1 : Int)), .lit (.int .u8 (z.2.1 : Int)), .lit (.string z.2.2)] : DataW H) := by
       have := congrArg Prod.fst hx
       simpa using this
     have hxl : xs.length = n := by simpa using Lib.mapM_length hm
     have hzl : zs.length = n := by
       have := congrArg List.length hxs;simp at this
       omega
     refine chunks3_of zs cs (fun z => rfl) (by rw [hl, hzl]) (fun k hk => ?_);obtain ⟨b, hb, hf⟩ := Lib.mapM_at hm k k (by rw [List.getElem?_range (by omega)]);obtain ⟨y0, y1, y2, m, rfl, hlen, g0, g1, g2⟩ := trod_struct3 he hf;have h3 : (xs.map (·.1))[k]? = some (DataW.agg [y0.1, y1.1, y2.1] : DataW H) := by simp [hb]
     rw [hxs, List.getElem?_map, List.getElem?_eq_getElem hk] at h3;simp only [Option.map_some, Option.some.injEq, DataW.agg.injEq, List.cons.injEq, and_true] at h3;rw [o0, hc0] at g0;rw [o1, hc1] at g1;rw [o2, hc2] at g2;obtain ⟨q0, e0, e0', _⟩ := DataW.trod_int h0 g0;obtain ⟨q1, e1, e1', _⟩ := DataW.trod_int h1 g1;obtain ⟨z, e2, e2', _⟩ := DataW.trod_string h2 g2;rw [hce] at hlen;generalize (cs.drop (k * 3)).take 3 = ch at *
     match ch, hlen with
     | [a, b, c], _ =>
       simp at e0 e1 e2
       subst e0 e1 e2;have k0 : y0.1 = .lit (.int .u8 q0) := by rw [e0']
       have k1 : y1.1 = .lit (.int .u8 q1) := by rw [e1']
       have k2 : y2.1 = .lit (.string z.data.toList) := by rw [e2']
       rw [k0, k1, k2] at h3;simp at h3
       obtain ⟨hq0, hq1, hz⟩ := h3;rw [hz, ← hq0, ← hq1]
   · cases h
theorem marks_num : Tryz.prog.globalNamed "prompter/show.marks" = some 1 := by kernel_rfl
theorem marksOK_of {r : List (String × DataW Unit)} {W : World} (h : laidMet Tryz.prog (("prompter/show.marks", .agg (marksL.map fun z => .agg [.lit (.int .u8 (z.1 : Int)), .lit (.int .u8 (z.2.1 : Int)), .lit (.string z.2.2)])) :: r) W) : MarksOK W := by
 obtain ⟨ps, ⟨g', t', cs, fuel, p, q, hg', ht', hvar, hd, _, _⟩, _⟩ := h;obtain rfl := Option.some.inj (marks_num.symm.trans hg');obtain rfl := Option.some.inj ((show (Tryz.prog.globals[1]?).map (·.type) = some 110 by kernel_rfl).symm.trans ht');have hcs := cells_of_marks Tryz.underlying110 Tryz.underlying109 Tryz.underlying5 Tryz.underlying5 Tryz.underlying9 rfl rfl rfl (by kernel_rfl) (by kernel_rfl) (by kernel_rfl) (by kernel_rfl) (by kernel_rfl) hd;intro j v hv;rw [Nat.zero_add];rw [World.var?_cell marks_num hvar j];have h2 : cs[j]? = cs.toList[j]? := by simp
 rw [h2, hcs];exact hv
end Go.Proofs.YtjiemkidmlgbeaaGreatDoor
namespace Go.Proofs.YtjiemkidmlgbeaaGreatDoor
open Go.RowKit
abbrev PowIs (w : World) : Prop := Lib.TabIs Tryz.prog w "internal/strconv.uint64pow10" .u64 Lib.pow10Tab
theorem tab_num : Tryz.prog.globalNamed "internal/strconv.uint64pow10" = some 3 := by kernel_rfl
end Go.Proofs.YtjiemkidmlgbeaaGreatDoor
namespace Go.Proofs.YtjiemkidmlgbeaaGreatDoor
open Go.RowKit Go.Shelf Tok
abbrev WakP (w : World) : Prop := ∀ W, Below w.heap.size w W → Calls Tryz.prog 5 #[] W fun e w' => e = .returned (.bool true) ∧ Below W.heap.size W w'
theorem spell_ends {ts : List Tw} {L : List Tg} (h : ShowIs ts L 0) (hf : ∀ x ∈ ts, FitT x) : (spellR L = ([], 2)) ∨ (spellR L = (joinL L, 0) ∧ (joinL L).length ≤ 16384) := by
 have ht : L.all told = true := List.all_eq_true.2 (fun t hm => (show_told10 h hf t hm).1);unfold spellR;rw [if_pos ht];by_cases hl : 16384 < (joinL L).length
 · rw [if_pos hl]; exact .inl rfl
 · rw [if_neg hl]; exact .inr ⟨rfl, by omega⟩
set_option maxRecDepth 20000 in
set_option maxHeartbeats 2000000 in
theorem showBack_bad {v : Value} {ts : List Tw} {w : World} (hT : TwIn w v ts) (hf : ∀ x ∈ ts, FitT x) (hn : ¬ 5000 < ts.length) (hM : MarksOK w) (hS : SignsOK w) (hP : PowOK w.heap.size w) (hWk : Hid (WakP w)) (hc : (lookF ts).2.2 ≠ 0) :
   Calls Tryz.prog 3 #[v] w fun e w' => e = .returned (.bool true) ∧ Below w.heap.size w w' := by
 have kT := Lib.hid (Tree_is10 (st := []) (cd := (lookF ts).2.2) hT hf hM hS hP ⟨[], _, .inl ⟨hc, rfl, rfl⟩, .inr ⟨by simpa using hc, rfl, rfl⟩⟩);have kC := Lib.hid (fun (W : World) (hb : Below w.heap.size w W) => Check_any W (hT.below hb) hf);have hni : ¬ (5000 : Int) < (ts.length : Int) := by omega
 generalize (lookF ts).1 = d at *;generalize (lookF ts).2.2 = c at *;have t1 : ((c : Int) != 0) = true := by simpa using hc
 have t2 : ((c : Int) == (c : Int)) = true := by simp
 obtain ⟨a, cap, rfl, hz⟩ := hT;clear hz hf hM hS hP hn hc;generalize ts.length = n at *;go_enter Tryz.func3, Tryz.ntmps3
 go_wp2_with fail
 with_reducible refine kT.out.mono ?_
 rintro e w1 ⟨rfl, hb1⟩;have k2 := Lib.hid (kC.out _ hb1);replace hb1 := Lib.hid hb1;clear kT kC;go_wp2_with fail
 with_reducible refine k2.out.mono ?_
 rintro e w2 ⟨rfl, hb2⟩;have hb3 := Lib.hid (below_next hb1.out hb2);clear hb1 hb2 k2;go_wp2_with fail
 with_reducible refine (hWk.out _ hb3.out).mono ?_
 rintro e w3 ⟨rfl, hb4⟩;go_wp2_with fail
 go_ret
 exact ⟨rfl, below_next hb3.out hb4⟩
set_option maxRecDepth 20000 in
set_option maxHeartbeats 2000000 in
theorem showBack_none {v : Value} {ts : List Tw} {w : World} (hT : TwIn w v ts) (hf : ∀ x ∈ ts, FitT x) (hn : ¬ 5000 < ts.length) (hM : MarksOK w) (hS : SignsOK w) (hP : PowOK w.heap.size w) (hWk : Hid (WakP w)) (hc : (lookF ts).2.2 = 0) {x : Tw} {r : List Tw} (hx : ts = x :: r) (h1 : x.op ≠ 1) (h2 : exprB x.op = false) :
   Calls Tryz.prog 3 #[v] w fun e w' => e = .returned (.bool true) ∧ Below w.heap.size w w' := by
 have kT := Lib.hid (Tree_is10 (st := []) (cd := 3) hT hf hM hS hP ⟨[], 3, .inr (.inl ⟨hc, x, r, hx, h1, h2, rfl, rfl⟩), .inr ⟨by decide, rfl, rfl⟩⟩);have kC := Lib.hid (fun (W : World) (hb : Below w.heap.size w W) => Check_any W (hT.below hb) hf);have kX := Lib.hid (expr_at h2);rw [hc] at kC;generalize (lookF ts).1 = d at *;obtain ⟨op, kids, num, text⟩ := x;have t1 : ((op : Int) == 1) = false := beq_eq_false_iff_ne.2 (by have : op ≠ 1 := h1; omega);subst hx;obtain ⟨a, cap, rfl, hlc, hcm, h3⟩ := hT;obtain ⟨g, off, rfl, hg, hcell⟩ := h3 (by simp);have y0 := hcell 0 (by simp) 0 (by decide);simp only [List.getElem_cons_zero, twC, List.getElem?_cons_zero, Nat.zero_mul, Nat.add_zero] at y0;have hpos : (0 : Int) < (((⟨op, kids, num, text⟩ : Tw) :: r).length : Int) := by rw [List.length_cons]; omega
 clear h3 hcell;have hni : ¬ (5000 : Int) < (((⟨op, kids, num, text⟩ : Tw) :: r).length : Int) := by omega
 have hlen : ∃ n, ((⟨op, kids, num, text⟩ : Tw) :: r).length = n := ⟨_, rfl⟩;obtain ⟨n, hln⟩ := hlen;rw [hln] at kT kC hn hpos hni ⊢;replace hln := Lib.hid hln;clear hf hc h1 h2 hlc hM hS hP;go_enter Tryz.func3, Tryz.ntmps3
 go_wp2_with fail
 with_reducible refine kT.out.mono ?_
 rintro e w1 ⟨rfl, hb1⟩;have k2 := Lib.hid (kC.out _ hb1);replace hb1 := Lib.hid hb1;clear kT kC;go_wp2_with fail
 with_reducible refine k2.out.mono ?_
 rintro e w2 ⟨rfl, hb2⟩;have hb3 := Lib.hid (below_next hb1.out hb2);have z0 := (hb3.out.cell (p := ⟨g, off, none⟩) hg).trans y0;have hg1 : g < w2.heap.size := Nat.lt_of_lt_of_le hg hb3.out.size;clear hb1 hb2 k2 y0;go_wp2_with fail
 with_reducible refine (kX.out _).mono ?_
 rintro e w4 ⟨rfl, rfl⟩;clear kX;go_wp2_with fail
 with_reducible refine (hWk.out _ hb3.out).mono ?_
 rintro e w3 ⟨rfl, hb4⟩;go_wp2_with fail
 go_ret
 exact ⟨rfl, below_next hb3.out hb4⟩
set_option maxRecDepth 20000 in
set_option maxHeartbeats 2000000 in
theorem showBack_longF {v : Value} {ts : List Tw} {w : World} (hT : TwIn w v ts) (hf : ∀ x ∈ ts, FitT x) (hn : ¬ 5000 < ts.length) (hM : MarksOK w) (hS : SignsOK w) (hP : PowOK w.heap.size w) (hWk : Hid (WakP w)) (hc : (lookF ts).2.2 = 0) {L : List Tg} (hI : ShowIs ts L 0) (hs : spellR L = ([], 2)) {x : Tw} {r : List Tw} (hx : ts = x :: r) (h1 : x.op = 1) :
   Calls Tryz.prog 3 #[v] w fun e w' => e = .returned (.bool true) ∧ Below w.heap.size w w' := by
 have kT := Lib.hid (Tree_is10 (st := []) (cd := 2) hT hf hM hS hP ⟨L, 0, hI, .inl ⟨rfl, hs, by decide⟩⟩);have kC := Lib.hid (fun (W : World) (hb : Below w.heap.size w W) => Check_any W (hT.below hb) hf);rw [hc] at kC;generalize (lookF ts).1 = d at *;obtain ⟨op, kids, num, text⟩ := x;have t1 : op = 1 := h1;subst t1;subst hx;obtain ⟨a, cap, rfl, hlc, hcm, h3⟩ := hT;obtain ⟨g, off, rfl, hg, hcell⟩ := h3 (by simp);have y0 := hcell 0 (by simp) 0 (by decide);simp only [List.getElem_cons_zero, twC, List.getElem?_cons_zero, Nat.zero_mul, Nat.add_zero] at y0;have hpos : (0 : Int) < (((⟨1, kids, num, text⟩ : Tw) :: r).length : Int) := by rw [List.length_cons]; omega
 clear h3 hcell;have hni : ¬ (5000 : Int) < (((⟨1, kids, num, text⟩ : Tw) :: r).length : Int) := by omega
 have hlen : ∃ n, ((⟨1, kids, num, text⟩ : Tw) :: r).length = n := ⟨_, rfl⟩;obtain ⟨n, hln⟩ := hlen;rw [hln] at kT kC hn hpos hni ⊢;replace hln := Lib.hid hln;clear hf hc h1 hlc hM hS hP hI hs;go_enter Tryz.func3, Tryz.ntmps3
 go_wp2_with fail
 with_reducible refine kT.out.mono ?_
 rintro e w1 ⟨rfl, hb1⟩;have k2 := Lib.hid (kC.out _ hb1);replace hb1 := Lib.hid hb1;clear kT kC;go_wp2_with fail
 with_reducible refine k2.out.mono ?_
 rintro e w2 ⟨rfl, hb2⟩;have hb3 := Lib.hid (below_next hb1.out hb2);have z0 : w2.cell? ⟨g, off, none⟩ = some (.int .u8 1) := (hb3.out.cell (p := ⟨g, off, none⟩) hg).trans y0;have hg1 : g < w2.heap.size := Nat.lt_of_lt_of_le hg hb3.out.size;clear hb1 hb2 k2 y0;go_wp2_with fail
 with_reducible refine (hWk.out _ hb3.out).mono ?_
 rintro e w3 ⟨rfl, hb4⟩;go_wp2_with fail
 go_ret
 exact ⟨rfl, below_next hb3.out hb4⟩
set_option maxRecDepth 20000 in
set_option maxHeartbeats 2000000 in
theorem showBack_readF {v : Value} {ts : List Tw} {w : World} (hT : TwIn w v ts) (hf : ∀ x ∈ ts, FitT x) (hn : ¬ 5000 < ts.length) (hM : MarksOK w) (hS : SignsOK w) (hP : PowOK w.heap.size w) (hWk : Hid (WakP w)) (hE : ErrR w) (hK : MakesOK w) (hc : (lookF ts).2.2 = 0) {L : List Tg} (hI : ShowIs ts L 0) (hs : spellR L = (joinL L, 0)) (hl : (joinL L).length ≤ 16384) {x : Tw} {r : List Tw} (hx : ts = x :: r) (h1 : x.op = 1) :
   Calls Tryz.prog 3 #[v] w fun e w' => e = .returned (.bool true) ∧ Below w.heap.size w w' := by
 have kT := Lib.hid (Tree_is10 (st := joinL L) (cd := 0) hT hf hM hS hP ⟨L, 0, hI, .inl ⟨rfl, hs, by decide⟩⟩);have kC := Lib.hid (fun (W : World) (hb : Below w.heap.size w W) => Check_any W (hT.below hb) hf);have hR := back_read hI hf hl hx;have kR := Lib.hid (fun (W : World) (hb : Below w.heap.size w W) => read10_any (l := joinL L) (b := true) (q := ruleN x.op) (by omega) (by unfold ruleN; rw [if_pos h1, if_pos rfl]) W (hE.below hb) (hS.below hb) (hK.below hK.lt hb));rw [hR] at kR;have kA := Lib.hid (fun (W : World) (u : Value) (hb : Below w.heap.size w W) (hu : TwIn W u ts) => alike_tw (hT.below hb) hu);rw [hc] at kC;generalize (lookF ts).1 = d at *;generalize joinL L = S at *;dsimp only at kR;obtain ⟨op, kids, num, text⟩ := x;have t1 : op = 1 := h1;subst t1;subst hx;obtain ⟨a, cap, rfl, hlc, hcm, h3⟩ := hT;obtain ⟨g, off, rfl, hg, hcell⟩ := h3 (by simp);have y0 := hcell 0 (by simp) 0 (by decide);simp only [List.getElem_cons_zero, twC, List.getElem?_cons_zero, Nat.zero_mul, Nat.add_zero] at y0;have hpos : (0 : Int) < (((⟨1, kids, num, text⟩ : Tw) :: r).length : Int) := by rw [List.length_cons]; omega
 clear h3 hcell;have hni : ¬ (5000 : Int) < (((⟨1, kids, num, text⟩ : Tw) :: r).length : Int) := by omega
 have hlen : ∃ n, ((⟨1, kids, num, text⟩ : Tw) :: r).length = n := ⟨_, rfl⟩;obtain ⟨n, hln⟩ := hlen;rw [hln] at kT kC hn hpos hni kA ⊢;replace hln := Lib.hid hln;clear hf hc h1 hlc hM hS hP hI hs hl hR hE hK;go_enter Tryz.func3, Tryz.ntmps3
 go_wp2_with fail
 with_reducible refine kT.out.mono ?_
 rintro e w1 ⟨rfl, hb1⟩;have k2 := Lib.hid (kC.out _ hb1);replace hb1 := Lib.hid hb1;clear kT kC;go_wp2_with fail
 with_reducible refine k2.out.mono ?_
 rintro e w2 ⟨rfl, hb2⟩;have hb3 := Lib.hid (below_next hb1.out hb2);have z0 : w2.cell? ⟨g, off, none⟩ = some (.int .u8 1) := (hb3.out.cell (p := ⟨g, off, none⟩) hg).trans y0;have hg1 : g < w2.heap.size := Nat.lt_of_lt_of_le hg hb3.out.size;clear hb1 hb2 k2 y0;have k3 := Lib.hid (kR.out _ hb3.out);clear kR;go_wp2_with fail
 with_reducible refine k3.out.mono ?_
 rintro e w5 ⟨u, rfl, hu, hb5⟩;have hb6 := Lib.hid (below_next hb3.out hb5);have k6 := Lib.hid (kA.out _ _ hb6.out hu.twIn);clear hu hb5 hb3 k3 kA;go_wp2_with fail
 with_reducible refine k6.out.mono ?_
 rintro e w6 ⟨rfl, hb7⟩;have hb8 := Lib.hid (below_next hb6.out hb7);clear hb6 hb7 k6;go_wp2_with fail
 with_reducible refine (hWk.out _ hb8.out).mono ?_
 rintro e w7 ⟨rfl, hb9⟩;go_wp2_with fail
 go_ret
 exact ⟨rfl, below_next hb8.out hb9⟩
set_option maxRecDepth 20000 in
set_option maxHeartbeats 2000000 in
theorem showBack_longE {v : Value} {ts : List Tw} {w : World} (hT : TwIn w v ts) (hf : ∀ x ∈ ts, FitT x) (hn : ¬ 5000 < ts.length) (hM : MarksOK w) (hS : SignsOK w) (hP : PowOK w.heap.size w) (hWk : Hid (WakP w)) (hc : (lookF ts).2.2 = 0) {L : List Tg} (hI : ShowIs ts L 0) (hs : spellR L = ([], 2)) {x : Tw} {r : List Tw} (hx : ts = x :: r) (h1 : x.op ≠ 1) (h2 : exprB x.op = true) :
   Calls Tryz.prog 3 #[v] w fun e w' => e = .returned (.bool true) ∧ Below w.heap.size w w' := by
 have kT := Lib.hid (Tree_is10 (st := []) (cd := 2) hT hf hM hS hP ⟨L, 0, hI, .inl ⟨rfl, hs, by decide⟩⟩);have kC := Lib.hid (fun (W : World) (hb : Below w.heap.size w W) => Check_any W (hT.below hb) hf);have kX := Lib.hid (expr_at h2);rw [hc] at kC;generalize (lookF ts).1 = d at *;obtain ⟨op, kids, num, text⟩ := x;have t1 : ((op : Int) == 1) = false := beq_eq_false_iff_ne.2 (by have : op ≠ 1 := h1; omega);subst hx;obtain ⟨a, cap, rfl, hlc, hcm, h3⟩ := hT;obtain ⟨g, off, rfl, hg, hcell⟩ := h3 (by simp);have y0 := hcell 0 (by simp) 0 (by decide);simp only [List.getElem_cons_zero, twC, List.getElem?_cons_zero, Nat.zero_mul, Nat.add_zero] at y0;have hpos : (0 : Int) < (((⟨op, kids, num, text⟩ : Tw) :: r).length : Int) := by rw [List.length_cons]; omega
 clear h3 hcell;have hni : ¬ (5000 : Int) < (((⟨op, kids, num, text⟩ : Tw) :: r).length : Int) := by omega
 have hlen : ∃ n, ((⟨op, kids, num, text⟩ : Tw) :: r).length = n := ⟨_, rfl⟩;obtain ⟨n, hln⟩ := hlen;rw [hln] at kT kC hn hpos hni ⊢;replace hln := Lib.hid hln;clear hf hc h1 hlc hM hS hP hI hs h2;go_enter Tryz.func3, Tryz.ntmps3
 go_wp2_with fail
 with_reducible refine kT.out.mono ?_
 rintro e w1 ⟨rfl, hb1⟩;have k2 := Lib.hid (kC.out _ hb1);replace hb1 := Lib.hid hb1;clear kT kC;go_wp2_with fail
 with_reducible refine k2.out.mono ?_
 rintro e w2 ⟨rfl, hb2⟩;have hb3 := Lib.hid (below_next hb1.out hb2);have z0 := (hb3.out.cell (p := ⟨g, off, none⟩) hg).trans y0;have hg1 : g < w2.heap.size := Nat.lt_of_lt_of_le hg hb3.out.size;clear hb1 hb2 k2 y0;go_wp2_with fail
 with_reducible refine (kX.out _).mono ?_
 rintro e w4 ⟨rfl, rfl⟩;clear kX;go_wp2_with fail
 with_reducible refine (hWk.out _ hb3.out).mono ?_
 rintro e w3 ⟨rfl, hb4⟩;go_wp2_with fail
 go_ret
 exact ⟨rfl, below_next hb3.out hb4⟩
set_option maxRecDepth 20000 in
set_option maxHeartbeats 2000000 in
theorem showBack_readE {v : Value} {ts : List Tw} {w : World} (hT : TwIn w v ts) (hf : ∀ x ∈ ts, FitT x) (hn : ¬ 5000 < ts.length) (hM : MarksOK w) (hS : SignsOK w) (hP : PowOK w.heap.size w) (hWk : Hid (WakP w)) (hE : ErrR w) (hK : MakesOK w) (hc : (lookF ts).2.2 = 0) {L : List Tg} (hI : ShowIs ts L 0) (hs : spellR L = (joinL L, 0)) (hl : (joinL L).length ≤ 16384) {x : Tw} {r : List Tw} (hx : ts = x :: r) (h1 : x.op ≠ 1) (h2 : exprB x.op = true) :
   Calls Tryz.prog 3 #[v] w fun e w' => e = .returned (.bool true) ∧ Below w.heap.size w w' := by
 have kT := Lib.hid (Tree_is10 (st := joinL L) (cd := 0) hT hf hM hS hP ⟨L, 0, hI, .inl ⟨rfl, hs, by decide⟩⟩);have kC := Lib.hid (fun (W : World) (hb : Below w.heap.size w W) => Check_any W (hT.below hb) hf);have hR := back_read hI hf hl hx;have kR := Lib.hid (fun (W : World) (hb : Below w.heap.size w W) => read10_any (l := joinL L) (b := false) (q := ruleN x.op) (by omega) (by unfold ruleN; rw [if_neg h1, if_neg (by decide)]) W (hE.below hb) (hS.below hb) (hK.below hK.lt hb));rw [hR] at kR;have kA := Lib.hid (fun (W : World) (u : Value) (hb : Below w.heap.size w W) (hu : TwIn W u ts) => alike_tw (hT.below hb) hu);have kX := Lib.hid (expr_at h2);rw [hc] at kC;generalize (lookF ts).1 = d at *;generalize joinL L = S at *;dsimp only at kR;obtain ⟨op, kids, num, text⟩ := x;have t1 : ((op : Int) == 1) = false := beq_eq_false_iff_ne.2 (by have : op ≠ 1 := h1; omega);subst hx;obtain ⟨a, cap, rfl, hlc, hcm, h3⟩ := hT;obtain ⟨g, off, rfl, hg, hcell⟩ := h3 (by simp);have y0 := hcell 0 (by simp) 0 (by decide);simp only [List.getElem_cons_zero, twC, List.getElem?_cons_zero, Nat.zero_mul, Nat.add_zero] at y0;have hpos : (0 : Int) < (((⟨op, kids, num, text⟩ : Tw) :: r).length : Int) := by rw [List.length_cons]; omega
 clear h3 hcell;have hni : ¬ (5000 : Int) < (((⟨op, kids, num, text⟩ : Tw) :: r).length : Int) := by omega
 have hlen : ∃ n, ((⟨op, kids, num, text⟩ : Tw) :: r).length = n := ⟨_, rfl⟩;obtain ⟨n, hln⟩ := hlen;rw [hln] at kT kC hn hpos hni kA ⊢;replace hln := Lib.hid hln;clear hf hc h1 hlc hM hS hP hI hs h2 hl hR hE hK;go_enter Tryz.func3, Tryz.ntmps3
 go_wp2_with fail
 with_reducible refine kT.out.mono ?_
 rintro e w1 ⟨rfl, hb1⟩;have k2 := Lib.hid (kC.out _ hb1);replace hb1 := Lib.hid hb1;clear kT kC;go_wp2_with fail
 with_reducible refine k2.out.mono ?_
 rintro e w2 ⟨rfl, hb2⟩;have hb3 := Lib.hid (below_next hb1.out hb2);have z0 := (hb3.out.cell (p := ⟨g, off, none⟩) hg).trans y0;have hg1 : g < w2.heap.size := Nat.lt_of_lt_of_le hg hb3.out.size;clear hb1 hb2 k2 y0;go_wp2_with fail
 with_reducible refine (kX.out _).mono ?_
 rintro e w4 ⟨rfl, rfl⟩;clear kX;have k3 := Lib.hid (kR.out _ hb3.out);clear kR;go_wp2_with fail
 with_reducible refine k3.out.mono ?_
 rintro e w5 ⟨u, rfl, hu, hb5⟩;have hb6 := Lib.hid (below_next hb3.out hb5);have k6 := Lib.hid (kA.out _ _ hb6.out hu.twIn);clear hu hb5 hb3 k3 kA;go_wp2_with fail
 with_reducible refine k6.out.mono ?_
 rintro e w6 ⟨rfl, hb7⟩;have hb8 := Lib.hid (below_next hb6.out hb7);clear hb6 hb7 k6;go_wp2_with fail
 with_reducible refine (hWk.out _ hb8.out).mono ?_
 rintro e w7 ⟨rfl, hb9⟩;go_wp2_with fail
 go_ret
 exact ⟨rfl, below_next hb8.out hb9⟩
set_option maxRecDepth 20000 in
set_option maxHeartbeats 2000000 in
theorem showBack_walk (v : Value) (w : World) (h : TwsIn w v) (hE : ErrR w) (hS : SignsOK w) (hK : MakesOK w) (hM : MarksOK w) (hP : PowOK w.heap.size w) :
   Calls Tryz.prog 3 #[v] w fun e w' => e = .returned (.bool true) ∧ Below w.heap.size w w' := by
 obtain ⟨ts, hT, hf, _⟩ := h;have hWk : Hid (WakP w) := Lib.hid (fun W hb => wakes10_any W (hM.below hM.lt hb) (hS.below hb) (hP.next10 hb));by_cases hn : 5000 < ts.length
 · have hni : (5000 : Int) < (ts.length : Int) := by omega
   obtain ⟨a, cap, rfl, _⟩ := hT;go_enter Tryz.func3, Tryz.ntmps3
   go_wp2_with fail
   refine (hWk.out _ (Below.refl _ _)).mono ?_;rintro e w2 ⟨rfl, hb⟩;go_wp2_with fail
   go_ret
   exact ⟨rfl, hb⟩
 · obtain ⟨L, E, hI⟩ := show_is ts
   rcases id hI with ⟨hc, _, _⟩ | ⟨hc, x, r, hx, h1, h2, _, _⟩ | ⟨hc, x, k, hx, hok, _, hx1, hL, rfl⟩
   · exact showBack_bad hT hf hn hM hS hP hWk hc
   · exact showBack_none hT hf hn hM hS hP hWk hc hx h1 h2
   · by_cases h1 : x.op = 1
     · rcases spell_ends hI hf with hs | ⟨hs, hl⟩
       · exact showBack_longF hT hf hn hM hS hP hWk hc hI hs hx h1
       · exact showBack_readF hT hf hn hM hS hP hWk hE hK hc hI hs hl hx h1
     · rcases spell_ends hI hf with hs | ⟨hs, hl⟩
       · exact showBack_longE hT hf hn hM hS hP hWk hc hI hs hx h1 (hx1.resolve_left h1)
       · exact showBack_readE hT hf hn hM hS hP hWk hE hK hc hI hs hl hx h1 (hx1.resolve_left h1)
end Go.Proofs.YtjiemkidmlgbeaaGreatDoor
