/- A part of the proof: CkH, CkT, CkM, GMem. No condition. -/
import Derived.Deep.AppendSrc
import Derived.Lib.SliceRun
import Derived.Test.YtefijbpbenmbgaaDoorQ05
import Derived.Test.YtefijbpbenmbgaaDoorQ06
set_option linter.unusedVariables false
set_option linter.unusedSimpArgs false
namespace Go.Proofs.YtefijbpbenmbgaaDoor
open Go.RowKit Go.Shelf
def hidF (L : List (List UInt8 × Nat)) (n j : Nat) : List UInt8 → Option Nat := fun y => if y ∈ ((L.drop n).take j).map Prod.fst then none else findL L y
theorem hidF_zero (L : List (List UInt8 × Nat)) (n : Nat) : hidF L n 0 = findL L := by
 funext y
 unfold hidF;simp
theorem hidF_end {L : List (List UInt8 × Nat)} (h : (L.map Prod.fst).Nodup) (n : Nat) : hidF L n (L.length - n) = findL (L.take n) := by
 funext y
 unfold hidF;rw [findL_take h, List.take_of_length_le (by rw [List.length_drop]; exact Nat.le_refl _)]
theorem hid_step {L : List (List UInt8 × Nat)} (h : (L.map Prod.fst).Nodup) {n j : Nat} (hj : n + j < L.length) :
   (fun y => if y = L[n + j].1 then none else hidF L n j y) = hidF L n (j + 1) ∧ (hidF L n j L[n + j].1).isSome = true := by
 have hd : j < (L.drop n).length := by rw [List.length_drop]; omega
 have e1 : (L.drop n)[j] = L[n + j] := List.getElem_drop ..;have e2 : (L.drop n).take (j + 1) = (L.drop n).take j ++ [L[n + j]] := by rw [List.take_add_one, List.getElem?_eq_getElem hd, e1]; rfl
 have e3 : L = L.take n ++ ((L.drop n).take j ++ L[n + j] :: (L.drop n).drop (j + 1)) := by
   rw [← e1]
   conv => lhs; rw [← List.take_append_drop n L, ← List.take_append_drop j (L.drop n), List.drop_eq_getElem_cons hd]
 refine ⟨?_, ?_⟩
 · funext y
   unfold hidF;rw [e2, List.map_append, List.map_singleton];by_cases hy : y = L[n + j].1
   · rw [if_pos hy, if_pos (by rw [hy]; simp)]
   · rw [if_neg hy]
     by_cases hm : y ∈ ((L.drop n).take j).map Prod.fst
     · rw [if_pos hm, if_pos (List.mem_append.2 (.inl hm))]
     · rw [if_neg hm, if_neg (fun e => by rcases List.mem_append.1 e with e | e; exact hm e; exact hy (List.mem_singleton.1 e))]
 · unfold hidF
   have hnm : L[n + j].1 ∉ ((L.drop n).take j).map Prod.fst := by
     intro hm;have h2 := h;rw [e3, List.map_append, List.map_append, List.nodup_append] at h2;have h3 := h2.2.1;rw [List.nodup_append] at h3;exact h3.2.2 _ hm _ (by simp) rfl
   rw [if_neg hnm];cases hF : findL L L[n + j].1 with
   | some v => rfl
   | none => exact absurd (List.mem_map.2 ⟨_, List.getElem_mem hj, rfl⟩) (findL_none.1 hF)
theorem size_str (W : World) : (sizeOf (Tryd.prog.elem 73)).run Tryd.prog W = .ok 1 W := by
 obtain ⟨i0, hi, _, hz1, _⟩ := st_parts;have he : Tryd.prog.elem 73 = 9 := by kernel_rfl
 rw [he];simp [sizeOf, typeInfo, hi, hz1, Sem.run_bind, Result.andThen]
theorem add_zero (a : Addr) : a.add 0 = a := by
 obtain ⟨b, o, p⟩ := a;simp [Addr.add]
section
variable {w : World} {base : Nat} {na : Option Addr} {N nc : Nat} {ns : List (List UInt8)}
theorem NamesAt.cells (h : NamesAt w base (.slice na N nc) ns) (hN : N = ns.length) (h0 : 0 < N) : ∃ g, na = some ⟨g, 0, none⟩ ∧ ∀ i (hi : i < ns.length), w.cell? ⟨g, i, none⟩ = some (strV ns[i]) := by
 subst hN;obtain ⟨g, cap, e, _⟩ := ownsRow_head h h0;injection e with e1 _ e3;subst e1 e3;refine ⟨g, rfl, fun i hi => ?_⟩;rw [World.ownsRow.cellAt (g := g) (cap := nc) h i (by omega), List.getElem?_map, List.getElem?_eq_getElem hi];rfl
set_option maxRecDepth 20000 in
theorem run_tailN (na : Option Addr) (n M nc : Nat) : ∃ a' c', (∀ W, (Instr.slice 73 (.slice na (n + M) nc) (some (.int .i64 (n : Int))) none none).run Tryd.prog W = .ok (.slice a' M c') W) ∧ (0 < M → n + M ≤ nc → a' = na.map (·.add n)) := by
 refine ⟨if nc = n then na else na.map (·.add (n * 1)), nc - n, fun W => ?_, fun h h2 => ?_⟩
 · rw [run_slice_l (P := Tryd.prog) (w := W) 73 na (n + M) nc Tryd.underlying73 .i64 n (by omega) (by omega), size_str]
   simp only [Result.andThen, sliced, Int.toNat_natCast];rw [Nat.add_sub_cancel_left]
 · rw [if_neg (by omega), Nat.mul_one]
set_option maxRecDepth 20000 in
theorem run_headN (na : Option Addr) (N n nc : Nat) (h : n ≤ nc) : ∀ W, (Instr.slice 73 (.slice na N nc) none (some (.int .i64 (n : Int))) none).run Tryd.prog W = .ok (.slice na n nc) W := by
 intro W;rw [run_slice_h (P := Tryd.prog) (w := W) 73 na N nc Tryd.underlying73 .i64 n (by omega) (by omega), size_str];simp only [Result.andThen, sliced, Int.toNat_natCast, Nat.zero_mul, Nat.sub_zero]
 congr 2
 split
 · rfl
 · cases na with
   | none => rfl
   | some a => show some (a.add 0) = _; rw [add_zero]
theorem NamesAt.head (h : NamesAt w base (.slice na N nc) ns) (hN : N = ns.length) {n : Nat} (hn : n ≤ N) : NamesAt w base (.slice na n nc) (ns.take n) := by
 subst hN;unfold NamesAt;rw [List.length_take, Nat.min_eq_left hn, List.map_take];rcases Nat.eq_zero_or_pos ns.length with h0 | h0
 · have : n = 0 := by omega
   subst this;obtain rfl := List.length_eq_zero_iff.1 h0;exact h
 · obtain ⟨g, cap, e, _⟩ := ownsRow_head h h0
   injection e with e1 _ e3;subst e1 e3;have := ownsRow_cut h hn;rw [Nat.mul_one] at this;exact this
end
set_option maxRecDepth 20000 in
set_option maxHeartbeats 1000000 in
theorem hide_any {w : World} {base gs : Nat} {L : List (List UInt8 × Nat)} {made : Nat} (h : Sc w base gs L made) (hnd : (L.map Prod.fst).Nodup) (hlen : ∀ p ∈ L, p.1.length ≤ 9223372036854775807) (hL : L.length ≤ 1000000) {n : Nat} (hn : n ≤ L.length) :
   Calls Tryd.prog 36 #[.pointer (some ⟨gs, 0, none⟩), .int .i64 n] w fun e w' => e = .returned (.tuple #[]) ∧ Sc w' base gs (L.take n) made ∧ Only (Fsc base w) w w' := by
 obtain ⟨b, nv, hs, hm, hnm, hbb, hgb⟩ := h;have hbg : b ≠ gs := hm.ne_cells hs;obtain ⟨ns, hns⟩ := exHid (L.map Prod.fst);obtain ⟨M, hM⟩ : ∃ M, L.length = n + M := ⟨L.length - n, by omega⟩;have hLn : ns.length = n + M := by rw [← hns.out, List.length_map]; exact hM
 rw [hns.out] at hnm;have hgl := (Array.getElem?_eq_some_iff.1 hs).1;obtain ⟨na, nc, rfl, hn1, hn2⟩ := id hnm.shape;rw [hLn] at hn1 hs hnm;have c1 : w.cell? ⟨gs, 1, none⟩ = some (.slice na (n + M) nc) := by simp [World.cell?, hs]
 obtain ⟨a', c', hsl, ha'⟩ := run_tailN na n M nc;have hsh := run_headN na (n + M) n nc (by omega);have hcl := fun h0 => hnm.cells hLn.symm h0
 have hnh := Lib.hid (hnm.head hLn.symm (Nat.le_add_right n M));have hownb : ∀ k, (Value.slice na (n + M) nc).ownBlock = some k → k ≠ b := by
   intro k hk e;obtain ⟨_, _, cur, h3⟩ := hnm.block hk;rw [e] at h3;exact hm.ne_cells h3 rfl
 have hapart := Lib.hid (name_apart hnm hs);have hMM := Lib.hid hM;replace ha' := Lib.hid ha';replace hcl := Lib.hid hcl;replace hLn := Lib.hid hLn;have hMb : M ≤ 1000000 := by omega
 replace hownb := Lib.hid hownb;have hs0 := Lib.hid hs;have M0 := Lib.hid hm;replace hnd := Lib.hid hnd;replace hlen := Lib.hid hlen;have hnb : n + M ≤ 1000000 := by omega
 clear hm hs hnm hL hn hM;go_enter Tryd.func36, Tryd.ntmps36
 go_wp2_with fail
 go_loopw [5, 13] (fun t5 t13 wr => ∃ j : Nat, j ≤ M ∧ t13 = .int .i64 j ∧ Hid (MapS Tryd.prog 9 3 wr b (hidF L n j) (n + M - j)) ∧ Hid (Only (fun k => k = b) w wr)) (fun _ t13 _ => M - (intOf t13).toNat)
 case atStart => exact ⟨0, by omega, rfl, Lib.hid (by rw [hidF_zero, Nat.sub_zero, ← hMM.out]; exact M0.out), Lib.hid (Only.refl _ _)⟩
 case round =>
   obtain ⟨j, hj, rfl, hmj, hoj⟩ := hrel;have hsr := (hoj.out.block gs hgl (fun e => hbg e.symm)).trans hs0.out;rcases Nat.lt_or_ge j M with hlt | hge
   · have hlti : (j : Int) < (M : Int) := by omega
     obtain ⟨g, rfl, hcc⟩ := hcl.out (by omega);have hnl := hLn.out;have hjL : n + j < L.length := by have := hMM.out; omega
     have hgb' := hownb.out g rfl;have hx : ns[n + j]'(by omega) = L[n + j].1 := by
       have := hns.out;subst this;simp
     have y0 := hcc (n + j) (by omega);rw [hx] at y0;have ha2 := ha'.out (by omega) hn1;have y1 : wr.cell? ⟨g, n + j, none⟩ = some (.string ⟨L[n + j].1.toArray⟩) := (hoj.out.cell (World.block_lt_of_cell? _ _ y0) hgb').trans y0;simp only [Option.map_some, Addr.add, Nat.zero_add] at ha2;have ha3 : a' = some ⟨g, n, none⟩ := by
       rw [ha2];by_cases h0 : n = 0
       · rw [if_pos h0, h0]
       · rw [if_neg h0]
     clear ha2;subst ha3;have hk := hlen.out L[n + j] (List.getElem_mem hjL);obtain ⟨hf1, hf2⟩ := hid_step hnd.out hjL;have hcnt : n + M - j - 1 = n + M - (j + 1) := by omega
     obtain ⟨key, hkey⟩ := exHid L[n + j].1;rw [hkey.out] at y1 hk hf1 hf2;replace hf1 := Lib.hid hf1;replace hf2 := Lib.hid hf2;have x0 : wr.cell? ⟨gs, 0, none⟩ = some (.map (some b)) := by simp [World.cell?, hsr]
     clear hx hnl hjL hsr hkey hcc y0;obtain ⟨w2, hrun, hm2, hg2⟩ := hmj.out.drop Tryd.underlying9 Tryd.underlying72 hk 0;rw [hf1.out, hf2.out] at hm2;simp only [↓reduceIte, hcnt] at hm2;have ho2 := hoj.out.then (Only.of_grown (F := fun k => k = b) hg2 (fun k hk => by cases hk; rfl));replace hm2 := Lib.hid hm2;replace ho2 := Lib.hid ho2;clear hg2;go_wp2_with fail
     go_roundw
     case rel => exact ⟨j + 1, by omega, by go_num, hm2, ho2⟩
     case measure => simp [intOf]; omega
   · obtain rfl : j = M := by omega
     have hlti : ¬ ((j : Int) < (j : Int)) := by omega
     have x1 : wr.cell? ⟨gs, 1, none⟩ = some (.slice na (n + j) nc) := by simp [World.cell?, hsr]
     have f1 : wr.frozen? ⟨gs, 1, none⟩ = false := by simp [World.frozen?, hsr]
     replace hsr := Lib.hid hsr;have hne := hapart.out;have hsT := scOnly wr gs 1 (.slice na n nc);have hmE := hmj.out;have e1 : j = L.length - n := by have := hMM.out; omega
     have e2 : n + j - j = (L.take n).length := by rw [List.length_take]; have := hMM.out; omega
     have e3 : (L.take n).map Prod.fst = ns.take n := by rw [← hns.out, List.map_take]
     have hmF : MapS Tryd.prog 9 3 wr b (findL (L.take n)) (L.take n).length := by
       rw [← e2, ← hidF_end hnd.out n, ← e1];exact hmE
     have hnE : NamesAt wr base (.slice na n nc) (ns.take n) := ownsRow_only hnh.out hoj.out (fun g hg e => hownb.out g (by cases na <;> first | (simp [Value.ownBlock] at hg; done) | simpa [Value.ownBlock] using hg) e);have hfin : Sc (wr.setCell ⟨gs, 1, none⟩ (.slice na n nc)) base gs (L.take n) made := by
       refine ⟨b, .slice na n nc, ?_, hmF.kept hsT hbg, ?_, hbb, hgb⟩
       · have := heap_setCell_same wr gs 1 _ _ (.slice na n nc) hsr.out
         simpa using this
       · rw [e3]
         exact ownsRow_only hnE hsT (fun g hg e => by subst e; exact name_apart hnE hsr.out hg)
     have hofin : Only (Fsc base w) w (wr.setCell ⟨gs, 1, none⟩ (.slice na n nc)) := by
       refine hoj.out.trans (K := Fsc base w) hsT ?_ ?_
       · intro k _ e
         subst e;exact ⟨hbb, fun c t fr hc => absurd rfl (M0.out.ne_cells hc)⟩
       · intro k _ e
         subst e;refine ⟨hgb, fun c t fr hc => ?_⟩;rw [hs0.out] at hc;injection hc with hc;injection hc with _ hc _;exact .inl hc.symm
     replace hfin := Lib.hid hfin;replace hofin := Lib.hid hofin;clear hsT hmE e1 e2 e3 hmF hnE;go_wp2_with fail
     refine bodyPost_end (results_none rfl _ _ _) rfl ?_;exact ⟨rfl, hfin.out, hofin.out⟩
end Go.Proofs.YtefijbpbenmbgaaDoor
namespace Go.Proofs.YtefijbpbenmbgaaDoor
open Go.RowKit Go.Shelf
theorem ScV.made' {w : World} {base gs b : Nat} {v : Value} {L : List (List UInt8 × Nat)} {made : Nat} (h : ScV w base gs b v L made) (m : Nat) : ScV (w.setCell ⟨gs, 2, none⟩ (.int .i64 m)) base gs b v L m ∧ Only (Fsc base w) w (w.setCell ⟨gs, 2, none⟩ (.int .i64 m)) := by
 have hsT := scOnly w gs 2 (.int .i64 m);refine ⟨⟨?_, h.m.kept hsT (h.m.ne_cells h.s), ownsRow_only h.n hsT (fun g hg e => by subst e; exact name_apart h.n h.s hg), h.bb, h.gb⟩, hsT.mono (fun k _ e => ?_)⟩
 · have := heap_setCell_same w gs 2 _ _ (.int .i64 m) h.s
   simpa using this
 · subst e
   refine ⟨h.gb, fun c t fr hc => ?_⟩;rw [h.s] at hc;injection hc with hc;injection hc with _ hc _;exact .inl hc.symm
set_option maxRecDepth 20000 in
set_option maxHeartbeats 2000000 in
theorem slot_any {w : World} {base gs : Nat} {st : CSt} (h : Sc w base gs st.seen st.made) (x : Tw) (hl : x.text.length ≤ 9223372036854775807) (hm : st.made ≤ 100) :
   Calls Tryd.prog 34 #[.pointer (some ⟨gs, 0, none⟩), twV x] w fun e w' => e = .returned (.tuple #[.int .i64 (slotC st x).1, .int .i64 (slotC st x).2.2]) ∧ Sc w' base gs st.seen (slotC st x).2.1 ∧ Only (Fsc base w) w w' := by
 obtain ⟨op, kids, num, text⟩ := x;obtain ⟨l, L, made⟩ := st;obtain ⟨Z, hZ⟩ := exHid (slotC ⟨l, L, made⟩ ⟨op, kids, num, text⟩);rw [hZ.out];have hz := hZ.out;unfold slotC at hz;dsimp only at hz h hl hm ⊢;clear hZ;unfold twV;dsimp only;have hal := ((Below.refl w.heap.size w).alloc (Nat.le_refl _) (.cells #[.int .u8 op, .int .i64 kids, .int .i64 num, .string ⟨text.toArray⟩] 34)).drew;have hA := h.below hal;have hoA : Only (Fsc base w) w (w.alloc (.cells #[.int .u8 op, .int .i64 kids, .int .i64 num, .string ⟨text.toArray⟩] 34)).drew := Only.of_below hal;have y0 : (w.alloc (.cells #[.int .u8 op, .int .i64 kids, .int .i64 num, .string ⟨text.toArray⟩] 34)).cell? ⟨w.heap.size, 0, none⟩ = _ := one_cell w #[.int .u8 op, .int .i64 kids, .int .i64 num, .string ⟨text.toArray⟩] 34 0;have y3 : (w.alloc (.cells #[.int .u8 op, .int .i64 kids, .int .i64 num, .string ⟨text.toArray⟩] 34)).cell? ⟨w.heap.size, 3, none⟩ = _ := one_cell w #[.int .u8 op, .int .i64 kids, .int .i64 num, .string ⟨text.toArray⟩] 34 3;simp only [List.getElem?_toArray, List.getElem?_cons_succ, List.getElem?_cons_zero] at y0 y3;obtain ⟨b, nv, hV⟩ := hA;have hs := hV.s;have hlook := hV.m.look Tryd.underlying9 Tryd.underlying3 Tryd.underlying72 (zeroI _) hl;have hset := hV.made' (made + 1);have hVV := Lib.hid hV;have x0 : (w.alloc (.cells #[.int .u8 op, .int .i64 kids, .int .i64 num, .string ⟨text.toArray⟩] 34)).cell? ⟨gs, 0, none⟩ = some (.map (some b)) := by exact (show (w.alloc (.cells #[.int .u8 op, .int .i64 kids, .int .i64 num, .string ⟨text.toArray⟩] 34)).drew.cell? _ = _ by simp only [World.cell?, hs]; rfl)
 have x2 : (w.alloc (.cells #[.int .u8 op, .int .i64 kids, .int .i64 num, .string ⟨text.toArray⟩] 34)).cell? ⟨gs, 2, none⟩ = some (.int .i64 made) := by exact (show (w.alloc (.cells #[.int .u8 op, .int .i64 kids, .int .i64 num, .string ⟨text.toArray⟩] 34)).drew.cell? _ = _ by simp only [World.cell?, hs]; rfl)
 have f2 : (w.alloc (.cells #[.int .u8 op, .int .i64 kids, .int .i64 num, .string ⟨text.toArray⟩] 34)).frozen? ⟨gs, 2, none⟩ = false := by exact (show (w.alloc (.cells #[.int .u8 op, .int .i64 kids, .int .i64 num, .string ⟨text.toArray⟩] 34)).drew.frozen? _ = _ by simp only [World.frozen?, hs]; rfl)
 have z2 : ((w.alloc (.cells #[.int .u8 op, .int .i64 kids, .int .i64 num, .string ⟨text.toArray⟩] 34)).drew.setCell ⟨gs, 2, none⟩ (.int .i64 ((made : Int) + 1))).cell? ⟨gs, 2, none⟩ = some (.int .i64 ((made : Int) + 1)) := by
   have := hset.1.s;have e : (((made + 1 : Nat)) : Int) = (made : Int) + 1 := by omega
   rw [e] at this;simp only [World.cell?, this];rfl
 have hoS : Only (Fsc base w) w ((w.alloc (.cells #[.int .u8 op, .int .i64 kids, .int .i64 num, .string ⟨text.toArray⟩] 34)).drew.setCell ⟨gs, 2, none⟩ (.int .i64 ((made : Int) + 1))) := (hoA.setCell (p := ⟨gs, 2, none⟩) (by
   rcases Nat.lt_or_ge gs w.heap.size with hg | hg
   · refine .inl ⟨hV.gb, fun c t fr hc => ?_⟩
     obtain ⟨b', v', hV'⟩ := h;rw [hV'.s] at hc;injection hc with hc;injection hc with _ hc _;exact .inl hc.symm
   · exact .inr hg) _)
 have hm1 : ((made : Int) == 100) = decide (made = 100) := by
   by_cases h : made = 100
   · subst h; rfl
   · rw [decide_eq_false h]; exact beq_eq_false_iff_ne.2 (by omega)
 have hset1 : Sc ((w.alloc (.cells #[.int .u8 op, .int .i64 kids, .int .i64 num, .string ⟨text.toArray⟩] 34)).drew.setCell ⟨gs, 2, none⟩ (.int .i64 ((made : Int) + 1))) base gs L (made + 1) := ⟨b, nv, hset.1⟩;replace hset1 := Lib.hid hset1;replace hoS := Lib.hid hoS;replace hoA := Lib.hid hoA;clear hs h hV hal hset;by_cases c2 : op = 2
 · rw [if_pos (.inl c2)] at hz
   have q2 : ((op : Int) == 2) = true := by rw [c2]; rfl
   replace c2 := Lib.hid c2;cases hF : findL L text with
   | some v =>
     rw [hF] at hz hlook;simp only [Option.isSome_some, ↓reduceIte] at hz hlook;subst hz;clear hm1 z2;go_enter Tryd.func34, Tryd.ntmps34
     go_wp2_with fail
     go_region
     go_wp2_with fail
     go_ret2
     exact ⟨rfl, ⟨b, nv, hVV.out⟩, hoA.out⟩
   | none =>
     rw [hF] at hz hlook;simp only [Option.isSome_none, Bool.false_eq_true, ↓reduceIte] at hz hlook;by_cases h100 : made = 100
     · subst h100
       rw [if_pos rfl] at hz;subst hz;clear hm1 z2;go_enter Tryd.func34, Tryd.ntmps34
       go_wp2_with fail
       go_region
       go_wp2_with fail
       go_ret2
       exact ⟨rfl, ⟨b, nv, hVV.out⟩, hoA.out⟩
     · rw [if_neg h100] at hz
       subst hz;rw [decide_eq_false h100] at hm1;have hsub : ((made : Int) + 1 - 1) = made := by omega
       go_enter Tryd.func34, Tryd.ntmps34
       go_wp2_with fail
       go_region
       go_wp2_with fail
       go_ret2
       exact ⟨rfl, hset1.out, hoS.out⟩
 by_cases c4 : op = 4
 · rw [if_pos (.inr c4)] at hz
   have q4 : ((op : Int) == 4) = true := by rw [c4]; rfl
   have q2 : ((op : Int) == 2) = false := beq_eq_false_iff_ne.2 (by omega);replace c4 := Lib.hid c4;cases hF : findL L text with
   | some v =>
     rw [hF] at hz hlook;simp only [Option.isSome_some, ↓reduceIte] at hz hlook;subst hz;clear hm1 z2;go_enter Tryd.func34, Tryd.ntmps34
     go_wp2_with fail
     go_region
     go_wp2_with fail
     go_ret2
     exact ⟨rfl, ⟨b, nv, hVV.out⟩, hoA.out⟩
   | none =>
     rw [hF] at hz hlook;simp only [Option.isSome_none, Bool.false_eq_true, ↓reduceIte] at hz hlook;by_cases h100 : made = 100
     · subst h100
       rw [if_pos rfl] at hz;subst hz;clear hm1 z2;go_enter Tryd.func34, Tryd.ntmps34
       go_wp2_with fail
       go_region
       go_wp2_with fail
       go_ret2
       exact ⟨rfl, ⟨b, nv, hVV.out⟩, hoA.out⟩
     · rw [if_neg h100] at hz
       subst hz;rw [decide_eq_false h100] at hm1;have hsub : ((made : Int) + 1 - 1) = made := by omega
       go_enter Tryd.func34, Tryd.ntmps34
       go_wp2_with fail
       go_region
       go_wp2_with fail
       go_ret2
       exact ⟨rfl, hset1.out, hoS.out⟩
 by_cases c5 : op = 5
 · rw [if_neg (by omega), if_pos (.inl c5)] at hz
   have q5 : ((op : Int) == 5) = true := by rw [c5]; rfl
   have q2 : ((op : Int) == 2) = false := beq_eq_false_iff_ne.2 (by omega);have q4 : ((op : Int) == 4) = false := beq_eq_false_iff_ne.2 (by omega);replace c5 := Lib.hid c5;clear hm1 z2;cases hF : findL L text with
   | some v =>
     rw [hF] at hz hlook;simp only [Option.isSome_some] at hz hlook;subst hz;go_enter Tryd.func34, Tryd.ntmps34
     go_wp2_with fail
     go_region
     go_wp2_with fail
     go_ret2
     exact ⟨rfl, ⟨b, nv, hVV.out⟩, hoA.out⟩
   | none =>
     rw [hF] at hz hlook;simp only [Option.isSome_none] at hz hlook;subst hz;go_enter Tryd.func34, Tryd.ntmps34
     go_wp2_with fail
     go_region
     go_wp2_with fail
     go_ret2
     exact ⟨rfl, ⟨b, nv, hVV.out⟩, hoA.out⟩
 by_cases c26 : op = 26
 · rw [if_neg (by omega), if_pos (.inr c26)] at hz
   have q26 : ((op : Int) == 26) = true := by rw [c26]; rfl
   have q2 : ((op : Int) == 2) = false := beq_eq_false_iff_ne.2 (by omega);have q4 : ((op : Int) == 4) = false := beq_eq_false_iff_ne.2 (by omega);have q5 : ((op : Int) == 5) = false := beq_eq_false_iff_ne.2 (by omega);replace c26 := Lib.hid c26;clear hm1 z2;cases hF : findL L text with
   | some v =>
     rw [hF] at hz hlook;simp only [Option.isSome_some] at hz hlook;subst hz;go_enter Tryd.func34, Tryd.ntmps34
     go_wp2_with fail
     go_region
     go_wp2_with fail
     go_ret2
     exact ⟨rfl, ⟨b, nv, hVV.out⟩, hoA.out⟩
   | none =>
     rw [hF] at hz hlook;simp only [Option.isSome_none] at hz hlook;subst hz;go_enter Tryd.func34, Tryd.ntmps34
     go_wp2_with fail
     go_region
     go_wp2_with fail
     go_ret2
     exact ⟨rfl, ⟨b, nv, hVV.out⟩, hoA.out⟩
 have q2 : ((op : Int) == 2) = false := beq_eq_false_iff_ne.2 (by omega);have q4 : ((op : Int) == 4) = false := beq_eq_false_iff_ne.2 (by omega);have q5 : ((op : Int) == 5) = false := beq_eq_false_iff_ne.2 (by omega);have q26 : ((op : Int) == 26) = false := beq_eq_false_iff_ne.2 (by omega);rw [if_neg (by omega), if_neg (by omega)] at hz;subst hz;clear hm1 z2;cases hF : findL L text with
 | some v =>
   rw [hF] at hlook;simp only [Option.isSome_some] at hlook;go_enter Tryd.func34, Tryd.ntmps34
   go_wp2_with fail
   go_region
   go_wp2_with fail
   go_ret2
   exact ⟨rfl, ⟨b, nv, hVV.out⟩, hoA.out⟩
 | none =>
   rw [hF] at hlook;simp only [Option.isSome_none] at hlook;go_enter Tryd.func34, Tryd.ntmps34
   go_wp2_with fail
   go_region
   go_wp2_with fail
   go_ret2
   exact ⟨rfl, ⟨b, nv, hVV.out⟩, hoA.out⟩
end Go.Proofs.YtefijbpbenmbgaaDoor
namespace Go.Proofs.YtefijbpbenmbgaaDoor
open Go.RowKit Go.Shelf
theorem heldC {F : Nat → Prop} {W W' : World} (ho : Only F W W') {B : Nat} {o : Obj} (h : W.heap[B]? = some o) (hB : ¬ F B) : W'.heap[B]? = some o := (ho.block B (Array.getElem?_eq_some_iff.1 h).1 hB).trans h
theorem cellC {W : World} {b : Nat} {cs : Array Value} {t : TypeId} (h : W.heap[b]? = some (.cells cs t (0, 0))) (j : Nat) : W.cell? ⟨b, j, none⟩ = cs[j]? := by simp [World.cell?, h]
theorem fzC {W : World} {b : Nat} {cs : Array Value} {t : TypeId} (h : W.heap[b]? = some (.cells cs t (0, 0))) (j : Nat) : W.frozen? ⟨b, j, none⟩ = false := by simp [World.frozen?, h]
theorem stored4C {W : World} {b : Nat} {x0 x1 x2 x3 : Value} {t : TypeId} (h : W.heap[b]? = some (.cells #[x0, x1, x2, x3] t (0, 0))) (a c d e : Value) :
   ((((W.setCell ⟨b, 0, none⟩ a).setCell ⟨b, 1, none⟩ c).setCell ⟨b, 2, none⟩ d).setCell ⟨b, 3, none⟩ e).heap[b]? = some (.cells #[a, c, d, e] t (0, 0)) ∧ Only (fun k => k = b) W ((((W.setCell ⟨b, 0, none⟩ a).setCell ⟨b, 1, none⟩ c).setCell ⟨b, 2, none⟩ d).setCell ⟨b, 3, none⟩ e) := by
 constructor
 · have a1 := heap_setCell_same W b 0 _ _ a h
   have a2 := heap_setCell_same _ b 1 _ _ c a1;have a3 := heap_setCell_same _ b 2 _ _ d a2;have a4 := heap_setCell_same _ b 3 _ _ e a3
   simpa using a4
 · exact ((((Only.refl (fun k => k = b) W).setCell (p := ⟨b, 0, none⟩) (.inl rfl) a).setCell (p := ⟨b, 1, none⟩) (.inl rfl) c).setCell (p := ⟨b, 2, none⟩) (.inl rfl) d).setCell (p := ⟨b, 3, none⟩) (.inl rfl) e
def intV (n : Int) : Value := .int .i64 n
def IntsAt (w : World) (base : Nat) (v : Value) (ns : List Int) : Prop := w.ownsRow base 3 1 v ns.length (ns.map intV)
theorem int_info : (Tryd.prog.info? 3).map (fun i => (i.zero, i.size, i.bytes)) = some (some (.int .i64 0), 1, 8) := by kernel_rfl
theorem int_parts : ∃ i0, Tryd.prog.info? 3 = some i0 ∧ i0.zero = some (.int .i64 0) ∧ i0.size = 1 ∧ i0.bytes = 8 := by
 have h := int_info;cases hi : Tryd.prog.info? 3 with
 | none => rw [hi] at h; simp at h
 | some i0 =>
   rw [hi] at h;simp at h
   exact ⟨i0, rfl, h.1, h.2.1, h.2.2⟩
section
variable {w W : World} {base : Nat} {v : Value} {ns : List Int}
theorem IntsAt.shape (h : IntsAt w base v ns) : ∃ a cap, v = .slice a ns.length cap ∧ ns.length ≤ cap ∧ cap ≤ 9223372036854775807 := ownsRow_shape h
theorem IntsAt.below (h : IntsAt w base v ns) (hb : Below w.heap.size w W) : IntsAt W base v ns := ownsRow_only (F := fun _ => False) h (Only.of_below hb) (fun _ _ h => h)
theorem IntsAt.block (h : IntsAt w base v ns) {g : Nat} (hg : v.ownBlock = some g) : base ≤ g ∧ g < w.heap.size ∧ ∃ cur, w.heap[g]? = some (.cells cur 3 (0, 0)) := by
 rcases h.2 with ⟨hv, _⟩ | ⟨g', cap, cur, hv, hb, hgg, _⟩
 · rw [hv] at hg; cases hg
 · rw [hv] at hg
   have e1 : g = g' := by simpa [Value.ownBlock] using hg.symm
   subst e1;exact ⟨hb, (Array.getElem?_eq_some_iff.1 hgg).1, _, hgg⟩
theorem IntsAt.apart {cs : Array Value} {t : TypeId} {gl : Nat} (h : IntsAt w base v ns) (hs : w.heap[gl]? = some (.cells cs t (0, 0))) (ht : t ≠ 3) : ¬ v.ownBlock = some gl := by
 intro e;obtain ⟨_, _, cur, h3⟩ := h.block e;rw [h3] at hs;injection hs with hs;injection hs with _ hs _;exact ht hs.symm
end
theorem wpList_append_int {w : World} {base : Nat} {v : Value} {ns : List Int} {n : Int} {ops : Array Oper} {rest : List Oper} {o : Oper} {a : Act} {Q : Exit → Act → World → Prop} (hgd : o.guard = none) (s x : Operand)
   (ho : o.op = .call { callee := .builtin .append, args := #[s, x], argTypes := #[41, 41] })
   (hs : a.eval s = v) (hown : IntsAt w base v ns) {G : Nat} (hx : a.eval x = .slice (some ⟨G, 0, none⟩) 1 1) (hc : w.cell? ⟨G, 0, none⟩ = some (intV n))
   (hk : ns.length ≤ 1000000000) (hbase : base ≤ w.heap.size)
   (h : ∀ a' cap w', IntsAt w' base (.slice a' (ns.length + 1) cap) (ns ++ [n]) → Only (fun k => v.ownBlock = some k) w w' → wpList Tryd.prog ops Q rest (a.put o.dst (.slice a' (ns.length + 1) cap)) w') : wpList Tryd.prog ops Q (o :: rest) a w := by
 obtain ⟨i0, hi, hz0, hz1, hz2⟩ := int_parts;refine wpList_append_own_at _ hgd s x 41 ho base 3 i0 (.int .i64 0) 1 8 Tryd.underlying41 hi hz0 hz1 hz2 rfl (by decide) v ns.length (ns.map intV) hs hown ⟨G, 0, none⟩ 1 1 [intV n] hx rfl ?_ (by intro u hu; simp at hu; subst hu; rfl) (by unfold maxLen; omega) (by omega) hbase ?_
 · intro j y hj
   match j, hj with
   | 0, hj =>
     simp at hj
     subst hj
     simpa [Addr.add] using hc
 · intro v' w' h2 h3 _ _
   have hT : IntsAt w' base v' (ns ++ [n]) := by
     unfold IntsAt;rw [List.length_append, List.length_singleton, List.map_append];exact h2
   obtain ⟨a', cap, e, _⟩ := hT.shape;rw [List.length_append, List.length_singleton] at e;subst e;exact h a' cap w' hT (Only.of_grown h3 (fun k hk => hk))
def Fps (base : Nat) (w : World) (k : Nat) : Prop := base ≤ k ∧ ∀ c t fr, w.heap[k]? = some (.cells c t fr) → t = 75 ∨ t = 9 ∨ t = 3 ∨ t = 41
theorem Fsc.ps {base : Nat} {w : World} {k : Nat} (h : Fsc base w k) : Fps base w k := ⟨h.1, fun c t fr hc => by rcases h.2 c t fr hc with h | h; exact .inl h; exact .inr (.inl h)⟩
def capsC (gt gl gs gp : Nat) : Array Value := #[.pointer (some ⟨gt, 0, none⟩), .pointer (some ⟨gl, 0, none⟩), .pointer (some ⟨gs, 0, none⟩), .pointer (some ⟨gp, 0, none⟩)]
structure CMem (w0 w : World) (gt gl gs gp : Nat) (v : Value) (ts : List Tw) (st : CSt) : Prop where
 b : Below w0.heap.size w0 w
 tw : TwIn w0 v ts
 t : w.heap[gt]? = some (.cells #[v] 23 (0, 0))
 p : w.heap[gp]? = some (.cells #[.func (.func 33) #[] (capsC gt gl gs gp)] 76 (0, 0))
 l : ∃ lv, w.heap[gl]? = some (.cells #[lv] 41 (0, 0)) ∧ IntsAt w w0.heap.size lv st.l
 lb : w0.heap.size ≤ gl
 s : Sc w w0.heap.size gs st.seen st.made
section
variable {w0 w W : World} {gt gl gs gp : Nat} {v : Value} {ts : List Tw} {st : CSt}
theorem CMem.keep {F : Nat → Prop} (h : CMem w0 w gt gl gs gp v ts st) (ho : Only F w W) (hF : ∀ k, F k → w0.heap.size ≤ k) (hn : ∀ k, F k → ¬ Fps w0.heap.size w k) (hg : ¬ F gt) (hq : ¬ F gp) : CMem w0 W gt gl gs gp v ts st := by
 obtain ⟨lv, l1, l2⟩ := h.l;refine ⟨h.b.trans (ho.below h.b.size (fun k hk e => by have := hF k e; omega)), h.tw, heldC ho h.t hg, heldC ho h.p hq, ⟨lv, heldC ho l1 (fun e => hn _ e ⟨h.lb, fun c t fr hc => ?_⟩), ownsRow_only l2 ho (fun g hg e => ?_)⟩, h.lb, h.s.kept ho (fun k e hk => hn k e hk.ps)⟩
 · rw [l1] at hc
   injection hc with hc;injection hc with _ hc _;exact .inr (.inr (.inr hc.symm))
 · obtain ⟨n1, n2, cur, n3⟩ := l2.block hg
   refine hn _ e ⟨n1, fun c t fr hc => ?_⟩;rw [n3] at hc;injection hc with hc;injection hc with _ hc _;exact .inr (.inr (.inl hc.symm))
theorem CMem.below (h : CMem w0 w gt gl gs gp v ts st) (hb : Below w.heap.size w W) : CMem w0 W gt gl gs gp v ts st :=
 h.keep (F := fun _ => False) (Only.of_below hb) (fun _ e => e.elim) (fun _ e => e.elim) (fun e => e) (fun e => e)
theorem notF {base k : Nat} {cs : Array Value} {t : TypeId} {fr : Nat × Nat} (h : w.heap[k]? = some (.cells cs t fr)) (ht : t ≠ 75 ∧ t ≠ 9) : ¬ Fsc base w k := fun e => by
 rcases e.2 _ _ _ h with h | h
 · exact ht.1 h
 · exact ht.2 h
theorem notP {base k : Nat} {cs : Array Value} {t : TypeId} {fr : Nat × Nat} (h : w.heap[k]? = some (.cells cs t fr)) (ht : t ≠ 75 ∧ t ≠ 9 ∧ t ≠ 3 ∧ t ≠ 41) : ¬ Fps base w k := fun e => by
 rcases e.2 _ _ _ h with h | h | h | h
 · exact ht.1 h
 · exact ht.2.1 h
 · exact ht.2.2.1 h
 · exact ht.2.2.2 h
theorem CMem.scope {L : List (List UInt8 × Nat)} {made : Nat} (h : CMem w0 w gt gl gs gp v ts st) (hS : Sc W w0.heap.size gs L made) (ho : Only (Fsc w0.heap.size w) w W) : CMem w0 W gt gl gs gp v ts ⟨st.l, L, made⟩ := by
 obtain ⟨lv, l1, l2⟩ := h.l;refine ⟨h.b.trans (ho.below h.b.size (fun k hk e => by have := e.1; omega)), h.tw, heldC ho h.t (notF h.t (by decide)), heldC ho h.p (notF h.p (by decide)), ⟨lv, heldC ho l1 (notF l1 (by decide)), ownsRow_only l2 ho (fun g hg e => ?_)⟩, h.lb, hS⟩;obtain ⟨n1, n2, cur, n3⟩ := l2.block hg;exact notF n3 (by decide) e
theorem CMem.push {s : Int} {lv v3 : Value} {w3 : World} (h : CMem w0 w gt gl gs gp v ts st) (l1 : w.heap[gl]? = some (.cells #[lv] 41 (0, 0))) (l2 : IntsAt w w0.heap.size lv st.l)
   (hn : IntsAt w3 w0.heap.size v3 (st.l ++ [s])) (ho : Only (fun k => lv.ownBlock = some k) (w.alloc (.cells #[.int .i64 s] 3)) w3) :
   CMem w0 (w3.setCell ⟨gl, 0, none⟩ v3) gt gl gs gp v ts ⟨st.l ++ [s], st.seen, st.made⟩ ∧ Only (Fps w0.heap.size w) w (w3.setCell ⟨gl, 0, none⟩ v3) := by
 have hal : Only (fun _ => False) w (w.alloc (.cells #[.int .i64 s] 3)) := Only.of_below ((Below.refl w.heap.size w).alloc (Nat.le_refl _) _);have hgl := (Array.getElem?_eq_some_iff.1 l1).1;have lA := heldC hal l1 (fun h => h);have iA : IntsAt (w.alloc (.cells #[.int .i64 s] 3)) w0.heap.size lv st.l := ownsRow_only l2 hal (fun _ _ h => h);have l3 : w3.heap[gl]? = some (.cells #[lv] 41 (0, 0)) := heldC ho lA (iA.apart lA (by decide));have hsT := scOnly w3 gl 0 v3;have hO : Only (fun k => lv.ownBlock = some k ∨ k = gl) w (w3.setCell ⟨gl, 0, none⟩ v3) := (hal.trans (K := fun k => lv.ownBlock = some k ∨ k = gl) ho (fun _ _ h => h.elim) (fun _ _ h => .inl h)).trans (K := fun k => lv.ownBlock = some k ∨ k = gl) hsT (fun _ _ h => h) (fun _ _ h => .inr h);have hF : ∀ k, (lv.ownBlock = some k ∨ k = gl) → w0.heap.size ≤ k ∧ (∃ c t, w.heap[k]? = some (.cells c t (0, 0)) ∧ (t = 3 ∨ t = 41)) := by
   intro k hk;rcases hk with hk | hk
   · obtain ⟨n1, _, cur, n3⟩ := l2.block hk
     exact ⟨n1, cur, _, n3, .inl rfl⟩
   · subst hk
     exact ⟨h.lb, _, _, l1, .inr rfl⟩
 have hne : ∀ {k : Nat} {cs : Array Value} {t : TypeId}, w.heap[k]? = some (.cells cs t (0, 0)) → t ≠ 3 ∧ t ≠ 41 → ¬ (lv.ownBlock = some k ∨ k = gl) := by
   intro k cs t hk ht e;obtain ⟨_, c, t', h1, h2⟩ := hF k e;rw [hk] at h1;injection h1 with h1;injection h1 with _ h1 _;rcases h2 with h2 | h2
   · exact ht.1 (h1.trans h2)
   · exact ht.2 (h1.trans h2)
 refine ⟨⟨h.b.trans (hO.below h.b.size (fun k hk e => by have := (hF k e).1; omega)), h.tw, heldC hO h.t (hne h.t (by decide)), heldC hO h.p (hne h.p (by decide)), ⟨v3, ?_, ownsRow_only hn hsT (fun g hg e => by subst e; exact hn.apart l3 (by decide) hg)⟩, h.lb, h.s.kept hO (fun k e hk => ?_)⟩, hO.mono (fun k _ e => ?_)⟩
 · have := heap_setCell_same w3 gl 0 _ _ v3 l3
   simpa using this
 · obtain ⟨_, c, t', h1, h2⟩ := hF k e
   rcases hk.2 _ _ _ h1 with h3 | h3 <;> rcases h2 with h2 | h2 <;> (rw [h2] at h3; revert h3; decide)
 · obtain ⟨e1, c, t', h1, h2⟩ := hF k e
   refine ⟨e1, fun c2 t2 fr hc => ?_⟩;rw [h1] at hc;injection hc with hc;injection hc with _ hc _;rcases h2 with h2 | h2
   · exact .inr (.inr (.inl (hc.symm.trans h2)))
   · exact .inr (.inr (.inr (hc.symm.trans h2)))
theorem fps_back {base : Nat} (ho : Only (Fps base w) w W) {k : Nat} (hk : k < w.heap.size) (h : Fps base W k) : Fps base w k := by
 by_cases hw : Fps base w k
 · exact hw
 · have e := ho.block k hk hw
   exact ⟨h.1, fun c t fr hc => h.2 c t fr (e.trans hc)⟩
theorem ps_then {base : Nat} {W2 : World} (h1 : Only (Fps base w) w W) (h2 : Only (Fps base W) W W2) : Only (Fps base w) w W2 := h1.trans h2 (fun _ _ h => h) (fun _ hk h => fps_back h1 hk h)
theorem sc_ps {base : Nat} (h : Only (Fsc base w) w W) : Only (Fps base w) w W := h.mono (fun _ _ e => e.ps)
end
end Go.Proofs.YtefijbpbenmbgaaDoor
namespace Go.Proofs.YtefijbpbenmbgaaDoor
open Go.RowKit Go.Shelf
def NumsIn (w : World) (v : Value) (l : List Int) : Prop :=
 ∃ a cap, v = .slice a l.length cap ∧ l.length ≤ cap ∧ cap ≤ 9223372036854775807 ∧ (0 < l.length → ∃ g off, a = some ⟨g, off, none⟩ ∧ g < w.heap.size ∧ ∀ i (hi : i < l.length), w.cell? ⟨g, off + i, none⟩ = some (.int .i64 l[i]))
theorem IntsAt.nums {w : World} {base : Nat} {v : Value} {l : List Int} (h : IntsAt w base v l) : NumsIn w v l := by
 rcases h.2 with ⟨hv, h0⟩ | ⟨g, cap, cur, hv, hb, hg, hnc, hcm, hsz, ht⟩
 · exact ⟨none, 0, by rw [hv, h0], by omega, by omega, fun h => by omega⟩
 · refine ⟨_, cap, hv, hnc, by unfold maxLen at hcm; omega, fun h0 => ⟨g, 0, rfl, (Array.getElem?_eq_some_iff.1 hg).1, fun i hi => ?_⟩⟩
   have hh := h;unfold IntsAt at hh;rw [hv] at hh;have := World.ownsRow.cellAt (g := g) (cap := cap) hh i (by omega);rw [Nat.zero_add, this, List.getElem?_map, List.getElem?_eq_getElem hi];rfl
set_option maxRecDepth 20000 in
theorem size_ints (W : World) : (sizeOf (Tryd.prog.elem 41)).run Tryd.prog W = .ok 1 W := by kernel_rfl
set_option maxRecDepth 20000 in
theorem size_twigs (W : World) : (sizeOf (Tryd.prog.elem 22)).run Tryd.prog W = .ok 4 W := by kernel_rfl
set_option maxRecDepth 20000 in
theorem NumsIn.tail {w : World} {v : Value} {s : Int} {l : List Int} (h : NumsIn w v (s :: l)) : ∃ u, (∀ W, (Instr.slice 41 v (some (.int .i64 1)) none none).run Tryd.prog W = .ok u W) ∧ NumsIn w u l := by
 obtain ⟨a, cap, rfl, hc, hm, h3⟩ := h;simp only [List.length_cons] at *;obtain ⟨g, off, rfl, hg, hcc⟩ := h3 (by omega);refine ⟨.slice (if cap = 1 then some ⟨g, off, none⟩ else some ⟨g, off + 1, none⟩) l.length (cap - 1), fun W => ?_, ?_⟩
 · rw [run_slice_l (P := Tryd.prog) (w := W) 41 _ (l.length + 1) cap Tryd.underlying41 .i64 1 (by omega) (by omega), size_ints]
   simp [Result.andThen, sliced, Addr.add]
 · refine ⟨_, _, rfl, by omega, by omega, fun h0 => ?_⟩
   rw [if_neg (by omega)];refine ⟨g, off + 1, rfl, hg, fun i hi => ?_⟩;have := hcc (i + 1) (by omega);rw [show off + 1 + i = off + (i + 1) by omega, this];rfl
set_option maxRecDepth 20000 in
theorem TwIn.tail1 {w : World} {v : Value} {x : Tw} {l : List Tw} (h : TwIn w v (x :: l)) : ∃ u, (∀ W, (Instr.slice 22 v (some (.int .i64 1)) none none).run Tryd.prog W = .ok u W) ∧ TwIn w u l := by
 obtain ⟨a, cap, rfl, hc, hm, h3⟩ := h;simp only [List.length_cons] at *;obtain ⟨g, off, rfl, hg, hcc⟩ := h3 (by omega);refine ⟨.slice (if cap = 1 then some ⟨g, off, none⟩ else some ⟨g, off + 4, none⟩) l.length (cap - 1), fun W => ?_, ?_⟩
 · rw [run_slice_l (P := Tryd.prog) (w := W) 22 _ (l.length + 1) cap Tryd.underlying22 .i64 1 (by omega) (by omega), size_twigs]
   simp [Result.andThen, sliced, Addr.add]
 · refine ⟨_, _, rfl, by omega, by omega, fun h0 => ?_⟩
   rw [if_neg (by omega)];refine ⟨g, off + 4, rfl, hg, fun i hi c hc4 => ?_⟩;have := hcc (i + 1) (by omega) c hc4;rw [show off + 4 + i * 4 + c = off + (i + 1) * 4 + c by omega, this];rfl
structure CM (w0 W : World) (bc : Nat) (tl : List Tw) (code : List Ins) : Prop where
 b : Below w0.heap.size w0 W
 hb : w0.heap.size ≤ bc
 mem : ∃ cv tv sv sl, W.heap[bc]? = some (.cells #[cv, tv, sv] 47 (0, 0)) ∧ InsAt W w0.heap.size cv code ∧ TwIn w0 tv tl ∧ NumsIn w0 sv sl ∧ SlotsFit tl sl
 fit : ∀ x ∈ tl, FitT x
def Fcm (base : Nat) (w : World) (k : Nat) : Prop := base ≤ k ∧ ∀ c t fr, w.heap[k]? = some (.cells c t fr) → t = 47 ∨ t = 36
section
variable {w0 w W : World} {bc : Nat} {tl : List Tw} {code : List Ins}
theorem notC {base k : Nat} {cs : Array Value} {t : TypeId} {fr : Nat × Nat} (h : w.heap[k]? = some (.cells cs t fr)) (ht : t ≠ 47 ∧ t ≠ 36) : ¬ Fcm base w k := fun e => by
 rcases e.2 _ _ _ h with h | h
 · exact ht.1 h
 · exact ht.2 h
theorem cm_back {base : Nat} (ho : Only (Fcm base w) w W) {k : Nat} (_hk : k < w.heap.size) (h : Fcm base W k) : Fcm base w k := by
 by_cases hw : Fcm base w k
 · exact hw
 · have e := ho.block k _hk hw
   exact ⟨h.1, fun c t fr hc => h.2 c t fr (e.trans hc)⟩
theorem cm_then {base : Nat} {W2 : World} (h1 : Only (Fcm base w) w W) (h2 : Only (Fcm base W) W W2) : Only (Fcm base w) w W2 := h1.trans h2 (fun _ _ h => h) (fun _ hk h => cm_back h1 hk h)
theorem InsAt.block {base : Nat} {v : Value} {ns : List Ins} (h : InsAt w base v ns) {g : Nat} (hg : v.ownBlock = some g) : base ≤ g ∧ g < w.heap.size ∧ ∃ cur, w.heap[g]? = some (.cells cur 36 (0, 0)) := by
 rcases h.2 with ⟨hv, _⟩ | ⟨g', cap, cur, hv, hb, hgg, _⟩
 · rw [hv] at hg; cases hg
 · rw [hv] at hg
   have e1 : g = g' := by simpa [Value.ownBlock] using hg.symm
   subst e1;exact ⟨hb, (Array.getElem?_eq_some_iff.1 hgg).1, _, hgg⟩
theorem InsAt.apart {base : Nat} {v : Value} {ns : List Ins} {cs : Array Value} {t : TypeId} {gl : Nat} (h : InsAt w base v ns) (hs : w.heap[gl]? = some (.cells cs t (0, 0))) (ht : t ≠ 36) : ¬ v.ownBlock = some gl := by
 intro e;obtain ⟨_, _, cur, h3⟩ := h.block e;rw [h3] at hs;injection hs with hs;injection hs with _ hs _;exact ht hs.symm
theorem CM.below (h : CM w0 w bc tl code) (hb : Below w.heap.size w W) : CM w0 W bc tl code := by
 obtain ⟨cv, tv, sv, sl, h1, h2, h3, h4, h5⟩ := h.mem;exact ⟨h.b.trans (hb.mono h.b.size), h.hb, ⟨cv, tv, sv, sl, heldC (F := fun _ => False) (Only.of_below hb) h1 (fun e => e), h2.below hb, h3, h4, h5⟩, h.fit⟩
end
theorem stored3 {W : World} {b : Nat} {x0 x1 x2 : Value} {t : TypeId} (h : W.heap[b]? = some (.cells #[x0, x1, x2] t (0, 0))) (a : Value) : (W.setCell ⟨b, 0, none⟩ a).heap[b]? = some (.cells #[a, x1, x2] t (0, 0)) := by
 have := heap_setCell_same W b 0 _ _ a h
 simpa using this
end Go.Proofs.YtefijbpbenmbgaaDoor
