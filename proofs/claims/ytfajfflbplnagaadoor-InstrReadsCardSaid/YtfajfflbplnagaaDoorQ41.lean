/- A part of the proof: JLink, IWs. No condition. -/
import Derived.Maps.AppendAt
import Derived.Test.YtfajfflbplnagaaDoorQ04
import Derived.Test.YtfajfflbplnagaaDoorQ40
set_option linter.unusedVariables false
set_option linter.unusedSimpArgs false
namespace Go.Proofs.YtfajfflbplnagaaDoor
open Go.RowKit Go.Shelf
theorem stayN {f : Nat → Nat} {L op : Nat} {s : PE} (h : s.e ≠ 0) : sN f L op s = s := by
 unfold sN;split
 · unfold numS; rw [if_neg h]
 · rfl
theorem stayT {f : Nat → Nat} {L op : Nat} {s : PE} (h : s.e ≠ 0) : sT f L op s = s := by
 unfold sT;split
 · unfold txtS; rw [if_neg h]
 · rfl
theorem stayR {s : PE} {q c : Nat} (h : s.e ≠ 0) : refS s q c = s := by
 unfold refS;rw [if_neg h]
theorem sA_is (f : Nat → Nat) (L op p : Nat) : sA f L op ⟨p, 0⟩ = ⟨(aR f L op p).to, (aR f L op p).code⟩ := by
 unfold sA aR;by_cases c : akI op = 0
 · rw [if_pos c, if_pos c]; rfl
 · rw [if_neg c, if_neg c]; rfl
theorem vA_is (f : Nat → Nat) (L op p : Nat) : vA f L op ⟨p, 0⟩ = ((min (aR f L op p).v 8192 : Nat) : Int) := by
 unfold vA aR;by_cases c : akI op = 0
 · rw [if_pos c, if_pos c]; rfl
 · rw [if_neg c, if_neg c]; rfl
theorem sN_is (f : Nat → Nat) (L op p : Nat) : sN f L op ⟨p, 0⟩ = ⟨(nR f L op p).to, (nR f L op p).code⟩ := by
 unfold sN nR;by_cases c : op = 23
 · rw [if_pos c, if_pos c]; rfl
 · rw [if_neg c, if_neg c]; rfl
theorem vN_is (f : Nat → Nat) (L op p : Nat) : vN f L op ⟨p, 0⟩ = unfN (nR f L op p).v := by
 unfold vN nR;by_cases c : op = 23
 · rw [if_pos c, if_pos c]; rfl
 · rw [if_neg c, if_neg c]; show (0 : Int) = unfN 0; decide
theorem sT_is (f : Nat → Nat) (L op p : Nat) : sT f L op ⟨p, 0⟩ = ⟨tTo f L op p, tCode f L op p⟩ := by
 unfold sT tTo tCode;by_cases c : hasText op = true
 · rw [if_pos c, if_pos c, if_pos c]; rfl
 · rw [if_neg c, if_neg c, if_neg c]
theorem vT_is (f : Nat → Nat) (L op p : Nat) (h : tCode f L op p = 0) : vT f L op ⟨p, 0⟩ = tText f L op p := by
 unfold vT tText;unfold tCode at h;by_cases c : hasText op = true
 · rw [if_pos c] at h
   rw [if_pos c, if_pos c];unfold txtVal;rw [if_pos ⟨rfl, h⟩]
 · rw [if_neg c, if_neg c]
theorem right_zero (n : Int) : rightI zeroI n = false := by
 unfold rightI zeroI;have : wordI 0 = [] := by decide
 simp [this]
theorem ins_link {f : Nat → Nat} {L p n : Nat} (hp : p ≤ L) (hn : n ≤ 8192) : insS f L n ⟨p, 0⟩ = ⟨(insR f L n p).to, (insR f L n p).code⟩ ∧ ((insR f L n p).code = 0 → insX f L ⟨p, 0⟩ = (insR f L n p).x) := by
 by_cases c : L ≤ p
 · have hb : bytVal f L ⟨p, 0⟩ = 0 := by unfold bytVal; rw [if_neg (by rintro ⟨_, h⟩; exact absurd h (by show ¬ p < L; omega))]
   have hs : bytS L ⟨p, 0⟩ = ⟨p, 4⟩ := by unfold bytS; rw [if_pos rfl, if_neg (by show ¬ p < L; omega)]
   have hA : sA f L 0 ⟨p, 4⟩ = ⟨p, 4⟩ := rfl;have hx : insX f L ⟨p, 0⟩ = zeroI := by
     unfold insX;rw [hb, hs, hA, stayN (s := ⟨p, 4⟩) (show (4 : Nat) ≠ 0 by decide)];rfl
   unfold insS;rw [hx, right_zero, if_neg (by decide), hb, hs, hA, stayN (s := ⟨p, 4⟩) (show (4 : Nat) ≠ 0 by decide), stayT (s := ⟨p, 4⟩) (show (4 : Nat) ≠ 0 by decide), stayR (s := ⟨p, 4⟩) (show (4 : Nat) ≠ 0 by decide)];unfold insR;rw [if_pos c];exact ⟨by show (⟨p, 4⟩ : PE) = ⟨L, 4⟩; rw [show p = L by omega], fun h => by cases h⟩
 · have hb : bytVal f L ⟨p, 0⟩ = f p := by unfold bytVal; rw [if_pos ⟨rfl, by show p < L; omega⟩]
   have hs : bytS L ⟨p, 0⟩ = ⟨p + 1, 0⟩ := by unfold bytS; rw [if_pos rfl, if_pos (by show p < L; omega)]
   have hX : insX f L ⟨p, 0⟩ = ⟨f p, vA f L (f p) ⟨p + 1, 0⟩, vN f L (f p) (sA f L (f p) ⟨p + 1, 0⟩), vT f L (f p) (sN f L (f p) (sA f L (f p) ⟨p + 1, 0⟩))⟩ := by unfold insX; rw [hb, hs]
   unfold insS;rw [hX, hb, hs, sA_is, vA_is];unfold insR;rw [if_neg c];generalize aR f L (f p) (p + 1) = A;obtain ⟨Av, Ato, Ac⟩ := A;dsimp only;by_cases c1 : Ac ≠ 0
   · rw [if_pos c1, stayN c1, stayT c1, stayR c1]
     refine ⟨by split <;> rfl, fun h => absurd h c1⟩
   · have hAc : Ac = 0 := by omega
     subst hAc;rw [if_neg c1, sN_is, vN_is];generalize nR f L (f p) Ato = M;obtain ⟨Mv, Mto, Mc⟩ := M;dsimp only;by_cases c2 : Mc ≠ 0
     · rw [if_pos c2, stayT c2, stayR c2]
       refine ⟨by split <;> rfl, fun h => absurd h c2⟩
     · have hMc : Mc = 0 := by omega
       subst hMc;rw [if_neg c2, sT_is];by_cases c3 : tCode f L (f p) Mto ≠ 0
       · rw [if_pos c3, stayR c3]
         refine ⟨by split <;> rfl, fun h => absurd h c3⟩
       · have hTc : tCode f L (f p) Mto = 0 := by omega
         rw [if_neg c3, vT_is _ _ _ _ hTc, right_min (by omega), hTc];by_cases c4 : rightI ⟨f p, (Av : Int), unfN Mv, tText f L (f p) Mto⟩ n = true
         · rw [if_pos c4, if_pos c4]
           have := right_small (by omega) c4;rw [Nat.min_eq_left (by omega)];exact ⟨rfl, fun _ => rfl⟩
         · rw [if_neg c4, if_neg c4]
           exact ⟨rfl, fun h => by cases h⟩
end Go.Proofs.YtfajfflbplnagaaDoor
namespace Go.Proofs.YtfajfflbplnagaaDoor
open Go.RowKit
theorem insC_len (t : Ins) : (insC t).length = 4 := rfl
theorem insC_one (t : Ins) : ∀ u ∈ insC t, u.oneCell' = true := by
 intro u hu;simp only [insC, List.mem_cons, List.not_mem_nil, or_false] at hu;rcases hu with rfl | rfl | rfl | rfl <;> rfl
theorem inss_one : ∀ (ts : List Ins), ∀ u ∈ rowOf insC ts, u.oneCell' = true
 | [], u, h => by cases h
 | x :: r, u, h => by
   rcases List.mem_append.1 (show u ∈ insC x ++ rowOf insC r from h) with h | h
   · exact insC_one x u h
   · exact inss_one r u h
theorem ins_info : (Tryd.prog.info? 40).map (fun i => (i.zero, i.size, i.bytes)) = some (some (.agg #[.int .u8 0, .int .i64 0, .int .i64 0, .string ⟨#[]⟩]), 4, 40) := by kernel_rfl
theorem ins_parts : ∃ i0, Tryd.prog.info? 40 = some i0 ∧ i0.zero = some (.agg #[.int .u8 0, .int .i64 0, .int .i64 0, .string ⟨#[]⟩]) ∧ i0.size = 4 ∧ i0.bytes = 40 := by
 have h := ins_info;cases hi : Tryd.prog.info? 40 with
 | none => rw [hi] at h; simp at h
 | some i0 =>
   rw [hi] at h;simp at h
   exact ⟨i0, rfl, h.1, h.2.1, h.2.2⟩
def InsAt (w : World) (base : Nat) (v : Value) (ts : List Ins) : Prop := w.ownsRow base 40 4 v ts.length (rowOf insC ts)
section
variable {w W : World} {base : Nat} {v : Value} {ts : List Ins}
theorem InsAt.below (h : InsAt w base v ts) (hb : Below w.heap.size w W) : InsAt W base v ts := ownsRow_only (F := fun _ => False) h (Only.of_below hb) (fun _ _ h => h)
theorem InsAt.shape (h : InsAt w base v ts) : ∃ a cap, v = .slice a ts.length cap ∧ ts.length ≤ cap ∧ cap ≤ 9223372036854775807 := ownsRow_shape h
theorem InsAt.insIn (h : InsAt w base v ts) : InsIn w v ts := by
 rcases h.2 with ⟨hv, h0⟩ | ⟨g, cap, cur, hv, hb, hg, hnc, hcm, hsz, ht⟩
 · exact ⟨none, 0, by rw [hv, h0], by omega, by omega, fun h => by omega⟩
 · refine ⟨_, cap, hv, hnc, by unfold maxLen at hcm; omega, fun h0 => ⟨g, 0, rfl, (Array.getElem?_eq_some_iff.1 hg).1, fun i hi c hc => ?_⟩⟩
   have hh := h;unfold InsAt at hh;rw [hv] at hh;have := World.ownsRow.cellAt (g := g) (cap := cap) hh (i * 4 + c) (by omega);rw [Nat.zero_add, this];exact rowOf_get insC_len ts i c hi hc
end
set_option maxRecDepth 20000 in
theorem wpList_append_inss {w : World} {base : Nat} {v : Value} {ts us : List Ins} {ops : Array Oper} {rest : List Oper} {o : Oper} {a : Act} {Q : Exit → Act → World → Prop} (hgd : o.guard = none) (s x : Operand)
   (ho : o.op = .call { callee := .builtin .append, args := #[s, x], argTypes := #[24, 24] })
   (hs : a.eval s = v) (hown : InsAt w base v ts) {ad : Addr} {c : Nat} (hx : a.eval x = .slice (some ad) us.length c) (hu : InsIn w (.slice (some ad) us.length c) us)
   (hk : ts.length ≤ 1000000000) (hk2 : us.length ≤ 1000000000) (hbase : base ≤ w.heap.size)
   (h : ∀ a' cap w', InsAt w' base (.slice a' (ts.length + us.length) cap) (ts ++ us) → Below base w w' → wpList Tryd.prog ops Q rest (a.put o.dst (.slice a' (ts.length + us.length) cap)) w') : wpList Tryd.prog ops Q (o :: rest) a w := by
 obtain ⟨i0, hi, hz0, hz1, hz2⟩ := ins_parts;refine wpList_append_own_at _ hgd s x 24 ho base 40 i0 (.agg #[.int .u8 0, .int .i64 0, .int .i64 0, .string ⟨#[]⟩]) 4 40 Tryd.underlying24 hi hz0 hz1 hz2 rfl (by decide) v ts.length (rowOf insC ts) hs hown ad us.length c (rowOf insC us) hx (rowOf_length insC_len us) ?_ (inss_one us) (by unfold maxLen; omega) (by omega) hbase ?_
 · intro j u hj
   obtain ⟨a0, cap, e, _, _, h3⟩ := hu;have hjl : j < us.length * 4 := by rw [← rowOf_length insC_len us]; exact (List.getElem?_eq_some_iff.1 hj).1
   obtain ⟨g, off, e2, hg, hc⟩ := h3 (by omega);rw [e2] at e;cases e
   have hd : j / 4 < us.length := by omega
   have := hc (j / 4) hd (j % 4) (Nat.mod_lt _ (by decide));rw [← rowOf_get insC_len us (j / 4) (j % 4) hd (Nat.mod_lt _ (by decide)), show j / 4 * 4 + j % 4 = j by omega, hj] at this;rw [← this, show off + j / 4 * 4 + j % 4 = off + j by omega]
   congr 1
   show (⟨g, off, none⟩ : Addr).add j = ⟨g, off + j, none⟩
   simp [Addr.add]
 · intro v' w' h2 h3 _ _
   rw [← rowOf_append] at h2;have h2' : InsAt w' base v' (ts ++ us) := by
     unfold InsAt;rw [List.length_append];exact h2
   obtain ⟨a', cap, e, _⟩ := h2'.shape;rw [List.length_append] at e;subst e;exact h a' cap w' h2' ((Below.refl base _).grown h3 hbase (fun k hk => (World.ownsRow.lt hown k hk).1))
end Go.Proofs.YtfajfflbplnagaaDoor
