/- What the listed variable parse.makes says: the words and signs and their Ops. -/
import Derived.Test.YtkmhdhnoghbkgaaGreatDoorTLaid
import Derived.Test.YtkmhdhnoghbkgaaGreatDoorQ11
import Derived.ChangeSame
set_option linter.unusedVariables false
namespace Go.Proofs.YtkmhdhnoghbkgaaGreatDoor
open Go.RowKit Go.ChangeShapes Tok

theorem chunks_of {α β : Type} {g : α → List β} : ∀ (zs : List α) (cs : List β), (∀ z, (g z).length = 2) → cs.length = zs.length * 2 → (∀ k (h : k < zs.length), (cs.drop (k * 2)).take 2 = g zs[k]) → cs = zs.flatMap g
  | [], cs, _, hl, _ => by simpa using hl
  | z :: zs, cs, hg, hl, h => by
    have h0 := h 0 (by simp)
    rw [List.length_cons] at hl
    rw [List.flatMap_cons, ← chunks_of zs (cs.drop 2) hg (by rw [List.length_drop]; omega) (fun k hk => by
      have := h (k + 1) (by simpa using hk)
      rw [List.drop_drop, show 2 + k * 2 = (k + 1) * 2 by omega]
      simpa using this)]
    have h1 : cs.take 2 = g z := by simpa using h0
    rw [← h1, List.take_append_drop]
theorem cells_of_pairs {H : Type} {enc : TypeId × Value → H} {P : Program} {w : World} {base : Nat} {sp : Nat → Bool} {held : Bool} {fuel : Nat} {t e : TypeId} {f0 f1 : Field} {n : Nat} {cs : List Value} {zs : List (List UInt8 × Nat)} {p : List MemPlace}
    (ht : P.underlying t = some (.array n e)) (he : P.underlying e = some (.struct #[f0, f1])) (h0 : P.underlying f0.type = some .string) (h1 : P.underlying f1.type = some (.int .u8)) (o0 : f0.offset = 0) (o1 : f1.offset = 1)
    (hc0 : P.cellsOf f0.type = 1) (hc1 : P.cellsOf f1.type = 1) (hce : P.cellsOf e = 2) (hct : P.cellsOf t = n * 2)
    (h : DataW.trod enc P w base sp held fuel t cs = some (.agg (zs.map fun z => .agg [.lit (.string z.1), .lit (.int .u8 (z.2 : Int))]), p)) : cs = zs.flatMap fun z => [Value.string ⟨z.1.toArray⟩, Value.int .u8 (z.2 : Int)] := by
  cases fuel with
  | zero => simp [DataW.trod] at h
  | succ fuel =>
    simp only [DataW.trod, ht, hce, hct] at h
    split at h
    · rename_i hl
      obtain ⟨xs, hm, hx⟩ := Option.map_eq_some_iff.1 h
      have hxs : xs.map (·.1) = zs.map fun z => (DataW.agg [.lit (.string z.1), .lit (.int .u8 (z.2 : Int))] : DataW H) := by
        have := congrArg Prod.fst hx
        simpa using this
      have hxl : xs.length = n := by simpa using Lib.mapM_length hm
      have hzl : zs.length = n := by
        have := congrArg List.length hxs
        simp at this
        omega
      refine chunks_of zs cs (fun z => rfl) (by rw [hl, hzl]) (fun k hk => ?_)
      obtain ⟨b, hb, hf⟩ := Lib.mapM_at hm k k (by rw [List.getElem?_range (by omega)])
      obtain ⟨y0, y1, m, rfl, hlen, g0, g1⟩ := trod_struct2 he hf
      have h2 : (xs.map (·.1))[k]? = some (DataW.agg [y0.1, y1.1] : DataW H) := by simp [hb]
      rw [hxs, List.getElem?_map, List.getElem?_eq_getElem hk] at h2
      simp only [Option.map_some, Option.some.injEq, DataW.agg.injEq, List.cons.injEq, and_true] at h2
      rw [o0, hc0] at g0
      rw [o1, hc1] at g1
      obtain ⟨z, e0, e0', _⟩ := DataW.trod_string h0 g0
      obtain ⟨q, e1, e1', _⟩ := DataW.trod_int h1 g1
      rw [hce] at hlen
      generalize (cs.drop (k * 2)).take 2 = ch at *
      match ch, hlen with
      | [a, b], _ =>
        simp at e0 e1
        subst e0 e1
        have k0 : y0.1 = .lit (.string z.data.toList) := by rw [e0']
        have k1 : y1.1 = .lit (.int .u8 q) := by rw [e1']
        rw [k0] at h2
        rw [k1] at h2
        simp at h2
        obtain ⟨hz, hq⟩ := h2
        rw [hz, hq]
    · cases h
theorem makes_num : Tryz.prog.globalNamed "prompter/parse.makes" = some 1 := by kernel_rfl
theorem makesOK_of {r : List (String × DataW Unit)} {W : World} (h : laidMet Tryz.prog (("prompter/parse.makes", .agg (makesL.map fun z => .agg [.lit (.string z.1), .lit (.int .u8 (z.2 : Int))])) :: r) W) : MakesOK W := by
  obtain ⟨ps, ⟨g', t', cs, fuel, p, q, hg', ht', hvar, hd, _, _⟩, _⟩ := h
  obtain rfl := Option.some.inj (makes_num.symm.trans hg')
  obtain rfl := Option.some.inj ((show (Tryz.prog.globals[1]?).map (·.type) = some 136 by kernel_rfl).symm.trans ht')
  have hcs := cells_of_pairs Tryz.underlying136 Tryz.underlying135 Tryz.underlying9 Tryz.underlying5 rfl rfl (by kernel_rfl) (by kernel_rfl) (by kernel_rfl) (by kernel_rfl) hd
  intro j v hv
  rw [Nat.zero_add]
  rw [World.var?_cell makes_num hvar j]
  have h2 : cs[j]? = cs.toList[j]? := by simp
  rw [h2, hcs]
  exact hv
end Go.Proofs.YtkmhdhnoghbkgaaGreatDoor
