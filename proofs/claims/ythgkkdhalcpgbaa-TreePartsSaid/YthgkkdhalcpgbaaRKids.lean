/- The document's Kids of a right tree (layer 8), walked. No condition. -/
import Derived.Test.YthgkkdhalcpgbaaRDEnd
import Derived.Test.YthgkkdhalcpgbaaRParts
import Derived.Test.YthgkkdhalcpgbaaRMake
namespace Go.Proofs.Ythgkkdhalcpgbaa
open Go.RowKit Go.Shelf

theorem in_info : (Try.prog.info? 3).map (fun i => (i.zero, i.size, i.bytes)) = some (some (.int .i64 0), 1, 8) := by kernel_rfl
theorem in_parts : ∃ i0, Try.prog.info? 3 = some i0 ∧ i0.zero = some (.int .i64 0) ∧ i0.size = 1 ∧ i0.bytes = 8 := by
  have h := in_info
  cases hi : Try.prog.info? 3 with
  | none => rw [hi] at h; simp at h
  | some i0 =>
    rw [hi] at h
    simp at h
    exact ⟨i0, rfl, h.1, h.2.1, h.2.2⟩
def natV (n : Nat) : Value := .int .i64 (n : Int)
/-- A row of whole numbers of the call's own. -/
def OffsAt (w : World) (base : Nat) (v : Value) (ns : List Nat) : Prop := w.ownsRow base 3 1 v ns.length (ns.map natV)
theorem OffsAt.below {w W : World} {base : Nat} {v : Value} {ns : List Nat} (h : OffsAt w base v ns) (hb : Below w.heap.size w W) : OffsAt W base v ns := ownsRow_only (F := fun _ => False) h (Only.of_below hb) (fun _ _ h => h)
theorem OffsAt.shape {w : World} {base : Nat} {v : Value} {ns : List Nat} (h : OffsAt w base v ns) : ∃ a cap, v = .slice a ns.length cap ∧ ns.length ≤ cap ∧ cap ≤ 9223372036854775807 := ownsRow_shape h
theorem OffsAt.owned {w : World} {base : Nat} {v : Value} {ns : List Nat} (h : OffsAt w base v ns) (h0 : 0 < ns.length) : ∃ g cap, v = .slice (some ⟨g, 0, none⟩) ns.length cap ∧ base ≤ g ∧ g < w.heap.size ∧ ∀ i (hi : i < ns.length), w.cell? ⟨g, i, none⟩ = some (natV ns[i]) := by
  obtain ⟨g, cap, e, h1, h2, h3, h4, _⟩ := ownsRow_head h h0
  refine ⟨g, cap, e, h1, h2, fun i hi => ?_⟩
  have hh := h
  unfold OffsAt at hh
  rw [e] at hh
  rw [World.ownsRow.cellAt (g := g) (cap := cap) hh i (by omega), List.getElem?_map, List.getElem?_eq_getElem hi]
  rfl
/-- append(l, n): at the operation, behind the row of one. -/
theorem wpList_append_nat {w : World} {base : Nat} {v : Value} {ns : List Nat} {n : Nat} {ops : Array Oper} {rest : List Oper} {o : Oper} {a : Act} {Q : Exit → Act → World → Prop} (hgd : o.guard = none) (s x : Operand)
    (ho : o.op = .call { callee := .builtin .append, args := #[s, x], argTypes := #[42, 42] })
    (hs : a.eval s = v) (hown : OffsAt w base v ns) {G : Nat} (hx : a.eval x = .slice (some ⟨G, 0, none⟩) 1 1) (hc : w.cell? ⟨G, 0, none⟩ = some (natV n))
    (hk : ns.length ≤ 1000000000) (hbase : base ≤ w.heap.size)
    (h : ∀ a' cap w', OffsAt w' base (.slice a' (ns.length + 1) cap) (ns ++ [n]) → Below base w w' → wpList Try.prog ops Q rest (a.put o.dst (.slice a' (ns.length + 1) cap)) w') : wpList Try.prog ops Q (o :: rest) a w := by
  obtain ⟨i0, hi, hz0, hz1, hz2⟩ := in_parts
  refine wpList_append_own_at _ hgd s x 42 ho base 3 i0 (.int .i64 0) 1 8 Try.underlying42 hi hz0 hz1 hz2 rfl (by decide) v ns.length (ns.map natV) hs hown ⟨G, 0, none⟩ 1 1 [natV n] hx rfl ?_ (fun y hy => by simp at hy; subst hy; rfl) (by unfold maxLen; omega) (by omega) hbase ?_
  · intro j y hj
    match j, hj with
    | 0, hj =>
      simp at hj
      subst hj
      simpa [Addr.add] using hc
  · intro v' w' h2 h3 _ _
    have hT : OffsAt w' base v' (ns ++ [n]) := by
      unfold OffsAt
      rw [List.length_append, List.length_singleton, List.map_append]
      exact h2
    obtain ⟨a', cap, e, _⟩ := hT.shape
    rw [List.length_append, List.length_singleton] at e
    subst e
    exact h a' cap w' hT ((Below.refl base _).grown h3 hbase (fun k hk => (World.ownsRow.lt hown k hk).1))
/-- Where a tree's part begins. -/
def offP (ps : List (List Tw)) (i : Nat) : Nat := 1 + (ps.take i).flatten.length
theorem offP_succ {ps : List (List Tw)} {i : Nat} (h : i < ps.length) : offP ps (i + 1) = offP ps i + (ps.getD i []).length := by
  unfold offP
  rw [flat_take_succ h, List.length_append]
  omega
theorem offP_le (ps : List (List Tw)) (i : Nat) : offP ps i ≤ 1 + ps.flatten.length := by
  have := flat_take_le ps i
  unfold offP
  omega
theorem offs_take {ps : List (List Tw)} (i : Nat) : (List.range (i + 1)).map (offP ps) = (List.range i).map (offP ps) ++ [offP ps i] := by
  rw [List.range_succ, List.map_append]
  rfl
theorem drop_off (x : Tw) {ps : List (List Tw)} {i : Nat} (h : i < ps.length) : (x :: ps.flatten).drop (offP ps i) = ps.getD i [] ++ (ps.drop (i + 1)).flatten := by
  have e : x :: ps.flatten = (x :: (ps.take i).flatten) ++ (ps.getD i [] ++ (ps.drop (i + 1)).flatten) := by
    conv => lhs; rw [← List.take_append_drop i ps]
    rw [List.flatten_append, List.drop_eq_getElem_cons h, List.flatten_cons, List.getD_eq_getElem?_getD, List.getElem?_eq_getElem h]
    rfl
  rw [e, show offP ps i = (x :: (ps.take i).flatten).length by unfold offP; rw [List.length_cons]; omega, List.drop_left]
theorem refEnd_part {v : Value} {x : Tw} {ps : List (List Tw)} (w : World) (hT : TwIn w v (x :: ps.flatten)) (h : Ok (x :: ps.flatten)) (hok : ∀ p ∈ ps, Ok p) {i : Nat} (hi : i < ps.length) :
    Calls Try.prog 26 #[v, .int .i64 (offP ps i : Nat)] w fun e w' => e = .returned (.int .i64 ((offP ps i + (ps.getD i []).length : Nat) : Int)) ∧ w' = w := by
  have hl := ((ok_iff _).1 h).2
  have ho := offP_le ps i
  rw [List.length_cons] at hl
  refine refEnd_any w hT (ok_kids h) (by rw [List.length_cons]; omega) (x :: ps.flatten).length _ _ (by omega) (by rw [List.length_cons]; omega) ?_
  rw [drop_off x hi]
  exact endL_append _ _ _ _ (ok_end (hok _ (getD_mem hi)))
set_option maxRecDepth 20000 in
set_option maxHeartbeats 2000000 in
theorem refKids_any {v : Value} {x : Tw} {ps : List (List Tw)} (w : World) (hT : TwIn w v (x :: ps.flatten)) (h : Ok (x :: ps.flatten)) (hx : x.kids = (ps.length : Int)) (hok : ∀ p ∈ ps, Ok p) (hpl : ps.length ≤ 2048) :
    Calls Try.prog 25 #[v, .int .i64 0] w fun e w' => ∃ v', e = .returned v' ∧ OffsAt w' w.heap.size v' ((List.range ps.length).map (offP ps)) ∧ Below w.heap.size w w' := by
  have hE := fun W (hT : TwIn W v (x :: ps.flatten)) i hi => refEnd_part W hT h hok (i := i) hi
  have hl := ((ok_iff _).1 h).2
  have hof := offP_le ps
  have hTT := Lib.hid hT
  obtain ⟨a, cap, rfl, hlc, hcm, h3⟩ := hT
  obtain ⟨g, off, rfl, hg, hcell⟩ := h3 (by simp)
  have p1 := hcell 0 (by simp) 1 (by omega)
  rcases x with ⟨op, kids, num, text⟩
  dsimp only at hx
  subst hx
  simp only [List.getElem_cons_zero, twC, List.getElem?_cons_succ, List.getElem?_cons_zero, Nat.zero_mul, Nat.add_zero] at p1
  have hfl : ps.flatten.length ≤ 2047 := by rw [List.length_cons] at hl; omega
  have hN0 : 0 < (⟨op, (ps.length : Int), num, text⟩ :: ps.flatten : List Tw).length := by rw [List.length_cons]; omega
  obtain ⟨N, hN⟩ := exHid ((⟨op, (ps.length : Int), num, text⟩ :: ps.flatten : List Tw).length)
  rw [hN.out] at hTT hE hN0 ⊢
  replace hE := Lib.hid hE; replace hof := Lib.hid hof
  obtain ⟨n, hn⟩ := exHid ps.length
  rw [hn.out] at p1 hpl ⊢
  clear h3 hcell h hok hl hlc
  have hNi : (0 : Int) < (N : Int) := by omega
  go_enter Try.func25, Try.ntmps25
  go_wp2_with fail
  go_loopw [5, 6, 7] (fun t5 t6 t7 wr => ∃ i o : Nat, i ≤ n ∧ t7 = .int .i64 i ∧ t6 = .int .i64 o ∧ o ≤ 2048 ∧ Hid (o = offP ps i) ∧ Hid (OffsAt wr w.heap.size t5 ((List.range i).map (offP ps))) ∧ Hid (Below w.heap.size w wr)) (fun _ _ t7 _ => n - (intOf t7).toNat)
  case atStart => exact ⟨0, 1, by omega, by go_num, by go_num, by omega, Lib.hid (by simp [offP]), Lib.hid ⟨rfl, .inl ⟨rfl, rfl⟩⟩, Lib.hid (Below.refl _ _)⟩
  case round =>
    obtain ⟨i, o, hi, rfl, rfl, ho, hoo, hO, hB⟩ := hrel
    have q1 := cell_on p1 hB.out
    rcases Nat.lt_or_ge i n with hlt | hge
    · have hlti : (i : Int) < (n : Int) := by omega
      have hip : i < ps.length := by rw [hn.out]; exact hlt
      have hos := offP_succ hip
      have hole := hof.out (i + 1)
      have hal := (Below.refl wr.heap.size wr).alloc (Nat.le_refl _) (.cells #[.int .i64 (o : Int)] 3)
      have hO' := Lib.hid (hO.out.below hal)
      have hB' := Lib.hid (hB.out.trans (hal.mono hB.out.size))
      have hcl := (one_cell wr #[.int .i64 (o : Int)] 3 0).trans (show _ = some (natV o) from rfl)
      have hlr : ((List.range i).map (offP ps)).length = i := by simp
      have hlr2 : ((List.range i).map (offP ps)).length ≤ 1000000000 := by rw [hlr]; omega
      have cE := Lib.hid (fun W (hb : Below w.heap.size w W) => hE.out W (hTT.out.below hb) i hip)
      rw [← hoo.out] at hos cE
      generalize (ps.getD i []).length = pl at *
      obtain ⟨a5, c5, e5, _, _⟩ := hO.out.shape
      rw [hlr] at e5
      subst e5
      have hpl3 : o + pl ≤ 2048 := by omega
      replace hos := Lib.hid hos; replace hole := Lib.hid hole
      clear hO hB hal
      go_wp2_with (at_builtin; (refine wpList_append_nat (base := w.heap.size) (n := o) rfl _ _ rfl rfl hO'.out rfl hcl hlr2 hB'.out.size ?_; intro a6 c6 w5 hO5 hB5))
      have hB6 := Lib.hid (hB'.out.trans hB5)
      rw [hlr, hoo.out, ← offs_take] at hO5
      replace hO5 := Lib.hid hO5
      clear hO' hB' hcl hB5
      go_wp2_with fail
      refine (cE.out _ hB6.out).mono ?_
      rintro e w6 ⟨rfl, rfl⟩
      go_wp2_with fail
      go_roundw
      case rel => exact ⟨i + 1, o + pl, by omega, by go_num, by go_num, hpl3, Lib.hid hos.out.symm, hO5, hB6⟩
      case measure => simp [intOf]; omega
    · obtain rfl : i = n := by omega
      have hlti : ¬ ((i : Int) < (i : Int)) := by omega
      go_wp2_with fail
      go_ret
      exact ⟨_, rfl, hO.out, hB.out⟩
end Go.Proofs.Ythgkkdhalcpgbaa
