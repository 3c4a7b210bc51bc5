/- check's scope (layer 11) in memory: what is seen; show, walked. No condition. -/
import Derived.Test.YtefijbpbenmbgaaDoorCkP
import Derived.Test.YtefijbpbenmbgaaDoorSMap
import Derived.Test.YtefijbpbenmbgaaDoorRTws
import Derived.Maps.AppendAt
namespace Go.Proofs.YtefijbpbenmbgaaDoor
open Go.RowKit Go.Shelf

def strV (s : List UInt8) : Value := .string ⟨s.toArray⟩
theorem st_info : (Tryd.prog.info? 9).map (fun i => (i.zero, i.size, i.bytes)) = some (some (.string ⟨#[]⟩), 1, 16) := by kernel_rfl
theorem st_parts : ∃ i0, Tryd.prog.info? 9 = some i0 ∧ i0.zero = some (.string ⟨#[]⟩) ∧ i0.size = 1 ∧ i0.bytes = 16 := by
  have h := st_info
  cases hi : Tryd.prog.info? 9 with
  | none => rw [hi] at h; simp at h
  | some i0 =>
    rw [hi] at h
    simp at h
    exact ⟨i0, rfl, h.1, h.2.1, h.2.2⟩
theorem zeroI (w : World) : (zeroValue 3).run Tryd.prog w = .ok (.int .i64 0) w := by kernel_rfl
/-- A row of names of the call's own. -/
def NamesAt (w : World) (base : Nat) (v : Value) (ns : List (List UInt8)) : Prop := w.ownsRow base 9 1 v ns.length (ns.map strV)
section
variable {w W : World} {base gs : Nat} {v : Value} {ns : List (List UInt8)} {L : List (List UInt8 × Nat)} {made : Nat}
theorem NamesAt.shape (h : NamesAt w base v ns) : ∃ a cap, v = .slice a ns.length cap ∧ ns.length ≤ cap ∧ cap ≤ 9223372036854775807 := ownsRow_shape h
theorem NamesAt.below (h : NamesAt w base v ns) (hb : Below w.heap.size w W) : NamesAt W base v ns := ownsRow_only (F := fun _ => False) h (Only.of_below hb) (fun _ _ h => h)
theorem NamesAt.block (h : NamesAt w base v ns) {g : Nat} (hg : v.ownBlock = some g) : base ≤ g ∧ g < w.heap.size ∧ ∃ cur, w.heap[g]? = some (.cells cur 9 (0, 0)) := by
  rcases h.2 with ⟨hv, _⟩ | ⟨g', cap, cur, hv, hb, hgg, _⟩
  · rw [hv] at hg; cases hg
  · rw [hv] at hg
    have e1 : g = g' := by simpa [Value.ownBlock] using hg.symm
    subst e1
    exact ⟨hb, (Array.getElem?_eq_some_iff.1 hgg).1, _, hgg⟩
/-- What is seen, in block gs: the map, the names, how many were made. -/
structure ScV (w : World) (base gs b : Nat) (v : Value) (L : List (List UInt8 × Nat)) (made : Nat) : Prop where
  s : w.heap[gs]? = some (.cells #[.map (some b), v, .int .i64 made] 75 (0, 0))
  m : MapS Tryd.prog 9 3 w b (findL L) L.length
  n : NamesAt w base v (L.map Prod.fst)
  bb : base ≤ b
  gb : base ≤ gs
theorem name_apart {cs : Array Value} (h : NamesAt w base v ns) (hs : w.heap[gs]? = some (.cells cs 75 (0, 0))) : ¬ v.ownBlock = some gs := by
  intro e
  obtain ⟨_, _, cur, h3⟩ := h.block e
  rw [h3] at hs
  injection hs with hs
  injection hs with _ hs _
  exact absurd hs (by decide)
def Sc (w : World) (base gs : Nat) (L : List (List UInt8 × Nat)) (made : Nat) : Prop := ∃ b v, ScV w base gs b v L made
/-- The blocks that the scope's methods may turn. -/
def Fsc (base : Nat) (w : World) (k : Nat) : Prop := base ≤ k ∧ ∀ c t fr, w.heap[k]? = some (.cells c t fr) → t = 75 ∨ t = 9
theorem Sc.lt (h : Sc w base gs L made) : gs < w.heap.size := by
  obtain ⟨b, v, h⟩ := h
  exact (Array.getElem?_eq_some_iff.1 h.s).1
theorem Sc.kept {F : Nat → Prop} (h : Sc w base gs L made) (ho : Only F w W) (hF : ∀ k, F k → ¬ Fsc base w k) : Sc W base gs L made := by
  obtain ⟨b, v, h⟩ := h
  have hgl := (Array.getElem?_eq_some_iff.1 h.s).1
  refine ⟨b, v, (ho.block gs hgl (fun e => hF _ e ⟨h.gb, fun c t fr hc => ?_⟩)).trans h.s, h.m.kept ho (fun e => hF _ e ⟨h.bb, fun c t fr hc => absurd rfl (h.m.ne_cells hc)⟩), ownsRow_only h.n ho (fun g hg e => ?_), h.bb, h.gb⟩
  · rw [h.s] at hc
    injection hc with hc
    injection hc with _ hc _
    exact .inl hc.symm
  · obtain ⟨n1, n2, cur, n3⟩ := h.n.block hg
    refine hF _ e ⟨n1, fun c t fr hc => ?_⟩
    rw [n3] at hc
    injection hc with hc
    injection hc with _ hc _
    exact .inr hc.symm
theorem Sc.below (h : Sc w base gs L made) (hb : Below w.heap.size w W) : Sc W base gs L made := h.kept (F := fun _ => False) (Only.of_below hb) (fun _ e => e.elim)
end
theorem scOnly (w : World) (g c : Nat) (v : Value) : Only (fun k => k = g) w (w.setCell ⟨g, c, none⟩ v) := (Only.refl (fun k => k = g) w).setCell (p := ⟨g, c, none⟩) (.inl rfl) _
/-- append(l, s) of a row of names: at the operation. -/
theorem wpList_append_name {w : World} {base : Nat} {v : Value} {ns : List (List UInt8)} {n : List UInt8} {ops : Array Oper} {rest : List Oper} {o : Oper} {a : Act} {Q : Exit → Act → World → Prop} (hgd : o.guard = none) (s x : Operand)
    (ho : o.op = .call { callee := .builtin .append, args := #[s, x], argTypes := #[73, 73] })
    (hs : a.eval s = v) (hown : NamesAt w base v ns) {G : Nat} (hx : a.eval x = .slice (some ⟨G, 0, none⟩) 1 1) (hc : w.cell? ⟨G, 0, none⟩ = some (strV n))
    (hk : ns.length ≤ 1000000000) (hbase : base ≤ w.heap.size)
    (h : ∀ a' cap w', NamesAt w' base (.slice a' (ns.length + 1) cap) (ns ++ [n]) → Only (fun k => v.ownBlock = some k) w w' → wpList Tryd.prog ops Q rest (a.put o.dst (.slice a' (ns.length + 1) cap)) w') : wpList Tryd.prog ops Q (o :: rest) a w := by
  obtain ⟨i0, hi, hz0, hz1, hz2⟩ := st_parts
  refine wpList_append_own_at _ hgd s x 73 ho base 9 i0 (.string ⟨#[]⟩) 1 16 Tryd.underlying73 hi hz0 hz1 hz2 rfl (by decide) v ns.length (ns.map strV) hs hown ⟨G, 0, none⟩ 1 1 [strV n] hx rfl ?_ (by intro u hu; simp at hu; subst hu; rfl) (by unfold maxLen; omega) (by omega) hbase ?_
  · intro j y hj
    match j, hj with
    | 0, hj =>
      simp at hj
      subst hj
      simpa [Addr.add] using hc
  · intro v' w' h2 h3 _ _
    have hT : NamesAt w' base v' (ns ++ [n]) := by
      unfold NamesAt
      rw [List.length_append, List.length_singleton, List.map_append]
      exact h2
    obtain ⟨a', cap, e, _⟩ := hT.shape
    rw [List.length_append, List.length_singleton] at e
    subst e
    exact h a' cap w' hT (Only.of_grown h3 (fun k hk => hk))
set_option maxRecDepth 20000 in
set_option maxHeartbeats 1000000 in
/-- A variable is seen from now on. -/
theorem show_any {w : World} {base gs : Nat} {L : List (List UInt8 × Nat)} {made : Nat} (h : Sc w base gs L made) (_hb : base ≤ w.heap.size) {nm : List UInt8} (hn : findL L nm = none) (hl : nm.length ≤ 9223372036854775807) (hL : L.length ≤ 1000000) {v : Nat} (hv : v ≤ 1000000) :
    Calls Tryd.prog 35 #[.pointer (some ⟨gs, 0, none⟩), .string ⟨nm.toArray⟩, .int .i64 v] w fun e w' => e = .returned (.tuple #[]) ∧ Sc w' base gs (L ++ [(nm, v)]) made ∧ Only (Fsc base w) w w' := by
  obtain ⟨b, nv, hs, hm, hnm, hbb, hgb⟩ := h
  have hbg : b ≠ gs := hm.ne_cells hs
  obtain ⟨ns, hns⟩ := exHid (L.map Prod.fst)
  have hLn : ns.length = L.length := by rw [← hns.out]; exact List.length_map ..
  rw [hns.out] at hnm
  have hnk : ns.length ≤ 1000000 := by omega
  replace hLn := Lib.hid hLn
  have hgl := (Array.getElem?_eq_some_iff.1 hs).1
  obtain ⟨na, nc, rfl, hn1, hn2⟩ := id hnm.shape
  have c0 : w.cell? ⟨gs, 0, none⟩ = some (.map (some b)) := by simp [World.cell?, hs]
  have hs0 := Lib.hid hs
  have hnm0 := Lib.hid hnm
  have M := Lib.hid hm
  have hf0 : (findL L nm).isSome = false := by rw [hn]; rfl
  clear hs hm hnm
  go_enter Tryd.func35, Tryd.ntmps35
  have P1 := Lib.hid (fun (w1 : World) (hg : w.grownBy w1 (some b)) => show w1.heap[gs]? = w.heap[gs]? ∧ NamesAt w1 base (.slice na ns.length nc) ns ∧ Only (fun k => k = b) w w1 from by
    have ho : Only (fun k => k = b) w w1 := Only.of_grown hg (fun k hk => by cases hk; rfl)
    refine ⟨ho.block _ hgl (fun e => hbg e.symm), ownsRow_only hnm0.out ho (fun g hg e => ?_), ho⟩
    obtain ⟨_, _, cur, h3⟩ := hnm0.out.block hg
    rw [e] at h3
    exact M.out.ne_cells h3 rfl)
  go_wp2_with (first
    | (at_mapUpdate; refine wpList_put_s rfl _ _ _ 72 9 3 rfl Tryd.underlying9 Tryd.underlying3 Tryd.underlying72 b _ _ M.out nm v rfl rfl rfl hl (by omega) (by omega) ?_
       intro w1 M1 hg1
       obtain ⟨q1, hnm1, ho1⟩ := P1.out w1 hg1
       have hs1 := Lib.hid (q1.trans hs0.out)
       have c1 : w1.cell? ⟨gs, 1, none⟩ = some (.slice na ns.length nc) := by simp [World.cell?, hs1.out]
       have hz1 := ho1.size
       have hal := (Below.refl w1.heap.size w1).alloc (Nat.le_refl _) (.cells #[.string ⟨nm.toArray⟩] 9)
       have hnA := Lib.hid (NamesAt.below hnm1 hal)
       have hcA : (w1.alloc (.cells #[.string ⟨nm.toArray⟩] 9)).cell? ⟨w1.heap.size, 0, none⟩ = some (strV nm) := one_cell _ _ _ 0
       have hzA : base ≤ (w1.alloc (.cells #[.string ⟨nm.toArray⟩] 9)).heap.size := by simp; omega
       have hoA := Lib.hid (Only.of_below (F := fun _ => False) hal)
       have hgl1 : gs < w1.heap.size := Nat.lt_of_lt_of_le hgl hz1
       have hsA := Lib.hid ((hal.block gs hgl1).trans hs1.out)
       have hglA : gs < (w1.alloc (.cells #[.string ⟨nm.toArray⟩] 9)).heap.size := Nat.lt_of_lt_of_le hgl1 hal.size
       replace M1 := Lib.hid M1
       replace ho1 := Lib.hid ho1
       clear q1 hnm1 hg1 hal)
    | (at_builtin; refine wpList_append_name rfl _ _ rfl rfl hnA.out rfl hcA (by omega) hzA ?_; 
       intro a3 cap3 w3 hn3 ho3
       have hs3 := (ho3.block gs hglA (name_apart hnA.out hsA.out)).trans hsA.out
       have c3 : w3.cell? ⟨gs, 1, none⟩ = some (.slice na ns.length nc) := by simp [World.cell?, hs3]
       have f3 : w3.frozen? ⟨gs, 1, none⟩ = false := by simp [World.frozen?, hs3]
       replace hs3 := Lib.hid hs3
       replace hn3 := Lib.hid hn3
       replace ho3 := Lib.hid ho3))

  refine bodyPost_end (results_none rfl _ _ _) rfl ?_
  have hA := hnA.out
  have hownb : ∀ k, (Value.slice na ns.length nc).ownBlock = some k → k ≠ b := by
    intro k hk e
    obtain ⟨_, _, cur, h3⟩ := hnm0.out.block hk
    rw [e] at h3
    exact M.out.ne_cells h3 rfl
  have hfun : (fun y => if y = nm then some v else findL L y) = findL (L ++ [(nm, v)]) := by
    funext y
    rw [findL_snoc]
  have hm1 := M1.out
  rw [hfun, hf0] at hm1
  have hsT := scOnly w3 gs 1 (.slice a3 (ns.length + 1) cap3)
  refine ⟨rfl, ⟨b, .slice a3 (ns.length + 1) cap3, ?_, ?_, ?_, hbb, hgb⟩, ?_⟩
  · have := heap_setCell_same w3 gs 1 _ _ (.slice a3 (ns.length + 1) cap3) hs3.out
    simpa using this
  · rw [List.length_append]
    exact (((hm1.kept hoA.out (fun h => h)).kept ho3.out (fun e => hownb _ e rfl)).kept hsT hbg)
  · rw [List.map_append, hns.out]
    exact ownsRow_only hn3.out hsT (fun g hg e => by subst e; exact name_apart hn3.out hs3.out hg)
  · refine ((ho1.out.trans (K := Fsc base w) hoA.out ?_ (fun _ _ h => h.elim)).trans (K := Fsc base w) ho3.out (fun _ _ h => h) ?_).trans (K := Fsc base w) hsT (fun _ _ h => h) ?_
    · intro k _ e
      subst e
      exact ⟨hbb, fun c t fr hc => absurd rfl (M.out.ne_cells hc)⟩
    · intro k _ e
      obtain ⟨n1, _, cur, n3⟩ := hnm0.out.block e
      refine ⟨n1, fun c t fr hc => ?_⟩
      rw [n3] at hc
      injection hc with hc
      injection hc with _ hc _
      exact .inr hc.symm
    · intro k _ e
      subst e
      refine ⟨hgb, fun c t fr hc => ?_⟩
      rw [hs0.out] at hc
      injection hc with hc
      injection hc with _ hc _
      exact .inl hc.symm
end Go.Proofs.YtefijbpbenmbgaaDoor
