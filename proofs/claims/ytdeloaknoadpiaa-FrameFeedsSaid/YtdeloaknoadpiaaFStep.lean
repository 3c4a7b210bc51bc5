/- One piece fed to both readers (layer 6): what each call does, told of both together; a copy that is written over; bodies that are written over. -/
import Derived.Test.YtdeloaknoadpiaaFFeeds
import Derived.Laws.IdiomStrings
namespace Go.Proofs.Ytdeloaknoadpiaa
open Go.RowKit Crc

def stepB (rest : List Nat) (fault : Nat) (m : List Nat) : List (List Nat) := if fault = 0 then (splitL (rest ++ m)).bodies else []
def stepR (rest : List Nat) (fault : Nat) (m : List Nat) : List Nat := if fault = 0 then (rest ++ m).drop (splitL (rest ++ m)).at_ else rest
def stepT (rest : List Nat) (taken fault : Nat) (m : List Nat) : Nat := if fault = 0 then taken + (splitL (rest ++ m)).at_ else taken
def stepF (rest : List Nat) (fault : Nat) (m : List Nat) : Nat := if fault = 0 then (if (splitL (rest ++ m)).code = 4 then 0 else (splitL (rest ++ m)).code) else fault
theorem step_sum (rest : List Nat) (taken fault : Nat) (m : List Nat) : (stepR rest fault m).length + stepT rest taken fault m ≤ rest.length + taken + m.length := by
  unfold stepR stepT
  have := split_le (rest ++ m).length (rest ++ m) (Nat.le_refl _)
  split
  · rw [List.length_drop, List.length_append] at *; omega
  · omega

section
variable {w W W' W0 W1 : World} {n r s g taken fault left B p q : Nat} {u v vl v1 v2 : Value} {rest m l : List Nat} {F : Nat → Prop}

/-! ### a copy that may be written -/
/-- Block g has n cells at least that may be written. -/
def Free (w : World) (g n : Nat) : Prop := ∃ cs t fr, w.heap[g]? = some (.cells cs t fr) ∧ n ≤ cs.size ∧ n ≤ fr.1 
theorem Free.cell (h : Free w g n) {j : Nat} (hj : j < n) : ∃ u, w.cell? ⟨g, j, none⟩ = some u := by
  obtain ⟨cs, t, fr, hb, hn, _⟩ := h
  have hj' : j < cs.size := by omega
  exact ⟨cs[j], by simp [World.cell?, hb, hj']⟩
theorem Free.frozen (h : Free w g n) {j : Nat} (hj : j < n) : w.frozen? ⟨g, j, none⟩ = false := by
  obtain ⟨cs, t, fr, hb, _, hf⟩ := h
  simp [World.frozen?, hb]
  omega
theorem Free.only (h : Free w g n) (ho : Only F w W) (hF : ¬ F g) : Free W g n := by
  obtain ⟨cs, t, fr, hb, hn, hf⟩ := h
  exact ⟨cs, t, fr, (ho.block g (Array.getElem?_eq_some_iff.1 hb).1 hF).trans hb, hn, hf⟩
theorem Free.set (h : Free w g n) (j : Nat) (x : Value) : Free (w.setCell ⟨g, j, none⟩ x) g n := by
  obtain ⟨cs, t, fr, hb, hn, hf⟩ := h
  exact ⟨cs.setIfInBounds j x, t, fr, by simp [World.setCell, Array.getElem?_modify, hb], by simpa using hn, hf⟩

theorem cells_bytes (m : List Nat) (hm : ∀ b ∈ m, b < 256) : (bytesB m).data.map (fun b => Value.int .u8 b.toNat) = (cellsN m).toArray := by
  apply Array.ext'
  simp only [bytesB, cellsN, List.map_toArray, List.map_map]
  apply List.map_congr_left
  intro b hb
  have := hm b hb
  simp [Nat.mod_eq_of_lt this]

/-- The copy of a text's bytes. -/
theorem copy_new (W : World) {m : List Nat} (hm : ∀ b ∈ m, b < 256) (hl : m.length ≤ 100000) :
    ∃ cap W', (convert 9 22 (.string (bytesB m))).run Try.prog W = .ok (.slice (some ⟨W.heap.size, 0, none⟩) m.length cap) W' ∧
      Bs W' (.slice (some ⟨W.heap.size, 0, none⟩) m.length cap) m ∧ Free W' W.heap.size m.length ∧ Below W.heap.size W W' ∧ W'.heap.size = W.heap.size + 1 := by
  have hs : (bytesB m).size = m.length := by simp [bytesB, ByteArray.size]
  have h := run_bytes_of_string (P := Try.prog) W 9 22 5 (bytesB m) Try.underlying9 Try.underlying22 Try.underlying5
  rw [hs] at h
  have h1 := grownCap_ge W m.length 0 5
  have h2 := grownCap_le_maxLen W m.length 0 5 (by unfold maxLen; omega)
  unfold maxLen at h2
  generalize grownCap W m.length 0 5 = cap at h h1 h2
  have hsz : (bytesRow (bytesB m) cap).size = cap := by simp [bytesRow, hs, bytesB, ByteArray.size]; omega
  have hblock := fun o => heap_alloc_new W.drew o
  refine ⟨cap, _, h, ⟨_, cap, rfl, fun h0 => ⟨W.heap.size, 0, rfl, by simp, fun j hj => ?_⟩, h1, by omega, fun h => by cases h⟩, ⟨bytesRow (bytesB m) cap, _, _, heap_alloc_new W.drew _, by omega, by rw [hsz]; exact h1⟩, (Below.refl _ W).drew.alloc (Nat.le_refl _) _, by simp⟩
  have hb := hm (m.getD j 0) (by rw [List.getD_eq_getElem?_getD, List.getElem?_eq_getElem hj]; exact List.getElem_mem _)
  refine ⟨?_, hb⟩
  rw [Nat.zero_add]
  have e : (W.drew.alloc (.cells (bytesRow (bytesB m) cap) 5 ((bytesRow (bytesB m) cap).size, (bytesRow (bytesB m) cap).size + 1))).heap[W.heap.size]? = some (.cells (bytesRow (bytesB m) cap) 5 ((bytesRow (bytesB m) cap).size, (bytesRow (bytesB m) cap).size + 1)) := heap_alloc_new W.drew _
  simp only [World.cell?, e]
  unfold bytesRow
  rw [cells_bytes m hm, Array.getElem?_append_left (by simp [cellsN]; exact hj)]
  simp [cellsN, List.getElem?_eq_getElem hj, List.getD_eq_getElem?_getD]

/-! ### both fed -/
/-- Frame's reader has been fed a piece that stands in block g, the document's not yet. -/
def Mid (W : World) (B r s g p q : Nat) (rest m : List Nat) (taken fault : Nat) (vl : Value) : Prop :=
  B ≤ r ∧ r < s ∧ s < g ∧ g < p ∧ q ≤ W.heap.size ∧ g < W.heap.size ∧ BodsQ W p q vl (stepB rest fault m) ∧
  ∃ v1 v2 rest1, RdAt W r v1 rest1 (stepR rest fault m).length (stepT rest taken fault m) (stepF rest fault m) ∧ SdAt W s v2 rest taken fault ∧ (stepF rest fault m = 0 → rest1 = stepR rest fault m) ∧
    (∀ k, RowOf v1 k → B ≤ k ∧ k < W.heap.size ∧ k ≠ s ∧ k ≠ g ∧ (k < p ∨ q ≤ k)) ∧ (∀ k, RowOf v2 k → 0 < rest.length → B ≤ k ∧ k < g ∧ k ≠ r) ∧ (∀ k, RowOf v1 k → RowOf v2 k → 0 < rest.length → False)
theorem Mid.only (h : Mid W B r s g p q rest m taken fault vl) (ho : Only (fun k => k = g) W W') : Mid W' B r s g p q rest m taken fault vl := by
  obtain ⟨h1, h2, h3, h4, h5, h6, hQ, v1, v2, rest1, hR, hS, he, hv1, hv2, hd⟩ := h
  have hz := ho.size
  refine ⟨h1, h2, h3, h4, by omega, by omega, hQ.only ho (fun k _ _ e => by have e' : k = g := e; omega), v1, v2, rest1,
    hR.only ho (fun e => by have e' : r = g := e; omega) (fun k hk e => (hv1 k hk).2.2.2.1 e), hS.only ho (fun e => by have e' : s = g := e; omega) (fun k hk h0 e => by have e' : k = g := e; have := hv2 k hk h0; omega), he, fun k hk => by have := hv1 k hk; omega, hv2, hd⟩

theorem rd_rows (h : RdAt w r v rest left taken fault) : ∀ k, RowOf v k → k < w.heap.size := fun k hk => (h.row.choose_spec.base_ k hk).2

/-- What Feed tells of both. -/
def FedM (W1 : World) (B r s g : Nat) (rest m : List Nat) (taken fault : Nat) (e : Ending) (W2 : World) : Prop :=
  ∃ a cap p q, e = .returned (.tuple #[.slice a (stepB rest fault m).length cap, .int .i64 (stepF rest fault m : Nat)]) ∧ Mid W2 B r s g p q rest m taken fault (.slice a (stepB rest fault m).length cap) ∧ Only (fun k => B ≤ k ∧ k ≠ g) W1 W2

theorem feed_pair (h : Pair W0 B r s rest taken fault) (hW : Below W0.heap.size W0 W1) (hz : W1.heap.size = W0.heap.size + 1) (hu : Bs W1 u m) (hr : rest.length ≤ 3000) (ht : taken ≤ 3000) (hm : m.length ≤ 3000) :
    Calls Try.prog 11 #[.pointer (some ⟨r, 0, none⟩), u] W1 (FedM W1 B r s W0.heap.size rest m taken fault) := by
  obtain ⟨h1, h2, h3, v1, v2, rest1, hR, hS, he, hv1, hv2, hd⟩ := h
  have hR1 := hR.below hW
  have hS1 := hS.below hW
  by_cases h0 : fault = 0
  · obtain rfl := he h0
    subst h0
    refine (Feed_any hR1 (by omega) (by omega) hu (by omega)).mono ?_
    rintro e W2 ⟨vl, v1', p, q, rfl, hp, hq, hQ, hR2, hk1, hk2, hO⟩
    obtain ⟨a, cap, rfl, _, _⟩ := ownsRow_shape hQ.choose_spec.2.1
    have hz2 := hO.size
    have hl2 := rd_rows hR2
    have hsr : ∀ k, RowOf v1 k → k ≠ s := fun k hk => (hv1 k hk).2.2
    refine ⟨a, cap, p, q, ?_, ⟨h1, h2, h3, by omega, hq, by omega, ?_, v1', v2, (if (splitL (rest1 ++ m)).code = 0 ∨ (splitL (rest1 ++ m)).code = 4 then (rest1 ++ m).drop (splitL (rest1 ++ m)).at_ else []), ?_, ?_, ?_, ?_, ?_, ?_⟩, ?_⟩
    · simp [stepB, stepF]
    · simpa [stepB] using hQ
    · have e : (stepR rest1 0 m).length = (rest1 ++ m).length - (splitL (rest1 ++ m)).at_ := by simp [stepR]
      rw [e]
      simpa [stepT, stepF] using hR2
    · refine hS1.only hO (fun e => ?_) (fun k hk hk0 e => ?_)
      · rcases e with e | e
        · omega
        · exact hsr s e rfl
      · have := hv2 k hk hk0
        rcases e with e | e
        · omega
        · exact hd k e hk hk0
    · intro h0
      simp only [stepF, if_true] at h0
      simp only [stepR, if_true]
      rw [if_pos]
      by_cases h : (splitL (rest1 ++ m)).code = 4
      · exact .inr h
      · rw [if_neg h] at h0; exact .inl h0
    · intro k hk
      have h5 := hl2 k hk
      have h6 := hk2 k hk
      rcases hk1 k hk with h | h
      · have := hv1 k h; omega
      · omega
    · intro k hk hk0
      have := hv2 k hk hk0
      omega
    · intro k hk hk2 hk0
      rcases hk1 k hk with h | h
      · exact hd k h hk2 hk0
      · have := hv2 k hk2 hk0; omega
    · refine hO.mono (fun k _ e => ?_)
      rcases e with e | e
      · subst e; omega
      · have := hv1 k e; omega
  · refine (Feed_broken hR1 h0 u).mono ?_
    rintro e W2 ⟨rfl, hb⟩
    have hz2 := hb.size
    have e1 : stepB rest fault m = [] := if_neg h0
    have e2 : stepR rest fault m = rest := if_neg h0
    have e3 : stepT rest taken fault m = taken := if_neg h0
    have e4 : stepF rest fault m = fault := if_neg h0
    refine ⟨none, 0, W1.heap.size, W1.heap.size, by rw [e1, e4]; rfl, ⟨h1, h2, h3, by omega, hz2, by omega, ?_, v1, v2, rest1, ?_, hS1.below hb, fun h => absurd (e4 ▸ h) h0, ?_, ?_, hd⟩, Only.of_below hb⟩
    · rw [e1]
      exact (Bods.toQ (w := W1) (p := W1.heap.size) ⟨[], rfl, World.ownsRow_nil _ _ _ _, fun i hi => by simp at hi⟩).only (F := fun _ => False) (Only.of_below hb) (fun _ _ _ h => h)
    · rw [e2, e3, e4]; exact hR1.below hb
    · intro k hk; have := hv1 k hk; omega
    · intro k hk hk0; have := hv2 k hk hk0; omega

/-- What the document's Feed tells of both. -/
def FedB (W : World) (B r s p q : Nat) (rest m : List Nat) (taken fault : Nat) (vl : Value) (e : Ending) (W' : World) : Prop :=
  ∃ a cap, e = .returned (.tuple #[.slice a (stepB rest fault m).length cap, .int .i64 (stepF rest fault m : Nat)]) ∧ Rows2 W' (.slice a (stepB rest fault m).length cap) (stepB rest fault m) ∧ Rows2 W' vl (stepB rest fault m) ∧ BodsQ W' p q vl (stepB rest fault m) ∧
    PairX W' B r s (stepR rest fault m) (stepT rest taken fault m) (stepF rest fault m) p q ∧ Only (fun k => k = s) W W'

theorem refFeed_pair (h : Mid W B r s g p q rest m taken fault vl) (hu : Bs W u m) (hr : rest.length ≤ 3000) (ht : taken ≤ 3000) (hm : m.length ≤ 3000) :
    Calls Try.prog 24 #[.pointer (some ⟨s, 0, none⟩), u] W (FedB W B r s p q rest m taken fault vl) := by
  obtain ⟨h1, h2, h3, h4, h5, h6, hQ, v1, v2, rest1, hR, hS, he, hv1, hv2, hd⟩ := h
  by_cases h0 : fault = 0
  · subst h0
    have hb : ∀ b ∈ rest ++ m, b < 256 := fun b hb => (List.mem_append.1 hb).elim (hS.row.byte b) (hu.byte b)
    refine (refFeed_any hS (by omega) (by omega) hu (by omega)).mono ?_
    rintro e W' ⟨vm, v2', rfl, hBo, hS2, hk, hO⟩
    obtain ⟨a, cap, rfl, _, _⟩ := ownsRow_shape hBo.choose_spec.2.1
    have hz := hO.size
    have hQ' := hQ.only hO (fun k _ _ e => by have e' : k = s := e; omega)
    refine ⟨a, cap, by simp [stepB, stepF], ?_, hQ'.bods.rows (by simpa [stepB] using splitL_byte _ _ (Nat.le_refl _) hb), hQ', ⟨h1, h2, by omega, by omega, v1, v2', rest1, hR.only hO (fun e => by have e' : r = s := e; omega) (fun k hk e => (hv1 k hk).2.2.1 e), ?_, he, fun k hk => by have := hv1 k hk; omega, ?_, ?_⟩, hO⟩
    · have := hBo.rows (splitL_byte _ _ (Nat.le_refl _) hb)
      simpa [stepB] using this
    · simpa [stepR, stepT, stepF] using hS2
    · intro k hk2 h0
      have h7 := hk k hk2
      have h8 := hS2.row.row_lt k hk2 (by simpa [stepR] using h0)
      omega
    · intro k hk1 hk2 h0
      have h7 := hk k hk2
      have := hv1 k hk1
      omega
  · have e1 : stepB rest fault m = [] := if_neg h0
    have e2 : stepR rest fault m = rest := if_neg h0
    have e3 : stepT rest taken fault m = taken := if_neg h0
    have e4 : stepF rest fault m = fault := if_neg h0
    refine (refFeed_broken hS h0 u).mono ?_
    rintro e W' ⟨rfl, hb⟩
    have hz := hb.size
    rw [e2, e3, e4] at hR
    have hQ' := hQ.only (F := fun _ => False) (Only.of_below hb) (fun _ _ _ h => h)
    refine ⟨none, 0, by rw [e1, e4]; rfl, by rw [e1]; exact ⟨none, 0, rfl, Nat.le_refl _, by omega, fun h => by simp at h⟩, hQ'.bods.rows (by rw [e1]; simp), hQ', ?_, Only.of_below hb⟩
    rw [e2, e3, e4]
    refine ⟨h1, h2, by omega, by omega, v1, v2, rest1, hR.below hb, hS.below hb, fun h => absurd h h0, fun k hk => by have := hv1 k hk; omega, fun k hk h0 => by have := hv2 k hk h0; omega, hd⟩

/-! ### what both tell behind that -/
/-- What the walk reads of both, whatever was drawn. -/
theorem PairX.cells (h : PairX W B r s rest taken fault p q) : ∃ a cap, ∀ n, (W.drewN n).cell? ⟨r, 1, none⟩ = some (.int .i64 rest.length) ∧ (W.drewN n).cell? ⟨r, 3, none⟩ = some (.int .i64 taken) ∧
    (W.drewN n).cell? ⟨s, 0, none⟩ = some (.slice a rest.length cap) ∧ (W.drewN n).cell? ⟨s, 1, none⟩ = some (.int .i64 taken) := by
  obtain ⟨h1, h2, h3, h4, v1, v2, rest1, hR, hS, _⟩ := h
  obtain ⟨a, cap, rfl, _⟩ := hS.row
  refine ⟨a, cap, fun n => ?_⟩
  have hd := below_drewN (Below.refl W.heap.size W) n
  obtain ⟨_, c1, _, c3, _⟩ := (hR.below hd).cell
  obtain ⟨d0, d1, _⟩ := (hS.below hd).cell
  exact ⟨c1, c3, d0, d1⟩

/-! ### bodies that are written over -/
/-- Bodies in blocks of [p,q), each of which may be written as far as it goes. -/
def Wr (w : World) (p q : Nat) (v : Value) (ns : List Nat) : Prop :=
  ∃ vs : List Value, vs.length = ns.length ∧ w.ownsRow p 22 1 v ns.length vs ∧ (∀ k, RowOf v k → k < q) ∧
    ∀ i, i < ns.length → ∃ a cap, vs[i]? = some (.slice a (ns.getD i 0) cap) ∧ ns.getD i 0 ≤ 9223372036854775807 ∧ (0 < ns.getD i 0 → ∃ g cs, a = some ⟨g, 0, none⟩ ∧ p ≤ g ∧ g < q ∧ w.heap[g]? = some (.cells cs 5 (0, 0)) ∧ ns.getD i 0 ≤ cs.size)
theorem BodsQ.wr {ls : List (List Nat)} (h : BodsQ w p q v ls) : Wr w p q v (ls.map List.length) := by
  obtain ⟨vs, h1, h2, h3, h4⟩ := h
  refine ⟨vs, by simpa using h1, by simpa using h2, h3, fun i hi => ?_⟩
  have hi' : i < ls.length := by simpa using hi
  obtain ⟨u, hu, hB, hq⟩ := h4 i hi'
  have e : (ls.map List.length).getD i 0 = (ls.getD i []).length := by
    simp [List.getD_eq_getElem?_getD, List.getElem?_eq_getElem hi']
  rw [e]
  rcases hB.2 with ⟨hv, h0⟩ | ⟨g, cap, cur, hv, hb, hg, hnc, hcm, hsz, _⟩
  · exact ⟨none, 0, by rw [hu, hv, h0], by omega, fun h => by omega⟩
  · exact ⟨_, cap, by rw [hu, hv], by unfold maxLen at hcm; omega, fun _ => ⟨g, cur, rfl, hb, hq g (by rw [hv]; rfl), hg, by omega⟩⟩
theorem Wr.head {ns : List Nat} (h : Wr w p q v ns) {i : Nat} (hi : i < ns.length) : ∃ b cap a c, v = .slice (some ⟨b, 0, none⟩) ns.length cap ∧ w.cell? ⟨b, i, none⟩ = some (.slice a (ns.getD i 0) c) ∧ ns.getD i 0 ≤ 9223372036854775807 ∧
    (0 < ns.getD i 0 → ∃ g, a = some ⟨g, 0, none⟩ ∧ p ≤ g ∧ g < q ∧ ∀ j, j < ns.getD i 0 → (∃ u, w.cell? ⟨g, j, none⟩ = some u) ∧ w.frozen? ⟨g, j, none⟩ = false) := by
  obtain ⟨vs, h1, h2, h3, h4⟩ := h
  obtain ⟨a, c, hu, hbd, hw⟩ := h4 i hi
  rcases h2.2 with ⟨_, h0⟩ | ⟨b, cap, cur, hv, _⟩
  · omega
  · subst hv
    refine ⟨b, cap, a, c, rfl, ?_, hbd, fun h0 => ?_⟩
    · have hc := World.ownsRow.cellAt (g := b) (cap := cap) h2 i (by omega)
      rw [hc]; exact hu
    · obtain ⟨g, cs, rfl, hp, hq, hb, hn⟩ := hw h0
      refine ⟨g, rfl, hp, hq, fun j hj => ⟨?_, by simp [World.frozen?, hb]⟩⟩
      have hj' : j < cs.size := by omega
      exact ⟨cs[j], by simp [World.cell?, hb, hj']⟩
theorem Wr.set {ns : List Nat} (h : Wr w p q v ns) {i j : Nat} (hi : i < ns.length) {b cap g c c2 : Nat} {x u : Value} (hv : v = .slice (some ⟨b, 0, none⟩) ns.length cap) (hc : w.cell? ⟨b, i, none⟩ = some (.slice (some ⟨g, 0, none⟩) c c2)) (hj : 0 < ns.getD i 0) :
    Wr (w.setCell ⟨g, j, none⟩ x) p q v ns := by
  obtain ⟨vs, h1, h2, h3, h4⟩ := h
  obtain ⟨a, c', hu, _, hw⟩ := h4 i hi
  obtain ⟨g', cs, ha, hp, hq, hb, hn⟩ := hw hj
  have hc0 : w.cell? ⟨b, i, none⟩ = some (.slice a (ns.getD i 0) c') := by
    subst hv
    rw [World.ownsRow.cellAt (g := b) (cap := cap) h2 i (by omega)]; exact hu
  rw [hc0] at hc
  injection hc with hc
  injection hc with e1 e2 e3
  rw [ha] at e1
  injection e1 with e1
  injection e1 with e1
  subst e1
  have hne : ∀ k, RowOf v k → k ≠ g' := by
    rintro k hk rfl
    rcases h2.2 with ⟨_, h0⟩ | ⟨b', cap', cur, hv', _, hb', _⟩
    · omega
    · rw [hv'] at hk
      have e : k = b' := by simpa [RowOf, Value.ownBlock] using hk.symm
      subst e
      rw [hb] at hb'
      injection hb' with hb'
      injection hb' with _ ht
      exact absurd ht (by decide)
  have hO : Only (fun k => k = g') w (w.setCell ⟨g', j, none⟩ x) := (Only.refl (fun k => k = g') w).setCell (p := ⟨g', j, none⟩) (.inl rfl) _
  refine ⟨vs, h1, ownsRow_only h2 hO (fun k hk e => hne k hk e), h3, fun i2 hi2 => ?_⟩
  obtain ⟨a2, c2', hu2, hbd2, hw2⟩ := h4 i2 hi2
  refine ⟨a2, c2', hu2, hbd2, fun h0 => ?_⟩
  obtain ⟨g2, cs2, ha2, hp2, hq2, hb2, hn2⟩ := hw2 h0
  by_cases e : g2 = g'
  · subst e
    exact ⟨g2, cs2.setIfInBounds j x, ha2, hp2, hq2, by simp [World.setCell, Array.getElem?_modify, hb2], by simpa using hn2⟩
  · exact ⟨g2, cs2, ha2, hp2, hq2, (hO.block g2 (Array.getElem?_eq_some_iff.1 hb2).1 e).trans hb2, hn2⟩
theorem Wr.below {ns : List Nat} (h : Wr w p q v ns) (hb : Below w.heap.size w W) : Wr W p q v ns := by
  obtain ⟨vs, h1, h2, h3, h4⟩ := h
  refine ⟨vs, h1, ownsRow_only (F := fun _ => False) h2 (Only.of_below hb) (fun _ _ h => h), h3, fun i hi => ?_⟩
  obtain ⟨a, c, hu, hbd, hw⟩ := h4 i hi
  refine ⟨a, c, hu, hbd, fun h0 => ?_⟩
  obtain ⟨g, cs, ha, hp, hq, hg, hn⟩ := hw h0
  exact ⟨g, cs, ha, hp, hq, (hb.block g (Array.getElem?_eq_some_iff.1 hg).1).trans hg, hn⟩
theorem Rows2.drewN {ls : List (List Nat)} (h : Rows2 w v ls) (n : Nat) : Rows2 (w.drewN n) v ls := h.below (below_drewN (Below.refl _ _) n)
theorem PairX.drewN (h : PairX W B r s rest taken fault p q) (n : Nat) : PairX (W.drewN n) B r s rest taken fault p q := h.only (F := fun _ => False) (Only.of_below (below_drewN (Below.refl _ _) n)) (fun _ _ h => h.elim)
theorem Wr.drewN {ns : List Nat} (h : Wr w p q v ns) (n : Nat) : Wr (w.drewN n) p q v ns := h.below (below_drewN (Below.refl _ _) n)
end
end Go.Proofs.Ytdeloaknoadpiaa
