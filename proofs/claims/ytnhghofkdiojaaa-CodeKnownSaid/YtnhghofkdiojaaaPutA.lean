/- Contracts of code.putNode at right nodes and of code.PutValue at right values; what was read as a value is right. -/
import Derived.Test.YtnhghofkdiojaaaPutN
import Derived.Test.YtnhghofkdiojaaaChk
namespace Go.Proofs.Ytnhghofkdiojaaa
open Go.RowKit

section
variable {w : World} {base : Nat} {v : Value} {l : List Nat}

theorem putNode_any {d : Nd} (hd : RightNd d) (hk : d.kids ≤ 1024) (hs : d.s.size ≤ 1099511620000) (h : Buf8 w base v l) (hb : base ≤ w.heap.size) (hlen : l.length ≤ 1099511620000) :
    Calls Try.prog 36 #[v, ndV d] w (PutOn base w (l ++ nodeL d)) := by
  obtain ⟨k, kids, n, s, x, y⟩ := d
  rcases hd with ⟨_, e⟩ | ⟨_, e | e⟩ | ⟨_, e, hn⟩ | ⟨_, e⟩ | ⟨_, e, hf, hx, hy⟩ | ⟨_, e⟩
  · cases e; exact putNode_0 h hb hlen
  · cases e; exact putNode_1 (c := 0) (by omega) h hb hlen
  · cases e; exact putNode_1 (c := 1) (by omega) h hb hlen
  · cases e; exact putNode_2 hn h hb hlen
  · cases e; exact putNode_3 hs h hb hlen
  · cases e; exact putNode_4 hx hy h hb hlen
  · cases e; exact putNode_5 hk h hb hlen

theorem nodeL_len {d : Nd} (hd : RightNd d) (hk : d.kids ≤ 1024) (hs : d.s.size ≤ 1099511620000) : (nodeL d).length ≤ 20 + d.s.size := by
  obtain ⟨k, kids, n, s, x, y⟩ := d
  rcases hd with ⟨_, e⟩ | ⟨_, e | e⟩ | ⟨_, e, hn⟩ | ⟨_, e⟩ | ⟨_, e, hf, hx, hy⟩ | ⟨_, e⟩
  · cases e; show 1 ≤ _; omega
  · cases e; show 2 ≤ _; omega
  · cases e; show 2 ≤ _; omega
  · cases e
    have := uintL_len10 (n := foldN n) (foldN_lt hn.1 hn.2)
    show (uintL (foldN n)).length + 1 ≤ _
    omega
  · cases e
    have := uintL_len10 (n := s.size) (by simp only at hs; omega)
    show (uintL s.size ++ strN s).length + 1 ≤ 20 + s.size
    rw [List.length_append, strN_length]
    omega
  · cases e; show 17 ≤ _; omega
  · cases e
    have := uintL_len10 (n := kids) (by simp only at hk; omega)
    show (uintL kids).length + 1 ≤ _
    omega
theorem valL_len : ∀ {d : List Nd}, (∀ x ∈ d, RightNd x) → (∀ x ∈ d, x.kids ≤ 1024) → (∀ x ∈ d, x.s.size ≤ 4096) → (valL d).length ≤ 4200 * d.length
  | [], _, _, _ => Nat.le_refl _
  | x :: d, h1, h2, h3 => by
    have hx := h3 x (by simp)
    have := nodeL_len (h1 x (by simp)) (h2 x (by simp)) (by omega)
    have ih := valL_len (d := d) (fun y hy => h1 y (by simp [hy])) (fun y hy => h2 y (by simp [hy])) (fun y hy => h3 y (by simp [hy]))
    show (nodeL x ++ valL d).length ≤ 4200 * (d.length + 1)
    rw [List.length_append]
    omega
end

/-- The texts of a value are short. -/
theorem txt_mem : ∀ {d : List Nd} {x : Nd}, x ∈ d → 1 + x.s.size ≤ sizeN d
  | y :: d, x, h => by
    show _ ≤ 1 + y.s.size + sizeN d
    rcases List.mem_cons.1 h with rfl | h
    · omega
    · have := txt_mem h; omega
/-- No node of a whole value has as many kids as there are nodes. -/
theorem left_low : ∀ d : List Nd, 1 - (d.length : Int) ≤ leftN d
  | [] => by show (1 : Int) - 0 ≤ 1; omega
  | x :: d => by have := left_low d; show 1 - ((d.length + 1 : Nat) : Int) ≤ leftN d + x.kids - 1; omega
theorem left_kids : ∀ {d : List Nd} {x : Nd}, x ∈ d → 1 - (d.length : Int) + x.kids ≤ leftN d
  | y :: d, x, h => by
    show 1 - ((d.length + 1 : Nat) : Int) + x.kids ≤ leftN d + y.kids - 1
    rcases List.mem_cons.1 h with rfl | h
    · have := left_low d; omega
    · have := left_kids h; omega
theorem rightV_of {f : Nat → Nat} {p size : Nat} {d : List Nd} (h : ValInv f p d size 0) : RightV d := by
  have hfin : leftN d = 0 := h.lf
  have hk : ∀ x ∈ d, x.kids < d.length := fun x hx => by have := left_kids hx; omega
  have hfew := h.few
  refine ⟨⟨?_, hfew, fun x hx => by have := hk x hx; omega, h.pos, hfin⟩, h.nodes, hk, by rw [h.sz]; exact h.small⟩
  cases d with
  | nil => exact absurd hfin (by decide)
  | cons => simp

theorem valL_take {d : List Nd} {k : Nat} (h : k < d.length) : valL (d.take (k + 1)) = valL (d.take k) ++ nodeL d[k] := by
  rw [List.take_succ_eq_append_getElem h, valL_append]
  show _ ++ (nodeL d[k] ++ []) = _
  rw [List.append_nil]
theorem valL_take_len {d : List Nd} (hd : RightV d) (k : Nat) : (valL (d.take k)).length ≤ 4300800 := by
  have hsz := hd.sz
  have hm : ∀ x ∈ d.take k, x ∈ d := fun x hx => List.mem_of_mem_take hx
  have := valL_len (d := d.take k) (fun x hx => hd.nodes x (hm x hx)) (fun x hx => hd.good.kids x (hm x hx)) (fun x hx => by have := txt_mem (hm x hx); omega)
  have h2 : (d.take k).length ≤ d.length := by rw [List.length_take]; omega
  have h3 := hd.good.few
  omega

/-- What PutValue hands back. -/
def PutV (d : List Nd) (w : World) (e : Ending) (w' : World) : Prop := ∃ v, e = .returned (.tuple #[v, .int .i64 0]) ∧ Buf8 w' w.heap.size v (valL d) ∧ Below w.heap.size w w'

set_option maxRecDepth 100000 in
set_option maxHeartbeats 2000000 in
theorem PutValue_any {w : World} {b : Nat} {v : Value} {d : List Nd} (hd : RightV d) (hrow : RowN w b v d) :
    Calls Try.prog 12 #[v] w (PutV d w) := by
  obtain ⟨g, cap, rfl, -, hg, hnc, hcm, -⟩ := ownsRow_head hrow hd.good.ne
  have hrow0 : RowN w 0 _ d := rowN_low hrow (Nat.zero_le _)
  have h1 := check_ok hd hrow0
  have hsc := sc_any
  have hfew := hd.good.few
  have hsz := hd.sz
  have hlen := valL_take_len hd
  have hN : ∀ k (h : k < d.length), RightNd d[k] ∧ d[k].kids ≤ 1024 ∧ d[k].s.size ≤ 1099511620000 := fun k h => ⟨hd.nodes _ (List.getElem_mem h), hd.good.kids _ (List.getElem_mem h), by have := txt_mem (List.getElem_mem h); omega⟩
  clear hrow
  replace hd := Lib.hid hd
  replace hrow0 := Lib.hid hrow0
  replace hN := Lib.hid hN
  replace hlen := Lib.hid hlen
  go_enter Try.func12, Try.ntmps12
  go_wp2_with ((with_reducible refine h1.mono ?_); rintro e w0 ⟨rfl, hb0⟩)
  go_loopw [5, 15] (fun t5 i wr => ∃ k : Nat, k ≤ d.length ∧ i = .int .i64 k ∧ Buf8 wr w.heap.size t5 (valL (d.take k)) ∧ Below w.heap.size w wr) (fun _ i _ => d.length - (intOf i).toNat)
  case atStart => exact ⟨0, by omega, rfl, Buf8.nil _ _, hb0⟩
  case round =>
    obtain ⟨k, hk, rfl, hB, hb⟩ := hrel
    by_cases hlt : k < d.length
    · have hki : (k : Int) < d.length := by omega
      obtain ⟨x0, x1, x2, x3, x4⟩ := rowN_cells (hrow0.out.below hb) hlt
      have hL := Lib.hid (valL_take hlt)
      have hll := hlen.out k
      have hP := fun (w1 : World) (t : Value) (hB1 : Buf8 w1 w.heap.size t (valL (d.take k))) (hb1 : w.heap.size ≤ w1.heap.size) => putNode_any (hN.out k hlt).1 (hN.out k hlt).2.1 (hN.out k hlt).2.2 hB1 hb1 (by omega)
      generalize d[k] = nd at x0 x1 x2 x3 x4 hL hP
      obtain ⟨nk, nkids, nn, ns, nx, ny⟩ := nd
      simp only [ndV] at x0 x1 x2 x3 x4 hP
      obtain ⟨l', hl'⟩ := exHid (valL (d.take k))
      rw [hl'.out] at hB hP hL
      have hP1 := hP _ _ (own_alloc hB (.cells #[.int .u8 nk, .int .i64 nkids, .int .i64 nn, .string ns, .complex .f64 nx ny] 34)) (by have := hb.size; simp; omega)
      clear hP hl'
      replace hB := Lib.hid hB
      go_wp2_with ((with_reducible refine hP1.mono ?_); rintro e w1 ⟨v1, rfl, hB1, hb1⟩; replace hB1 := Lib.hid hB1)
      go_roundw
      case rel =>
        refine ⟨k + 1, by omega, by go_num, ?_, (hb.alloc hb.size _).trans hb1⟩
        rw [hL.out]
        exact hB1.out
      case measure => simp [intOf]; omega
    · have hki : ¬ (k : Int) < d.length := by omega
      have hke : k = d.length := by omega
      subst hke
      rw [List.take_length] at hB
      replace hB := Lib.hid hB
      go_wp2
      go_ret2
      exact ⟨_, rfl, hB.out, hb⟩
end Go.Proofs.Ytnhghofkdiojaaa
