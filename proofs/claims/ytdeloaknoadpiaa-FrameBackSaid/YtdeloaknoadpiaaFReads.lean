/- The law FrameReads: what bytes say as a frame, and as frames, and what is wrong, and where, are the document's. -/
import Derived.Test.YtdeloaknoadpiaaFSplit
import Derived.Test.YtdeloaknoadpiaaFRefS
import Derived.Test.YtdeloaknoadpiaaFSame
import Derived.Test.YtdeloaknoadpiaaFOpen
namespace Go.Proofs.Ytdeloaknoadpiaa
open Go.RowKit Crc

theorem readL_byte {l : List Nat} (h : ∀ b ∈ l, b < 256) : ∀ b ∈ (readL l).body, b < 256 := by
  unfold readL
  repeat' split
  all_goals first
    | (intro b hb; simp at hb; done)
    | (intro b hb; exact h b (List.mem_of_mem_drop (List.mem_of_mem_take hb)))
theorem splitL_byte : ∀ (k : Nat) (l : List Nat), l.length ≤ k → (∀ b ∈ l, b < 256) → ∀ m ∈ (splitL l).bodies, ∀ b ∈ m, b < 256
  | k, l, hk, h => by
    by_cases h0 : l = []
    · subst h0; intro m hm; rw [splitL_nil] at hm; simp at hm
    by_cases hc : (readL l).code = 0
    · have hr := read_le hc
      rw [splitL_step h0 hc]
      match k with
      | 0 => omega
      | k + 1 =>
        intro m hm
        rcases List.mem_cons.1 hm with rfl | hm
        · exact readL_byte h
        · exact splitL_byte k (l.drop (readL l).n) (by rw [List.length_drop]; omega) (fun b hb => h b (List.mem_of_mem_drop hb)) m hm
    · rw [splitL_stop h0 hc]; intro m hm; simp at hm
theorem Bs.row_lt {w : World} {v : Value} {l : List Nat} (h : Bs w v l) : ∀ k, RowOf v k → 0 < l.length → k < w.heap.size := by
  intro k hk h0
  obtain ⟨q, hq, hlt⟩ := h.block h0
  unfold RowOf at hk hq
  rw [hk] at hq
  cases hq
  exact hlt

section
variable {w : World} {v : Value} {l : List Nat}
set_option maxHeartbeats 400000 in
theorem freads_long (h1 : 3000 < l.length) (a : Option Addr) (cap : Nat) :
    Calls Try.prog 5 #[.slice a l.length cap] w fun e w' => e = .returned (.bool true) ∧ Below w.heap.size w w' := by
  have hA := awake_any w
  have hn : (3000 : Int) < (l.length : Int) := by omega
  go_enter Try.func5, Try.ntmps5
  go_wp2_with ((with_reducible refine hA.mono ?_); rintro e w' ⟨rfl, hb⟩)
  go_ret
  exact ⟨rfl, hb⟩

set_option maxRecDepth 20000 in
set_option maxHeartbeats 1000000 in
theorem freads_short (h : Bs w v l) (h1 : l.length ≤ 3000) :
    Calls Try.prog 5 #[v] w fun e w' => e = .returned (.bool true) ∧ Below w.heap.size w w' := by
  have hA := awake_any w
  have hby := h.byte
  have hBs := fun W (hb : Below w.heap.size w W) => h.below hb
  have hbo := readL_byte hby
  have hbs := splitL_byte l.length l (Nat.le_refl _) hby
  obtain ⟨a, cap, rfl, _, _, _, _⟩ := h
  have hn : ¬ (3000 : Int) < (l.length : Int) := by omega
  have k1 := fun W (hb : Below w.heap.size w W) => Read_any (hBs W hb) (by omega)
  have k2 := fun W (hb : Below w.heap.size w W) => refRead_any (hBs W hb)
  have k3 := fun W (hb : Below w.heap.size w W) => Split_any (hBs W hb) (by omega) (hBs W hb).row_lt
  have k4 := fun W (hb : Below w.heap.size w W) => refSplit_any (hBs W hb) (by omega)
  have hst := fun W (b : Nat) (u : Value) (h : Buf8 W b u (readL l).body) => (h.bs hbo).string
  generalize readL l = R at *
  generalize splitL l = S at *
  generalize bytesB R.body = T at *
  have hTT := str_self T
  replace k1 := Lib.hid k1
  replace k2 := Lib.hid k2
  replace k3 := Lib.hid k3
  replace k4 := Lib.hid k4
  replace hst := Lib.hid hst
  clear hBs hbo
  go_enter Try.func5, Try.ntmps5
  go_wp2_with fail
  refine hA.mono ?_
  rintro e w0 ⟨rfl, hb0⟩
  go_wp2_with fail
  refine (k1.out _ hb0).mono ?_
  rintro e w1 ⟨v1, rfl, hB1, hg1⟩
  have hb1 := below_next hb0 hg1
  go_wp2_with fail
  refine (k2.out _ hb1).mono ?_
  rintro e w2 ⟨v2, rfl, hB2, hg2⟩
  have hb2 := below_next hb1 hg2
  have f1 := hst.out _ _ _ (hB1.below hg2)
  have f2 := hst.out _ _ _ hB2
  clear hB1 hB2 k1 k2
  go_wp2_with fail
  refine (k3.out _ hb2).mono ?_
  rintro e w3 ⟨v3, rfl, hB3, hg3⟩
  have hb3 := below_next hb2 hg3
  clear f1 f2
  go_wp2_with fail
  refine (k4.out _ hb3).mono ?_
  rintro e w4 ⟨v4, rfl, hB4, hg4⟩
  have hb4 := below_next hb3 hg4
  have hSa := same_true ((hB3.below hg4).rows hbs) (hB4.rows hbs)
  clear hB3 hB4 k3 k4
  go_wp2_with fail
  refine hSa.mono ?_
  rintro e w5 ⟨rfl, hg5⟩
  go_wp2
  go_ret
  exact ⟨rfl, below_next hb4 hg5⟩
end

theorem frameReads_walk (v0 : Value) (w : World) (h0 : BytesIn w v0) :
    Calls Try.prog 5 #[v0] w fun e w' => e = .returned (.bool true) ∧ Below w.heap.size w w' := by
  obtain ⟨l, hB⟩ := h0.bs
  rcases Nat.lt_or_ge 3000 l.length with h | h
  · obtain ⟨a, cap, rfl, _⟩ := hB
    exact freads_long h a cap
  · exact freads_short hB h
end Go.Proofs.Ytdeloaknoadpiaa
