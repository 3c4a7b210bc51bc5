/- The law FrameBits: a frame of which bits are turned is not read. -/
import Derived.Test.YtbcmmpdakeemdaaFAwake
import Derived.Test.YtbcmmpdakeemdaaFOpen
import Derived.Test.YtbcmmpdakeemdaaFBitsP
import Derived.Deep.Cut
import Derived.Deep.CutRange
namespace Go.Proofs.Ytbcmmpdakeemdaa
open Go.RowKit Crc

section
variable {w : World} {base : Nat} {v : Value} {l : List Nat}
theorem Buf8.set {g cap L : Nat} (h : Buf8 w base (.slice (some ⟨g, 0, none⟩) L cap) l) {j : Nat} (hj : j < l.length) (x : Nat) :
    Buf8 (w.setCell ⟨g, j, none⟩ (.int .u8 (x : Int))) base (.slice (some ⟨g, 0, none⟩) L cap) (l.set j x) := by
  unfold Buf8 at h ⊢
  obtain ⟨h1, hcase⟩ := h
  rcases hcase with ⟨h2, _⟩ | ⟨g', cap', cur, h2, hb, hh, hnc, hcm, hsz, ht⟩
  · cases h2
  · cases h2
    rw [List.length_set]
    refine ⟨by simp [cellsN], .inr ⟨g, cap, cur.setIfInBounds j (.int .u8 (x : Int)), rfl, hb, ?_, hnc, hcm, by simpa using hsz, ?_⟩⟩
    · exact heap_setCell_same w g j _ _ _ hh
    · rw [Array.toList_setIfInBounds, List.take_set, ht]
      simp [cellsN, List.map_set]
theorem Buf8.at_ {g cap L : Nat} (h : Buf8 w base (.slice (some ⟨g, 0, none⟩) L cap) l) {j : Nat} (hj : j < l.length) : w.cell? ⟨g, j, none⟩ = some (.int .u8 (l.getD j 0 : Nat)) ∧ w.frozen? ⟨g, j, none⟩ = false := by
  have h' := h
  unfold Buf8 at h'
  obtain ⟨h1, hcase⟩ := h'
  rcases hcase with ⟨h2, _⟩ | ⟨g', cap', cur, h2, hb, hh, hnc, hcm, hsz, ht⟩
  · cases h2
  · cases h2
    have hc := World.ownsRow.cellAt (g := g) (cap := cap) h j (by omega)
    refine ⟨?_, by simp [World.frozen?, hh]⟩
    rw [hc]
    simp [cellsN, List.getElem?_eq_getElem hj, List.getD_eq_getElem?_getD]

theorem flip_xor {x r : Nat} (hx : x < 256) (hr : r < 8) : bits .xor .u8 (x : Int) ((2 ^ r : Nat) : Int) = ((x ^^^ 2 ^ r : Nat) : Int) :=
  u8_xor_nat x (2 ^ r) hx (Nat.lt_of_lt_of_le (Nat.pow_lt_pow_right (by omega) hr) (by decide))
theorem flip_lt {x r : Nat} (hx : x < 256) (hr : r < 8) : x ^^^ 2 ^ r < 256 :=
  Nat.xor_lt_two_pow (n := 8) hx (Nat.lt_of_lt_of_le (Nat.pow_lt_pow_right (by omega) hr) (by decide))
theorem turned_byte {l : List Nat} (h : ∀ b ∈ l, b < 256) (E : Nat) : ∀ b ∈ turned l E, b < 256 := by
  have key : ∀ (l : List Nat) (k E : Nat), (∀ b ∈ l, b < 256) → ∀ b ∈ turn l (le k E), b < 256 := by
    intro l
    induction l with
    | nil => intro k E h b hb; simp [turn] at hb
    | cons x l ih =>
      intro k E h b hb
      cases k with
      | zero => exact h b (by simpa [turn, le] using hb)
      | succ k =>
        simp only [turn, le, List.mem_cons] at hb
        rcases hb with rfl | hb
        · exact Nat.xor_lt_two_pow (n := 8) (h x (by simp)) (by omega)
        · exact ih k _ (fun y hy => h y (by simp [hy])) b hb
  exact key l _ E h
theorem getD_lt {l : List Nat} (h : ∀ b ∈ l, b < 256) (q : Nat) : l.getD q 0 < 256 := by
  rw [List.getD_eq_getElem?_getD]
  rcases Nat.lt_or_ge q l.length with hi | hi
  · rw [List.getElem?_eq_getElem hi]; exact h _ (List.getElem_mem _)
  · rw [List.getElem?_eq_none hi]; decide

theorem div8 (n : Nat) : (n : Int) / 8 = ((n / 8 : Nat) : Int) := by omega
theorem mod8 (n : Nat) : (n : Int) % 8 = ((n % 8 : Nat) : Int) := by omega
theorem modT (u N : Nat) : (u : Int) % (8 * (N : Int)) = ((u % (8 * N) : Nat) : Int) := by simp

theorem shl_one {r : Nat} (hr : r < 8) (w : World) : (binOp .shl 5 (.int .u8 1) (.int .u64 (r : Int))).run Try.prog w = .ok (.int .u8 ((2 ^ r : Nat) : Int)) w := by
  rcases (show r = 0 ∨ r = 1 ∨ r = 2 ∨ r = 3 ∨ r = 4 ∨ r = 5 ∨ r = 6 ∨ r = 7 by omega) with rfl | rfl | rfl | rfl | rfl | rfl | rfl | rfl <;> rfl

/-- One bit of a row turned, as the walk wants it: a byte at q is x, turned y. -/
structure OneBit (base g N capF : Nat) (F G : List Nat) (q x y s : Nat) : Prop where
  at_ : ∀ W, Buf8 W base (.slice (some ⟨g, 0, none⟩) N capF) F → W.cell? ⟨g, q, none⟩ = some (.int .u8 x) ∧ W.frozen? ⟨g, q, none⟩ = false
  set_ : ∀ W, Buf8 W base (.slice (some ⟨g, 0, none⟩) N capF) F → Buf8 (W.setCell ⟨g, q, none⟩ (.int .u8 y)) base (.slice (some ⟨g, 0, none⟩) N capF) G
  xor_ : bits .xor .u8 (x : Int) (s : Int) = (y : Int)
theorem oneBit (base g N capF : Nat) {F : List Nat} (hF : ∀ b ∈ F, b < 256) {n : Nat} (hn : n < 8 * F.length) :
    OneBit base g N capF F (flip F n) (n / 8) (F.getD (n / 8) 0) (F.getD (n / 8) 0 ^^^ 2 ^ (n % 8)) (2 ^ (n % 8)) where
  at_ := fun W hB => hB.at_ (by omega)
  set_ := fun W hB => hB.set (by omega) _
  xor_ := flip_xor (getD_lt hF _) (by omega)

theorem nat_facts {L N T n q r : Nat} (hl : L ≤ 3000) (hN : L + 12 = N) (hT : 8 * N = T) (hn : n < T) (hq : q < N) (hr : r < 8) :
    (N : Int) ≤ 3012 ∧ (12 : Int) ≤ (N : Int) ∧ (n : Int) ≤ 24096 ∧ (q : Int) < (N : Int) ∧ (r : Int) < 8 ∧ ¬ (N : Int) = 0 ∧ ¬ (3000 : Int) < (L : Int) ∧ (q : Int) ≤ 3012 :=
  ⟨by omega, by omega, by omega, by omega, by omega, by omega, by omega, by omega⟩

theorem mod_same {mask i : Nat} (h : mask / 2 ^ i % 2 = 0) : mask % 2 ^ (i + 1) = mask % 2 ^ i := by
  have := Nat.mod_mul (x := mask) (a := 2 ^ i) (b := 2)
  rw [Nat.pow_succ, this, h]; omega
theorem mod_set {mask i : Nat} (h : mask / 2 ^ i % 2 = 1) : decide (mask % 2 ^ (i + 1) ≠ 0) = true := by
  have := Nat.mod_mul (x := mask) (a := 2 ^ i) (b := 2)
  have hp := Nat.two_pow_pos i
  rw [Nat.pow_succ, this, h]
  exact decide_eq_true (by omega)
theorem pow_byte {r : Nat} (hr : r < 8) : (2 : Int) ^ r % 256 = ((2 ^ r : Nat) : Int) := by
  rcases (show r = 0 ∨ r = 1 ∨ r = 2 ∨ r = 3 ∨ r = 4 ∨ r = 5 ∨ r = 6 ∨ r = 7 by omega) with rfl | rfl | rfl | rfl | rfl | rfl | rfl | rfl <;> rfl
theorem bit_facts {fr i N : Nat} (h : 64 + fr + i < 8 * N) :
    (64 + (fr : Int) + (i : Int)) / 8 = (((64 + fr + i) / 8 : Nat) : Int) ∧ (64 + (fr : Int) + (i : Int)) % 8 = (((64 + fr + i) % 8 : Nat) : Int) ∧ (((64 + fr + i) / 8 : Nat) : Int) < (N : Int) ∧
    (((64 + fr + i) % 8 : Nat) : Int) < 8 ∧ (64 + (fr : Int) + (i : Int)) < 8 * (N : Int) ∧ (2 : Int) ^ ((64 + fr + i) % 8) % 256 = ((2 ^ ((64 + fr + i) % 8) : Nat) : Int) :=
  ⟨by omega, by omega, by omega, by omega, by omega, pow_byte (by omega)⟩

set_option maxRecDepth 20000 in
set_option maxHeartbeats 400000 in
theorem bits_go {F G : List Nat} {N T n q r x y s fr : Nat} {ub ua mask : Nat} {b a : Int} {al : Option Addr} {cap : Nat} (hl : l.length ≤ 3000)
    (hub : IntKind.u64.wrap b = (ub : Int)) (hua : IntKind.u64.wrap a = (ua : Int)) (hN : l.length + 12 = N) (hp : (2 : Int) ^ r % 256 = (s : Int))
    (hT : 8 * N = T) (e1 : (ub : Int) % (8 * (N : Int)) = (n : Int)) (e2 : (n : Int) / 8 = (q : Int)) (e3 : (n : Int) % 8 = (r : Int)) (hq : q < N) (hr : r < 8) (hn : n < T)
    (hFd : F = frameL l) (hby : ∀ b ∈ l, b < 256) (hm : mask < 4294967296) (e4 : (ua : Int) % (8 * ((l.length : Int) + 4)) = (fr : Int)) (hfr : fr < 8 * (l.length + 4))
    (h1 : ∀ g capF, OneBit w.heap.size g N capF F G q x y s) (h2 : ∀ g capF, OneBit w.heap.size g N capF G F q y x s)
    (hFr : ∀ W, Below w.heap.size w W → Calls Try.prog 9 #[.slice al l.length cap] W fun e w' => ∃ g capF, e = .returned (.tuple #[.slice (some ⟨g, 0, none⟩) N capF, .int .i64 0]) ∧ Buf8 w' w.heap.size (.slice (some ⟨g, 0, none⟩) N capF) F ∧ w.heap.size ≤ g ∧ N ≤ capF ∧ capF ≤ 9223372036854775807 ∧ Below w.heap.size w w')
    (hR1 : ∀ W g capF, Buf8 W w.heap.size (.slice (some ⟨g, 0, none⟩) N capF) G → Calls Try.prog 10 #[.slice (some ⟨g, 0, none⟩) N capF] W fun e w' => ∃ v' p, e = .returned (.tuple #[v', .int .i64 p, .int .i64 8]) ∧ Below W.heap.size W w')
    (hR0 : ∀ W g capF, Buf8 W w.heap.size (.slice (some ⟨g, 0, none⟩) N capF) F → Calls Try.prog 10 #[.slice (some ⟨g, 0, none⟩) N capF] W fun e w' => ∃ v' p, e = .returned (.tuple #[v', .int .i64 p, .int .i64 0]) ∧ Below W.heap.size W w') :
    Calls Try.prog 8 #[.slice al l.length cap, .int .i64 b, .int .i64 a, .int .u32 (mask : Int)] w fun e w' => e = .returned (.bool true) ∧ Below w.heap.size w w' := by
  have hA := awake_any w
  obtain ⟨i1, i2, i3, hqN, i5, n0, h30', i6⟩ := nat_facts hl hN hT hn hq hr
  have j1 : (l.length : Int) ≤ 3000 := by omega
  have j2 : (fr : Int) ≤ 24032 := by omega
  have j3 : (fr : Int) < 8 * ((l.length : Int) + 4) := by omega
  have e1h := Lib.hid e1
  clear hr hT hn hq
  replace hl := Lib.hid hl
  replace hfr := Lib.hid hfr
  replace hFd := Lib.hid hFd
  replace hby := Lib.hid hby
  replace hm := Lib.hid hm
  replace hN := Lib.hid hN
  replace hFr := Lib.hid hFr
  replace hR1 := Lib.hid hR1
  replace hR0 := Lib.hid hR0
  replace h1 := Lib.hid h1
  replace h2 := Lib.hid h2
  go_enter Try.func8, Try.ntmps8
  go_wp2_with fail
  refine hA.mono ?_
  rintro e w0 ⟨rfl, hb0⟩
  clear hA
  go_wp2_with fail
  refine (hFr.out _ hb0).mono ?_
  rintro e w1 ⟨g, capF, rfl, hB1, hgb, hNc, hcm, hb1⟩
  obtain ⟨c1, f1⟩ := (h1.out g capF).at_ _ hB1
  have x1 := (h1.out g capF).xor_
  have x2 := (h2.out g capF).xor_
  replace hB1 := Lib.hid hB1
  clear hFr
  go_wp2_with fail
  have hG1 := (h1.out g capF).set_ _ hB1.out
  have hd1 : Below w.heap.size w (w1.setCell ⟨g, q, none⟩ (.int .u8 (y : Int))) := hb1.setCell (p := ⟨g, q, none⟩) hgb _
  refine (hR1.out _ _ _ hG1).mono ?_
  rintro e w2 ⟨v2, p2, rfl, hg2⟩
  have hb2 := below_next hd1 hg2
  have hG2 := hG1.below hg2
  obtain ⟨c2, f2⟩ := (h2.out g capF).at_ _ hG2
  clear c1 f1 hB1 hG1 hd1 hg2 hb1 hR1
  replace hG2 := Lib.hid hG2
  go_wp2_with fail
  have hF3 := (h2.out g capF).set_ _ hG2.out
  have hd3 : Below w.heap.size w (w2.setCell ⟨g, q, none⟩ (.int .u8 (x : Int))) := hb2.setCell (p := ⟨g, q, none⟩) hgb _
  refine (hR0.out _ _ _ hF3).mono ?_
  rintro e w3 ⟨v3, p3, rfl, hg3⟩
  have hb3 := below_next hd3 hg3
  have hF4 := hF3.below hg3
  clear c2 f2 hG2 hF3 hd3 hg3 hb2 hR0 x1 x2 h1 h2
  replace hF4 := Lib.hid hF4
  go_wp2_with fail
  go_loopw [20, 21, 22] (fun t20 t21 _ wr => ∃ i : Nat, i ≤ 32 ∧ fr + i ≤ 8 * (l.length + 4) ∧ t21 = .int .i64 i ∧ t20 = .bool (decide (mask % 2 ^ i ≠ 0)) ∧ Buf8 wr w.heap.size (.slice (some ⟨g, 0, none⟩) N capF) (turned F (bits_ mask i fr)) ∧ Below w.heap.size w wr) (fun _ t21 _ _ => 32 - (intOf t21).toNat)
  case atStart => exact ⟨0, by omega, by have := hfr.out; omega, rfl, by rw [Nat.pow_zero, Nat.mod_one]; rfl, by rw [bits_zero, turned_zero]; exact hF4.out, hb3⟩
  case round =>
    obtain ⟨i, hi32, hib, rfl, rfl, hB, hbw⟩ := hrel
    have ii : (i : Int) ≤ 32 := by omega
    by_cases hgo : i < 32 ∧ fr + i < 8 * (l.length + 4)
    · have g1 : (i : Int) < 32 := by omega
      have g2 : (fr : Int) + (i : Int) < 8 * ((l.length : Int) + 4) := by omega
      have hbit : bits .and .u32 ((mask : Int) / 2 ^ i) 1 = ((mask / 2 ^ i % 2 : Nat) : Int) := by
        have h0 : mask / 2 ^ i < 4294967296 := Nat.lt_of_le_of_lt (Nat.div_le_self _ _) hm.out
        have := u32_and_nat (mask / 2 ^ i) 1 h0 (by omega)
        rw [nat_mask1] at this
        have e : (((mask / 2 ^ i : Nat)) : Int) = (mask : Int) / 2 ^ i := by simp
        rw [← e]; exact this
      rcases Nat.mod_two_eq_zero_or_one (mask / 2 ^ i) with hc | hc
      · rw [hc] at hbit
        have hbs := bits_same (fr := fr) hc
        have hb2 : (bits .and .u32 ((mask : Int) / 2 ^ i) 1 == 1) = false := by rw [hbit]; rfl
        clear hbit
        go_wp2
        go_roundw
        case rel => exact ⟨i + 1, by omega, by omega, by go_num, by rw [mod_same hc], by rw [← hbs]; exact hB, hbw⟩
        case measure => simp [intOf]; omega
      · rw [hc] at hbit
        have hb2 : (bits .and .u32 ((mask : Int) / 2 ^ i) 1 == 1) = true := by rw [hbit]; rfl
        have hlen : (turned F (bits_ mask i fr)).length = N := by rw [turned_length, hFd.out, frameL_length]; exact hN.out
        have hO := oneBit w.heap.size g N capF (F := turned F (bits_ mask i fr)) (turned_byte (by rw [hFd.out]; exact frameL_byte hby.out) _) (n := 64 + fr + i) (by rw [hlen]; have := hN.out; omega)
        rw [turned_flip (by rw [turned_length] at hlen; rw [hlen]; have := hN.out; omega), bits_next hc] at hO
        obtain ⟨c5, f5⟩ := hO.at_ _ hB
        have x5 := hO.xor_
        obtain ⟨e5, e6, k1, k2, k3, hp5⟩ := bit_facts (fr := fr) (i := i) (N := N) (by have := hN.out; omega)
        generalize (64 + fr + i) / 8 = q5 at *
        generalize (64 + fr + i) % 8 = r5 at *
        generalize (turned F (bits_ mask i fr)).getD q5 0 = x6 at *
        generalize x6 ^^^ 2 ^ r5 = y6 at *
        generalize (2 : Nat) ^ r5 = s6 at *
        replace hO := Lib.hid hO
        replace hB := Lib.hid hB
        clear hbit hlen
        go_wp2
        go_roundw
        case rel => exact ⟨i + 1, by omega, by omega, by go_num, by rw [mod_set hc], hO.out.set_ _ hB.out, hbw.setCell (p := ⟨g, q5, none⟩) hgb _⟩
        case measure => simp [intOf]; omega
    · have hFlen : (turned F (bits_ mask i fr)).length ≤ 1099511627776 := by rw [turned_length, hFd.out, frameL_length]; have := hl.out; omega
      have hRd := Read_any (hB.bs (turned_byte (by rw [hFd.out]; exact frameL_byte hby.out) _)) hFlen
      have hNi : (N : Int) = (l.length : Int) + 12 := by have := hN.out; omega
      by_cases hm0 : mask % 2 ^ i = 0
      · rw [hFd.out, read_none hby.out (by have := hl.out; omega) hm0] at hRd
        have hd0 : decide (mask % 2 ^ i ≠ 0) = false := decide_eq_false (by simpa using hm0)
        rw [hd0]
        clear hFlen hm0 hd0
        rcases Nat.lt_or_ge i 32 with g0 | g0
        · have g1 : (i : Int) < 32 := by omega
          have g2 : ¬ (fr : Int) + (i : Int) < 8 * ((l.length : Int) + 4) := by omega
          go_wp2_with ((with_reducible refine hRd.mono ?_); rintro e w4 ⟨v4, rfl, _, hg4⟩)
          go_ret
          exact ⟨ret_bool (by simp [hNi]), below_next hbw hg4⟩
        · have g1 : ¬ (i : Int) < 32 := by omega
          go_wp2_with ((with_reducible refine hRd.mono ?_); rintro e w4 ⟨v4, rfl, _, hg4⟩)
          go_ret
          exact ⟨ret_bool (by simp [hNi]), below_next hbw hg4⟩
      · rw [hFd.out, read_bits hby.out (by have := hl.out; omega) hi32 hib hm0] at hRd
        have hd0 : decide (mask % 2 ^ i ≠ 0) = true := decide_eq_true hm0
        rw [hd0]
        clear hFlen hm0 hd0
        rcases Nat.lt_or_ge i 32 with g0 | g0
        · have g1 : (i : Int) < 32 := by omega
          have g2 : ¬ (fr : Int) + (i : Int) < 8 * ((l.length : Int) + 4) := by omega
          go_wp2_with ((with_reducible refine hRd.mono ?_); rintro e w4 ⟨v4, rfl, _, hg4⟩)
          go_ret
          exact ⟨ret_bool (by simp), below_next hbw hg4⟩
        · have g1 : ¬ (i : Int) < 32 := by omega
          go_wp2_with ((with_reducible refine hRd.mono ?_); rintro e w4 ⟨v4, rfl, _, hg4⟩)
          go_ret
          exact ⟨ret_bool (by simp), below_next hbw hg4⟩
set_option maxHeartbeats 400000 in
theorem bits_long (h : 3000 < l.length) (b a m : Int) (al : Option Addr) (cap : Nat) :
    Calls Try.prog 8 #[.slice al l.length cap, .int .i64 b, .int .i64 a, .int .u32 m] w fun e w' => e = .returned (.bool true) ∧ Below w.heap.size w w' := by
  have hA := awake_any w
  have hn : (3000 : Int) < (l.length : Int) := by omega
  go_enter Try.func8, Try.ntmps8
  go_wp2_with ((with_reducible refine hA.mono ?_); rintro e w' ⟨rfl, hb⟩)
  go_ret
  exact ⟨rfl, hb⟩

theorem getD_set {F : List Nat} {q y : Nat} (h : q < F.length) : (F.set q y).getD q 0 = y := by
  rw [List.getD_eq_getElem?_getD, List.getElem?_set_self h]; rfl
theorem xor_back (x s : Nat) : (x ^^^ s) ^^^ s = x := by rw [Nat.xor_assoc, Nat.xor_self, Nat.xor_zero]
theorem oneBit_back (base g N capF : Nat) {F : List Nat} (hF : ∀ b ∈ F, b < 256) {n : Nat} (hn : n < 8 * F.length) :
    OneBit base g N capF (flip F n) F (n / 8) (F.getD (n / 8) 0 ^^^ 2 ^ (n % 8)) (F.getD (n / 8) 0) (2 ^ (n % 8)) := by
  have hb : ∀ b ∈ flip F n, b < 256 := by rw [flip_one hn]; exact turned_byte hF _
  have hl : (flip F n).length = F.length := by unfold Crc.flip; rw [List.length_set]
  have h := oneBit base g N capF hb (n := n) (by rw [hl]; exact hn)
  rw [flip_back hn] at h
  have hg : (flip F n).getD (n / 8) 0 = F.getD (n / 8) 0 ^^^ 2 ^ (n % 8) := by unfold Crc.flip; exact getD_set (by omega)
  rw [hg, xor_back] at h
  exact h

theorem bits_short (h : Bs w v l) (h30 : l.length ≤ 3000) {b a m : Int} (hm : (Lit.int .u32 m).wf = true) :
    Calls Try.prog 8 #[v, .int .i64 b, .int .i64 a, .int .u32 m] w fun e w' => e = .returned (.bool true) ∧ Below w.heap.size w w' := by
  have hby := h.byte
  have hFb := frameL_byte hby
  have hFl := frameL_length l
  have hm2 : 0 ≤ m ∧ m ≤ 4294967295 := by
    simp [Lit.wf, IntKind.min, IntKind.max, IntKind.signed, IntKind.bits] at hm
    exact hm
  obtain ⟨mask, rfl⟩ : ∃ k : Nat, m = k := ⟨m.toNat, by omega⟩
  obtain ⟨ub, hub⟩ : ∃ k : Nat, IntKind.u64.wrap b = k := ⟨(IntKind.u64.wrap b).toNat, by rw [IntKind.wrap_u64]; omega⟩
  obtain ⟨ua, hua⟩ : ∃ k : Nat, IntKind.u64.wrap a = k := ⟨(IntKind.u64.wrap a).toNat, by rw [IntKind.wrap_u64]; omega⟩
  have hn : ub % (8 * (l.length + 12)) < 8 * (frameL l).length := by rw [hFl]; exact Nat.mod_lt _ (by omega)
  have hn' := hn
  rw [hFl] at hn'
  have hBs := h
  obtain ⟨al, cap, rfl, _, _, _, _⟩ := h
  refine bits_go (F := frameL l) (G := flip (frameL l) (ub % (8 * (l.length + 12)))) (fr := ua % (8 * (l.length + 4))) (ub := ub) (ua := ua) h30 hub hua rfl (pow_byte (by omega)) rfl (modT ub (l.length + 12)) (div8 _) (mod8 _) (by omega) (by omega) hn' rfl hby (by omega) ?_ (Nat.mod_lt _ (by omega))
    (fun g capF => oneBit _ g _ capF hFb hn) (fun g capF => oneBit_back _ g _ capF hFb hn) ?_ ?_ ?_
  · have := modT ua (l.length + 4)
    rw [show ((l.length + 4 : Nat) : Int) = (l.length : Int) + 4 by omega] at this
    exact this
  · intro W hb
    refine (Frame_any (hBs.below hb) (by omega)).mono ?_
    rintro e w' ⟨v', rfl, hB, hg⟩
    have hB2 := hB.lift (b2 := w.heap.size) (fun q hq => Nat.le_trans hb.size (hB.base_ q hq).1)
    obtain ⟨g, capF, rfl, hg1, hg2, hg3, hg4, _⟩ := ownsRow_head hB2 (by omega)
    rw [hFl] at *
    exact ⟨g, capF, rfl, hB2, hg1, hg3, hg4, below_next hb hg⟩
  · intro W g capF hB
    have hfb : ∀ x ∈ flip (frameL l) (ub % (8 * (l.length + 12))), x < 256 := by rw [flip_one hn]; exact turned_byte hFb _
    have hfl : (flip (frameL l) (ub % (8 * (l.length + 12)))).length = l.length + 12 := by unfold Crc.flip; rw [List.length_set, hFl]
    have h8 := read_one hby (by omega) hn'
    refine (Read_any (hB.bs hfb) (by omega)).mono ?_
    rintro e w' ⟨v', he, _, hg⟩
    rw [h8] at he
    exact ⟨v', _, he, hg⟩
  · intro W g capF hB
    refine (Read_any (hB.bs hFb) (by omega)).mono ?_
    rintro e w' ⟨v', he, _, hg⟩
    rw [read_frame hby (by omega)] at he
    exact ⟨v', _, he, hg⟩
end

theorem frameBits_walk (v0 : Value) (a1 a2 a3 : Int) (w : World) (h0 : BytesIn w v0) (_h1 : I64 a1) (_h2 : I64 a2) (h3 : (Lit.int .u32 a3).wf = true) :
    Calls Try.prog 8 #[v0, .int .i64 a1, .int .i64 a2, .int .u32 a3] w fun e w' => e = .returned (.bool true) ∧ Below w.heap.size w w' := by
  obtain ⟨l, hB⟩ := h0.bs
  rcases Nat.lt_or_ge 3000 l.length with h | h
  · obtain ⟨a, cap, rfl, _⟩ := hB
    exact bits_long h a1 a2 a3 a cap
  · exact bits_short hB h h3
end Go.Proofs.Ytbcmmpdakeemdaa
