/- A number's four bytes (layer 6), put and read; a frame. -/
import Derived.Test.YtdeloaknoadpiaaFSum
namespace Go.Proofs.Ytdeloaknoadpiaa
open Go.RowKit Crc

/-- Bytes in a block that was just laid. -/
theorem bs_new (w : World) {m : List Nat} (hm : ∀ b ∈ m, b < 256) (hl : m.length ≤ 9223372036854775807) {cs : Array Value} {t : TypeId} (h : cs = (cellsN m).toArray) {n : Nat} (hn : n = m.length) :
    Bs (w.alloc (.cells cs t)) (.slice (some ⟨w.heap.size, 0, none⟩) n n) m := by
  subst h hn
  refine ⟨_, _, rfl, fun h0 => ⟨w.heap.size, 0, rfl, by simp, fun j hj => ?_⟩, Nat.le_refl _, hl, fun h => by cases h⟩
  rw [Nat.zero_add, World.cell?_alloc_new]
  have hb := hm (m.getD j 0) (by rw [List.getD_eq_getElem?_getD, List.getElem?_eq_getElem hj]; exact List.getElem_mem _)
  refine ⟨?_, hb⟩
  simp [cellsN, List.getElem?_eq_getElem hj, List.getD_eq_getElem?_getD]

theorem four_cells (x : Nat) (hx : x < 4294967296) :
    (#[Value.int IntKind.u8 ((x : Int) % 256), Value.int IntKind.u8 ((x : Int) / 256 % 256), Value.int IntKind.u8 ((x : Int) / 65536 % 256), Value.int IntKind.u8 ((x : Int) / 16777216)] : Array Value) = (cellsN (le 4 x)).toArray := by
  have e1 : ((x : Int) % 256) = ((x % 256 : Nat) : Int) := by omega
  have e2 : ((x : Int) / 256 % 256) = ((x / 256 % 256 : Nat) : Int) := by omega
  have e3 : ((x : Int) / 65536 % 256) = ((x / 256 / 256 % 256 : Nat) : Int) := by omega
  have e4 : ((x : Int) / 16777216) = ((x / 256 / 256 / 256 % 256 : Nat) : Int) := by omega
  rw [e1, e2, e3, e4]
  rfl

section
variable {w : World} {base : Nat} {v : Value} {l : List Nat}
set_option maxHeartbeats 1000000 in
theorem put_any (h : Buf8 w base v l) (hb : base ≤ w.heap.size) (hlen : l.length ≤ 1099511627776) {x : Nat} (hx : x < 4294967296) :
    Calls Try.prog 25 #[v, .int .u32 x] w fun e w' => ∃ v', e = .returned v' ∧ Buf8 w' base v' (l ++ le 4 x) ∧ Only (RowOf v) w w' ∧ OwnNext w v v' := by
  have hfc := Lib.hid (four_cells x hx)
  have hnew := fun cs t (h : cs = (cellsN (le 4 x)).toArray) => bs_new w (le_byte 4 x) (by rw [le_length]; omega) (t := t) h (le_length 4 x).symm
  have hB1 := fun cs t => Buf8.only h (Only.of_below ((Below.refl w.heap.size w).alloc (Nat.le_refl _) (.cells cs t))) (F := fun _ => False) (fun _ _ h => h)
  replace h := Lib.hid h
  replace hnew := Lib.hid hnew
  replace hB1 := Lib.hid hB1
  have hl4 := le_length 4 x
  go_enter Try.func25, Try.ntmps25
  go_wp2_with (at_builtin; (refine wpList_append_bs (base := base) (v := v) (l := l) (m := le 4 x) rfl _ _ rfl rfl (hB1.out _ _) rfl (hnew.out _ _ hfc.out) (by omega) (by simp; omega) ?_; intro v1 w1 hB hO hN _))
  go_ret
  exact ⟨v1, rfl, hB, (((Only.refl (RowOf v) w).alloc _).then hO), fun k hk => (hN k hk).imp id (fun h => by simp at h; omega)⟩

/-- The four bytes of a number lie ahead. -/
theorem num4_lt {l : List Nat} (h : ∀ b ∈ l, b < 256) : num4 l < 4294967296 := by
  have hd : ∀ i, l.getD i 0 < 256 := fun i => by
    rw [List.getD_eq_getElem?_getD]
    rcases Nat.lt_or_ge i l.length with hi | hi
    · rw [List.getElem?_eq_getElem hi]; exact h _ (List.getElem_mem _)
    · rw [List.getElem?_eq_none hi]; decide
  have h0 := hd 0
  have h1 := hd 1
  have h2 := hd 2
  have h3 := hd 3
  unfold num4
  omega
theorem join32 {acc t s : Nat} (ha : acc < 2 ^ s) (h1 : acc < 4294967296) (h2 : t * 2 ^ s < 4294967296) : bits .or .u32 (acc : Int) ((t * 2 ^ s : Nat) : Int) = ((acc + t * 2 ^ s : Nat) : Int) := by
  rw [u32_or_nat _ _ h1 h2, Nat.or_comm, nat_join s _ _ (Nat.mul_mod_left _ _) ha, Nat.add_comm]
theorem or4 {x0 x1 x2 x3 : Nat} (d0 : x0 < 256) (d1 : x1 < 256) (d2 : x2 < 256) (d3 : x3 < 256) :
    bits .or .u32 (bits .or .u32 (bits .or .u32 (x0 : Int) ((x1 : Int) * 256)) ((x2 : Int) * 65536)) ((x3 : Int) * 16777216) = ((x0 + 256 * x1 + 65536 * x2 + 16777216 * x3 : Nat) : Int) := by
  have a1 : bits .or .u32 (x0 : Int) ((x1 : Int) * 256) = ((x0 + x1 * 2 ^ 8 : Nat) : Int) := join32 (t := x1) (s := 8) (by omega) (by omega) (by omega)
  have a2 : bits .or .u32 ((x0 + x1 * 2 ^ 8 : Nat) : Int) ((x2 : Int) * 65536) = ((x0 + x1 * 2 ^ 8 + x2 * 2 ^ 16 : Nat) : Int) := join32 (t := x2) (s := 16) (by omega) (by omega) (by omega)
  have a3 : bits .or .u32 ((x0 + x1 * 2 ^ 8 + x2 * 2 ^ 16 : Nat) : Int) ((x3 : Int) * 16777216) = ((x0 + x1 * 2 ^ 8 + x2 * 2 ^ 16 + x3 * 2 ^ 24 : Nat) : Int) := join32 (t := x3) (s := 24) (by omega) (by omega) (by omega)
  rw [a1, a2, a3]
  omega

set_option maxRecDepth 20000 in
set_option maxHeartbeats 1000000 in
theorem number_any (h : Bs w v l) (hl : 4 ≤ l.length) :
    Calls Try.prog 33 #[v] w fun e w' => e = .returned (.int .u32 (num4 l : Nat)) ∧ ∃ n, w' = w.drewN n := by
  obtain ⟨a, cap, rfl, hB, h1, h2, h3⟩ := h
  obtain ⟨b, off, rfl, _, hc⟩ := hB (by omega)
  obtain ⟨c0, d0⟩ := hc 0 (by omega)
  obtain ⟨c1, d1⟩ := hc 1 (by omega)
  obtain ⟨c2, d2⟩ := hc 2 (by omega)
  obtain ⟨c3, d3⟩ := hc 3 (by omega)
  dsimp only at c0 c1 c2 c3 d0 d1 d2 d3
  rw [Nat.add_zero] at c0
  unfold num4
  generalize l.getD 0 0 = x0 at *
  generalize l.getD 1 0 = x1 at *
  generalize l.getD 2 0 = x2 at *
  generalize l.getD 3 0 = x3 at *
  have i0 : (0 : Int) < l.length := by omega
  have i1 : (1 : Int) < l.length := by omega
  have i2 : (2 : Int) < l.length := by omega
  have i3 : (3 : Int) < l.length := by omega
  have z0 : IntKind.u32.wrap (x0 : Int) = ((x0 : Nat) : Int) := by rw [IntKind.wrap_u32]; omega
  have z1 : IntKind.u32.wrap (x1 : Int) = ((x1 : Nat) : Int) := by rw [IntKind.wrap_u32]; omega
  have z2 : IntKind.u32.wrap (x2 : Int) = ((x2 : Nat) : Int) := by rw [IntKind.wrap_u32]; omega
  have z3 : IntKind.u32.wrap (x3 : Int) = ((x3 : Nat) : Int) := by rw [IntKind.wrap_u32]; omega
  clear hB hc
  go_enter Try.func33, Try.ntmps33
  go_wp2
  go_quiet (fail)
  go_wp2
  go_ret
  exact ⟨ret_int (or4 d0 d1 d2 d3), _, rfl⟩

/-- Bytes are put behind others of the call's own: what lies below the base stays. -/
theorem put_on (h : Buf8 w base v l) (hb : base ≤ w.heap.size) (hlen : l.length ≤ 1099511627776) {x : Nat} (hx : x < 4294967296) :
    Calls Try.prog 25 #[v, .int .u32 x] w fun e w' => ∃ v', e = .returned v' ∧ Buf8 w' base v' (l ++ le 4 x) ∧ Below base w w' :=
  (put_any h hb hlen hx).mono fun _ _ ⟨v', he, hB, hO, _⟩ => ⟨v', he, hB, hO.below hb (fun k hk h' => by have := row_base h k h'; omega)⟩

theorem byte_append {l m : List Nat} (h1 : ∀ b ∈ l, b < 256) (h2 : ∀ b ∈ m, b < 256) : ∀ b ∈ l ++ m, b < 256 := fun b hb => (List.mem_append.1 hb).elim (h1 b) (h2 b)
theorem frameL_byte {l : List Nat} (h : ∀ b ∈ l, b < 256) : ∀ b ∈ frameL l, b < 256 :=
  byte_append (le_byte _ _) (byte_append (le_byte _ _) (byte_append h (le_byte _ _)))
end
end Go.Proofs.Ytdeloaknoadpiaa
