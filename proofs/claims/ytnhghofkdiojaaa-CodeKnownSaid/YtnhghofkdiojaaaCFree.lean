/- The law CodeFree: no number's bytes are the beginning of another one's, whole numbers' and texts' neither; a greater number has no fewer bytes. -/
import Derived.Test.YtnhghofkdiojaaaCTop
namespace Go.Proofs.Ytnhghofkdiojaaa
open Go.RowKit

theorem bytesB_inj {l m : List Nat} (hl : ∀ b ∈ l, b < 256) (hm : ∀ b ∈ m, b < 256) (h : bytesB l = bytesB m) : l = m := by
  unfold bytesB at h
  have h1 : l.map (·.toUInt8) = m.map (·.toUInt8) := by
    have := congrArg (fun x : ByteArray => x.data.toList) h
    simpa using this
  have key : ∀ (k : List Nat), (∀ b ∈ k, b < 256) → (k.map (·.toUInt8)).map (·.toNat) = k := by
    intro k hk
    rw [List.map_map]
    conv => rhs; rw [← List.map_id k]
    apply List.map_congr_left
    intro b hb
    have := hk b hb
    simp; omega
  rw [← key l hl, h1, key m hm]

theorem str_beq {s t : ByteArray} {B : Bool} (h : B = true ↔ s = t) : (s.toList == t.toList) = B := by
  rw [Bool.eq_iff_iff, h, beq_iff_eq, ByteArray.toList_eq, ByteArray.toList_eq]
  constructor
  · intro e
    apply ByteArray.ext
    exact Array.toList_inj.1 e
  · intro e; rw [e]

section
variable {w : World} {bx b2 : Nat} {x y : Value} {lx ly : List Nat}
theorem head_string (h : Buf8 w bx x lx) (hl : ∀ b ∈ lx, b < 256) {n : Nat} (hn : n ≤ lx.length) :
    ∃ a cap, x = .slice a lx.length cap ∧ lx.length ≤ cap ∧ cap ≤ 9223372036854775807 ∧ ∀ m, (convert 22 9 (.slice a n cap)).run Try.prog (w.drewN m) = .ok (.string (bytesB (lx.take n))) (w.drewN m) := by
  obtain ⟨a, cap, hx, hB, h1, h2, h3⟩ := h.by_ hl
  refine ⟨a, cap, hx, h1, h2, fun m => ?_⟩
  have e : textB (fun j => lx.getD j 0) 0 n = bytesB (lx.take n) := by
    unfold textB bytesB textL
    congr 2
    apply List.ext_getElem
    · simp; omega
    · intro i h1 h2
      simp at h1 h2
      simp [List.getD_eq_getElem?_getD, List.getElem?_eq_getElem (show i < lx.length by omega)]
  rcases Nat.eq_zero_or_pos n with h0 | h0
  · subst h0
    rcases a with _ | q
    · exact nil_string cap _
    · exact empty_string q cap _
  · obtain ⟨b, off, rfl, _, hc⟩ := hB (by omega)
    rw [← e]
    exact bytes_string _ (fun j hj => by rw [Nat.zero_add]; exact hc j (by omega))

set_option maxHeartbeats 1000000 in
theorem begins_any5 (hx : Buf8 w bx x lx) (hy : Buf8 w b2 y ly) (hlx : ∀ b ∈ lx, b < 256) (hly : ∀ b ∈ ly, b < 256) {B : Bool} (hB : B = true ↔ ∃ m, lx = ly ++ m) :
    Calls Try.prog 29 #[x, y] w fun e w' => e = .returned (.bool B) ∧ Below w.heap.size w w' := by
  by_cases hle : ly.length ≤ lx.length
  · obtain ⟨a, cap, rfl, h1, h2, hs1⟩ := head_string hx hlx hle
    obtain ⟨a2, cap2, rfl, h3, h4, hs2⟩ := head_string hy hly (Nat.le_refl _)
    rw [List.take_length] at hs2
    have hle' : (ly.length : Int) ≤ lx.length := by omega
    have hBB : ((bytesB (lx.take ly.length)).toList == (bytesB ly).toList) = B := by
      apply str_beq
      rw [hB]
      constructor
      · rintro ⟨m, h⟩
        rw [h, List.take_left]
      · intro h
        have := bytesB_inj (fun b hb => hlx b (List.mem_of_mem_take hb)) hly h
        exact ⟨lx.drop ly.length, by conv => lhs; rw [← List.take_append_drop ly.length lx, this]⟩
    generalize bytesB (lx.take ly.length) = s1 at hs1 hBB
    generalize bytesB ly = s2 at hs2 hBB
    generalize lx.length = n1 at h1 hle hle' ⊢
    generalize ly.length = n2 at h3 hle hle' hs1 hs2 ⊢
    clear hx hy hB
    go_enter Try.func29, Try.ntmps29
    go_wp2
    go_quiet (fail)
    go_wp2
    go_ret
    exact ⟨rfl, below_drewN (Below.refl _ _) _⟩
  · have hle' : ¬ (ly.length : Int) ≤ lx.length := by omega
    have hf : Hid (B = false) := by
      show B = false
      cases B with
      | false => rfl
      | true =>
        exfalso
        obtain ⟨m, h⟩ := hB.1 rfl
        apply hle
        rw [h, List.length_append]; omega
    obtain ⟨a, cap, rfl, -, h1, h2, -⟩ := hx.by_ hlx
    obtain ⟨a2, cap2, rfl, -, h3, h4, -⟩ := hy.by_ hly
    clear hx hy hB
    go_enter Try.func29, Try.ntmps29
    go_wp2
    go_quiet (fail)
    go_wp2
    go_ret
    exact ⟨ret_bool hf.out.symm, below_drewN (Below.refl _ _) _⟩

theorem Buf8.below {w' : World} {b : Nat} {l : List Nat} {v : Value} (h : Buf8 w b v l) (hb : Below w.heap.size w w') : Buf8 w' b v l := h.only (F := fun _ => False) (Only.of_below hb) (fun _ _ h => h)
theorem Buf8.len {b : Nat} {l : List Nat} {v : Value} (h : Buf8 w b v l) : ∃ a cap, v = .slice a l.length cap ∧ l.length ≤ cap ∧ cap ≤ 9223372036854775807 := ownsRow_shape h
end

theorem uint_prefix {a b : Nat} (ha : a < 18446744073709551616) (hb : b < 18446744073709551616) : (a = b) ↔ ∃ m, uintL a = uintL b ++ m := by
  constructor
  · intro h; subst h; exact ⟨[], by simp⟩
  · rintro ⟨m, h⟩
    exact (uintL_free ha hb (m := []) (n := m) (by simpa using h)).1
theorem text_prefix {s t : ByteArray} (hs : s.size ≤ 1099511627776) (ht : t.size ≤ 1099511627776) : (s = t) ↔ ∃ m, uintL s.size ++ strN s = (uintL t.size ++ strN t) ++ m := by
  constructor
  · intro h; subst h; exact ⟨[], by simp⟩
  · rintro ⟨m, h⟩
    rw [List.append_assoc] at h
    obtain ⟨h1, h2⟩ := uintL_free (by omega) (by omega) h
    have h3 : (strN s).length = (strN t).length := by rw [strN_length, strN_length, h1]
    have h4 := (List.append_inj (s₁ := strN s) (t₁ := []) (by simpa using h2) h3).1
    have key : ∀ x : ByteArray, (strN x).map (·.toUInt8) = x.data.toList := by
      intro x
      unfold strN
      rw [List.map_map]
      conv => rhs; rw [← List.map_id x.data.toList]
      apply List.map_congr_left
      intro b _
      simp
    apply ByteArray.ext
    apply Array.toList_inj.1
    rw [← key s, h4, key t]
theorem strN_byte (s : ByteArray) : ∀ b ∈ strN s, b < 256 := by
  intro b hb
  unfold strN at hb
  obtain ⟨c, _, rfl⟩ := List.mem_map.1 hb
  exact c.toNat_lt
theorem text_byte (s : ByteArray) : ∀ b ∈ uintL s.size ++ strN s, b < 256 := by
  intro b hb
  rcases List.mem_append.1 hb with h | h
  · exact uintL_byte _ b h
  · exact strN_byte s b h

/-- What was written is read. -/
theorem read_int {w : World} {base : Nat} {v : Value} {i : Int} (hi : I64 i) (h : Buf8 w base v (uintL (foldN i))) :
    Calls Try.prog 18 #[v] w fun e w' => e = .returned (.tuple #[.int .i64 i, .int .i64 ((uintL (foldN i)).length : Nat), .int .i64 0]) ∧ Below w.heap.size w w' := by
  obtain ⟨a, cap, rfl, hB, h1, h2, h3⟩ := h.by_ (uintL_byte _)
  have hR := ReadInt_any5 hB h1 h2 h3
  have e := numR_wrote (f := fun j => (uintL (foldN i)).getD j 0) (L := (uintL (foldN i)).length) (p := 0) (foldN_lt hi.1 hi.2) (fun j _ => by simp) (by simp)
  rw [e] at hR
  simp only [unf_fold, Nat.zero_add] at hR
  exact hR
theorem textB_strN (s : ByteArray) (l : List Nat) (L : Nat) : textB (fun j => (l ++ strN s).getD j 0) l.length s.size = s := by
  have h1 : textL (fun j => (l ++ strN s).getD j 0) l.length s.size = s.data.toList := by
    apply List.ext_getElem
    · simp [textL]
    · intro i h1 h2
      have hi : i < s.size := by simpa [textL] using h1
      have e1 : s.data[i]? = some (s.data[i]'(by simpa using h2)) := Array.getElem?_eq_getElem _
      simp [textL, strN, List.getD_eq_getElem?_getD, List.getElem?_append_right, e1]
  unfold textB
  rw [h1]
theorem read_text {w : World} {base : Nat} {v : Value} (s : ByteArray) (hs : s.size ≤ 1099511627776) (h : Buf8 w base v (uintL s.size ++ strN s)) :
    Calls Try.prog 20 #[v] w fun e w' => e = .returned (.tuple #[.string s, .int .i64 ((uintL s.size).length + s.size : Nat), .int .i64 0]) ∧ Below w.heap.size w w' := by
  obtain ⟨a, cap, rfl, hB, h1, h2, h3⟩ := h.by_ (text_byte s)
  have hR := ReadText_any5 hB h1 h2 h3
  have hl : (uintL s.size ++ strN s).length = (uintL s.size).length + s.size := by rw [List.length_append, strN_length]
  have e := numR_wrote (f := fun j => (uintL s.size ++ strN s).getD j 0) (L := (uintL s.size ++ strN s).length) (p := 0) (m := s.size) (by omega) (LiesAt.left (m := strN s) (fun j _ => by simp)) (by rw [hl]; omega)
  rw [e] at hR
  have ec : textCode (uintL s.size ++ strN s).length ⟨s.size, 0 + (uintL s.size).length, 0⟩ = 0 := by
    unfold textCode; rw [if_pos rfl, if_neg (by rw [hl]; simp only; omega)]
  have et : textTo (uintL s.size ++ strN s).length ⟨s.size, 0 + (uintL s.size).length, 0⟩ = (uintL s.size).length + s.size := by
    unfold textTo; rw [if_pos rfl, if_neg (by rw [hl]; simp only; omega)]; simp
  have ev : textV (fun j => (uintL s.size ++ strN s).getD j 0) (uintL s.size ++ strN s).length ⟨s.size, 0 + (uintL s.size).length, 0⟩ = .string s := by
    unfold textV; rw [if_pos ec]
    simp only [Nat.zero_add]
    rw [textB_strN s _ 0]
  rw [ec, et, ev] at hR
  exact hR

set_option maxRecDepth 100000 in
set_option maxHeartbeats 4000000 in
theorem free_long1 (A B : Nat) (i k : Int) (s t : ByteArray) (w : World) (hAn : A < 18446744073709551616) (hBn : B < 18446744073709551616) (ii : I64 i) (ik : I64 k) (hs : 20000 < s.size) :
    Calls Try.prog 7 #[.int .u64 A, .int .u64 B, .int .i64 i, .int .i64 k, .string s, .string t] w fun e w' => e = .returned (.bool true) ∧ Below w.heap.size w w' := by
  have hA := awake_any5 w
  have hPa := Lib.hid (PutUint_any A hAn)
  have hPb := Lib.hid (PutUint_any B hBn)
  have hPi := Lib.hid (fun w => PutInt_any ii w)
  have hPk := Lib.hid (fun w => PutInt_any ik w)
  obtain ⟨B1, hB1⟩ : ∃ b : Bool, b = true ↔ A = B := ⟨decide (A = B), decide_eq_true_iff⟩
  obtain ⟨B2, hB2⟩ : ∃ b : Bool, b = true ↔ i = k := ⟨decide (i = k), decide_eq_true_iff⟩
  have hp1 := Lib.hid (hB1.trans (uint_prefix hAn hBn))
  have hp2 : Hid (B2 = true ↔ ∃ m, uintL (foldN i) = uintL (foldN k) ++ m) := hB2.trans (⟨fun h => by rw [h], fun h => foldN_inj h⟩ : i = k ↔ foldN i = foldN k) |>.trans (uint_prefix (foldN_lt ii.1 ii.2) (foldN_lt ik.1 ik.2))
  have e1 : ((A : Int) == (B : Int)) = B1 := by rw [Bool.eq_iff_iff, hB1, beq_iff_eq]; omega
  have e2 : (i == k) = B2 := by rw [Bool.eq_iff_iff, hB2, beq_iff_eq]
  have hle : (¬ (A : Int) ≤ B) ∨ ((A : Int) ≤ B ∧ ¬ ((uintL B).length : Int) < (uintL A).length) := by
    rcases Nat.lt_or_ge B A with h | h
    · exact .inl (by omega)
    · have := uintL_mono h
      exact .inr ⟨by omega, by omega⟩
  have hpi := uintL_pos (foldN i)
  have hpi' : ¬ ((uintL (foldN i)).length : Int) < 1 := by omega
  have hpi2 : (1 : Int) ≤ ((uintL (foldN i)).length : Int) := by omega
  clear hB1 hB2 hpi
  have hs1 : (20000 : Int) < s.size := by omega
  rcases hle with h | ⟨h, h'⟩
  all_goals
    go_enter Try.func7, Try.ntmps7
    go_wp2_with (first
      | ((with_reducible refine hA.mono ?_); rintro e w' ⟨rfl, hb⟩)
      | ((with_reducible refine (hPa.out _).mono ?_); rintro e w' ⟨x, rfl, hx, g⟩; have hb := below_next hb g; clear g; obtain ⟨ax, cx, rfl, hcx, hmx⟩ := hx.len)
      | ((with_reducible refine (hPb.out _).mono ?_); rintro e w' ⟨y, rfl, hy, g⟩; have hb := below_next hb g; have hx := hx.below g; clear g; obtain ⟨ay, cy, rfl, hcy, hmy⟩ := hy.len; have hBe := begins_any5 hx hy (uintL_byte A) (uintL_byte B) hp1.out)
      | ((with_reducible refine hBe.mono ?_); rintro e w' ⟨rfl, g⟩; have hb := below_next hb g; clear g)
      | ((with_reducible refine (hPi.out _).mono ?_); rintro e w' ⟨vi, rfl, hI, g⟩; have hb := below_next hb g; clear g; have hRi := read_int ii hI)
      | ((with_reducible refine (hPk.out _).mono ?_); rintro e w' ⟨vk, rfl, hK, g⟩; have hb := below_next hb g; have hI := hI.below g; clear g; have hBi := begins_any5 hI hK (uintL_byte (foldN i)) (uintL_byte (foldN k)) hp2.out)
      | ((with_reducible refine hBi.mono ?_); rintro e w' ⟨rfl, g⟩; have hb := below_next hb g; clear g)
      | ((with_reducible refine hRi.mono ?_); rintro e w' ⟨rfl, g⟩; have hb := below_next hb g; clear g)
  )
    go_ret
    exact ⟨by first | rfl | (congr 2; simp), hb⟩
set_option maxRecDepth 100000 in
set_option maxHeartbeats 4000000 in
theorem free_long2 (A B : Nat) (i k : Int) (s t : ByteArray) (w : World) (hAn : A < 18446744073709551616) (hBn : B < 18446744073709551616) (ii : I64 i) (ik : I64 k) (hs : s.size ≤ 20000) (ht : 20000 < t.size) :
    Calls Try.prog 7 #[.int .u64 A, .int .u64 B, .int .i64 i, .int .i64 k, .string s, .string t] w fun e w' => e = .returned (.bool true) ∧ Below w.heap.size w w' := by
  have hA := awake_any5 w
  have hPa := Lib.hid (PutUint_any A hAn)
  have hPb := Lib.hid (PutUint_any B hBn)
  have hPi := Lib.hid (fun w => PutInt_any ii w)
  have hPk := Lib.hid (fun w => PutInt_any ik w)
  obtain ⟨B1, hB1⟩ : ∃ b : Bool, b = true ↔ A = B := ⟨decide (A = B), decide_eq_true_iff⟩
  obtain ⟨B2, hB2⟩ : ∃ b : Bool, b = true ↔ i = k := ⟨decide (i = k), decide_eq_true_iff⟩
  have hp1 := Lib.hid (hB1.trans (uint_prefix hAn hBn))
  have hp2 : Hid (B2 = true ↔ ∃ m, uintL (foldN i) = uintL (foldN k) ++ m) := hB2.trans (⟨fun h => by rw [h], fun h => foldN_inj h⟩ : i = k ↔ foldN i = foldN k) |>.trans (uint_prefix (foldN_lt ii.1 ii.2) (foldN_lt ik.1 ik.2))
  have e1 : ((A : Int) == (B : Int)) = B1 := by rw [Bool.eq_iff_iff, hB1, beq_iff_eq]; omega
  have e2 : (i == k) = B2 := by rw [Bool.eq_iff_iff, hB2, beq_iff_eq]
  have hle : (¬ (A : Int) ≤ B) ∨ ((A : Int) ≤ B ∧ ¬ ((uintL B).length : Int) < (uintL A).length) := by
    rcases Nat.lt_or_ge B A with h | h
    · exact .inl (by omega)
    · have := uintL_mono h
      exact .inr ⟨by omega, by omega⟩
  have hpi := uintL_pos (foldN i)
  have hpi' : ¬ ((uintL (foldN i)).length : Int) < 1 := by omega
  have hpi2 : (1 : Int) ≤ ((uintL (foldN i)).length : Int) := by omega
  clear hB1 hB2 hpi
  have hs1 : ¬ (20000 : Int) < s.size := by omega
  have ht1 : (20000 : Int) < t.size := by omega
  rcases hle with h | ⟨h, h'⟩
  all_goals
    go_enter Try.func7, Try.ntmps7
    go_wp2_with (first
      | ((with_reducible refine hA.mono ?_); rintro e w' ⟨rfl, hb⟩)
      | ((with_reducible refine (hPa.out _).mono ?_); rintro e w' ⟨x, rfl, hx, g⟩; have hb := below_next hb g; clear g; obtain ⟨ax, cx, rfl, hcx, hmx⟩ := hx.len)
      | ((with_reducible refine (hPb.out _).mono ?_); rintro e w' ⟨y, rfl, hy, g⟩; have hb := below_next hb g; have hx := hx.below g; clear g; obtain ⟨ay, cy, rfl, hcy, hmy⟩ := hy.len; have hBe := begins_any5 hx hy (uintL_byte A) (uintL_byte B) hp1.out)
      | ((with_reducible refine hBe.mono ?_); rintro e w' ⟨rfl, g⟩; have hb := below_next hb g; clear g)
      | ((with_reducible refine (hPi.out _).mono ?_); rintro e w' ⟨vi, rfl, hI, g⟩; have hb := below_next hb g; clear g; have hRi := read_int ii hI)
      | ((with_reducible refine (hPk.out _).mono ?_); rintro e w' ⟨vk, rfl, hK, g⟩; have hb := below_next hb g; have hI := hI.below g; clear g; have hBi := begins_any5 hI hK (uintL_byte (foldN i)) (uintL_byte (foldN k)) hp2.out)
      | ((with_reducible refine hBi.mono ?_); rintro e w' ⟨rfl, g⟩; have hb := below_next hb g; clear g)
      | ((with_reducible refine hRi.mono ?_); rintro e w' ⟨rfl, g⟩; have hb := below_next hb g; clear g)
  )
    go_ret
    exact ⟨by first | rfl | (congr 2; simp), hb⟩
set_option maxRecDepth 100000 in
set_option maxHeartbeats 4000000 in
theorem free_short (A B : Nat) (i k : Int) (s t : ByteArray) (w : World) (hAn : A < 18446744073709551616) (hBn : B < 18446744073709551616) (ii : I64 i) (ik : I64 k) (hs : s.size ≤ 20000) (ht : t.size ≤ 20000) :
    Calls Try.prog 7 #[.int .u64 A, .int .u64 B, .int .i64 i, .int .i64 k, .string s, .string t] w fun e w' => e = .returned (.bool true) ∧ Below w.heap.size w w' := by
  have hA := awake_any5 w
  have hPa := Lib.hid (PutUint_any A hAn)
  have hPb := Lib.hid (PutUint_any B hBn)
  have hPi := Lib.hid (fun w => PutInt_any ii w)
  have hPk := Lib.hid (fun w => PutInt_any ik w)
  obtain ⟨B1, hB1⟩ : ∃ b : Bool, b = true ↔ A = B := ⟨decide (A = B), decide_eq_true_iff⟩
  obtain ⟨B2, hB2⟩ : ∃ b : Bool, b = true ↔ i = k := ⟨decide (i = k), decide_eq_true_iff⟩
  have hp1 := Lib.hid (hB1.trans (uint_prefix hAn hBn))
  have hp2 : Hid (B2 = true ↔ ∃ m, uintL (foldN i) = uintL (foldN k) ++ m) := hB2.trans (⟨fun h => by rw [h], fun h => foldN_inj h⟩ : i = k ↔ foldN i = foldN k) |>.trans (uint_prefix (foldN_lt ii.1 ii.2) (foldN_lt ik.1 ik.2))
  have e1 : ((A : Int) == (B : Int)) = B1 := by rw [Bool.eq_iff_iff, hB1, beq_iff_eq]; omega
  have e2 : (i == k) = B2 := by rw [Bool.eq_iff_iff, hB2, beq_iff_eq]
  have hle : (¬ (A : Int) ≤ B) ∨ ((A : Int) ≤ B ∧ ¬ ((uintL B).length : Int) < (uintL A).length) := by
    rcases Nat.lt_or_ge B A with h | h
    · exact .inl (by omega)
    · have := uintL_mono h
      exact .inr ⟨by omega, by omega⟩
  have hpi := uintL_pos (foldN i)
  have hpi' : ¬ ((uintL (foldN i)).length : Int) < 1 := by omega
  have hpi2 : (1 : Int) ≤ ((uintL (foldN i)).length : Int) := by omega
  clear hB1 hB2 hpi
  have hs1 : ¬ (20000 : Int) < s.size := by omega
  have ht1 : ¬ (20000 : Int) < t.size := by omega
  have hPs := Lib.hid (PutText_any s (by omega))
  have hPt := Lib.hid (PutText_any t (by omega))
  obtain ⟨B3, hB3⟩ : ∃ b : Bool, b = true ↔ s = t := ⟨decide (s = t), decide_eq_true_iff⟩
  have hp3 := Lib.hid (hB3.trans (text_prefix (s := s) (t := t) (by omega) (by omega)))
  have e3 : (s.toList == t.toList) = B3 := str_beq hB3
  have e4 : (s.toList == s.toList) = true := str_beq (by simp)
  have hpt : (s.size : Int) < (((uintL s.size).length + s.size : Nat) : Int) := by have := uintL_pos s.size; omega
  clear hB3
  rcases hle with h | ⟨h, h'⟩
  all_goals
    go_enter Try.func7, Try.ntmps7
    go_wp2_with (first
      | ((with_reducible refine hA.mono ?_); rintro e w' ⟨rfl, hb⟩)
      | ((with_reducible refine (hPa.out _).mono ?_); rintro e w' ⟨x, rfl, hx, g⟩; have hb := below_next hb g; clear g; obtain ⟨ax, cx, rfl, hcx, hmx⟩ := hx.len)
      | ((with_reducible refine (hPb.out _).mono ?_); rintro e w' ⟨y, rfl, hy, g⟩; have hb := below_next hb g; have hx := hx.below g; clear g; obtain ⟨ay, cy, rfl, hcy, hmy⟩ := hy.len; have hBe := begins_any5 hx hy (uintL_byte A) (uintL_byte B) hp1.out)
      | ((with_reducible refine hBe.mono ?_); rintro e w' ⟨rfl, g⟩; have hb := below_next hb g; clear g)
      | ((with_reducible refine (hPi.out _).mono ?_); rintro e w' ⟨vi, rfl, hI, g⟩; have hb := below_next hb g; clear g; have hRi := read_int ii hI)
      | ((with_reducible refine (hPk.out _).mono ?_); rintro e w' ⟨vk, rfl, hK, g⟩; have hb := below_next hb g; have hI := hI.below g; clear g; have hBi := begins_any5 hI hK (uintL_byte (foldN i)) (uintL_byte (foldN k)) hp2.out)
      | ((with_reducible refine hBi.mono ?_); rintro e w' ⟨rfl, g⟩; have hb := below_next hb g; clear g)
      | ((with_reducible refine hRi.mono ?_); rintro e w' ⟨rfl, g⟩; have hb := below_next hb g; clear g)
      | ((with_reducible refine (hPs.out _).mono ?_); rintro e w' ⟨vs, rfl, hS, g⟩; have hb := below_next hb g; clear g; have hRs := read_text s (by omega) hS)
      | ((with_reducible refine (hPt.out _).mono ?_); rintro e w' ⟨vt, rfl, hT, g⟩; have hb := below_next hb g; have hS := hS.below g; clear g; have hBs := begins_any5 hS hT (text_byte s) (text_byte t) hp3.out)
      | ((with_reducible refine hBs.mono ?_); rintro e w' ⟨rfl, g⟩; have hb := below_next hb g; clear g)
      | ((with_reducible refine hRs.mono ?_); rintro e w' ⟨rfl, g⟩; have hb := below_next hb g; clear g)
  )
    go_ret
    exact ⟨by first | rfl | (congr 2; simp), hb⟩

theorem codeFree_walk (a0 a1 : Int) (a2 a3 : Int) (s t : ByteArray) (w : World) (w0 : (Lit.int .u64 a0).wf = true) (w1 : (Lit.int .u64 a1).wf = true) (w2 : I64 a2) (w3 : I64 a3) (_z4 : s.size ≤ 140737488351232) (_z5 : t.size ≤ 140737488351232) :
    Calls Try.prog 7 #[.int .u64 a0, .int .u64 a1, .int .i64 a2, .int .i64 a3, .string s, .string t] w fun e w' => e = .returned (.bool true) ∧ Below w.heap.size w w' := by
  simp [Lit.wf, IntKind.min, IntKind.max, IntKind.signed, IntKind.bits] at w0 w1
  obtain ⟨A, rfl⟩ := Int.eq_ofNat_of_zero_le w0.1
  obtain ⟨B, rfl⟩ := Int.eq_ofNat_of_zero_le w1.1
  rcases Nat.lt_or_ge 20000 s.size with h | h
  · exact free_long1 A B a2 a3 s t w (by omega) (by omega) w2 w3 h
  · rcases Nat.lt_or_ge 20000 t.size with h' | h'
    · exact free_long2 A B a2 a3 s t w (by omega) (by omega) w2 w3 h h'
    · exact free_short A B a2 a3 s t w (by omega) (by omega) w2 w3 h h'
end Go.Proofs.Ytnhghofkdiojaaa
