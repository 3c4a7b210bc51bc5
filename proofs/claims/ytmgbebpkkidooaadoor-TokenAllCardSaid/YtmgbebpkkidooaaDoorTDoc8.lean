/- The document's text (layer 7), walked. No condition. -/
import Derived.Test.YtmgbebpkkidooaaDoorTDoc7
import Derived.Test.YtmgbebpkkidooaaDoorTAll
namespace Go.Proofs.YtmgbebpkkidooaaDoor
open Go.RowKit Tok

/-- A block of seven cells that is not frozen, in this world and one block later. -/
def Told0 (w : World) (b : Nat) : Prop := w.heap[b]? = some (.cells #[.int .u8 0, .string ⟨#[]⟩, .int .i64 0, .int .i64 0, .int .i64 0, .int .i64 0, .int .i64 0] 47 (0, 0))
theorem Told0.cell {w : World} {b : Nat} (h : Told0 w b) (j : Nat) : w.cell? ⟨b, j, none⟩ = (#[.int .u8 0, .string ⟨#[]⟩, .int .i64 0, .int .i64 0, .int .i64 0, .int .i64 0, .int .i64 0] : Array Value)[j]? ∧ w.frozen? ⟨b, j, none⟩ = false := by
  unfold Told0 at h
  simp [World.cell?, World.frozen?, h]
theorem Told0.alloc {w : World} {b : Nat} (h : Told0 w b) (o : Obj) : Told0 (w.alloc o) b := by
  have hlt : b < w.heap.size := (Array.getElem?_eq_some_iff.1 h).1
  exact (((Below.refl w.heap.size w).alloc (Nat.le_refl _) o).block b hlt).trans h
theorem Told0.below {w W : World} {b B : Nat} (h : Told0 w b) (hb : Below B w W) (hB : b < B) : Told0 W b := (hb.block b hB).trans h
theorem told0_cells {w : World} {b : Nat} (h : Told0 w b) : w.cell? ⟨b, 0, none⟩ = some (.int .u8 0) ∧ w.cell? ⟨b, 1, none⟩ = some (.string ⟨#[]⟩) ∧ w.cell? ⟨b, 2, none⟩ = some (.int .i64 0) ∧ w.cell? ⟨b, 3, none⟩ = some (.int .i64 0) ∧ w.cell? ⟨b, 4, none⟩ = some (.int .i64 0) ∧ w.cell? ⟨b, 5, none⟩ = some (.int .i64 0) ∧ w.cell? ⟨b, 6, none⟩ = some (.int .i64 0) :=
  ⟨(h.cell 0).1, (h.cell 1).1, (h.cell 2).1, (h.cell 3).1, (h.cell 4).1, (h.cell 5).1, (h.cell 6).1⟩
theorem told0_frozen {w : World} {b : Nat} (h : Told0 w b) : w.frozen? ⟨b, 0, none⟩ = false ∧ w.frozen? ⟨b, 1, none⟩ = false ∧ w.frozen? ⟨b, 2, none⟩ = false ∧ w.frozen? ⟨b, 3, none⟩ = false ∧ w.frozen? ⟨b, 4, none⟩ = false ∧ w.frozen? ⟨b, 5, none⟩ = false ∧ w.frozen? ⟨b, 6, none⟩ = false :=
  ⟨(h.cell 0).2, (h.cell 1).2, (h.cell 2).2, (h.cell 3).2, (h.cell 4).2, (h.cell 5).2, (h.cell 6).2⟩
theorem told_set7 {w : World} {b : Nat} (h : Told0 w b) (v0 v1 v2 v3 v4 v5 v6 : Value) : (((((((w.setCell ⟨b, 0, none⟩ v0).setCell ⟨b, 1, none⟩ v1).setCell ⟨b, 2, none⟩ v2).setCell ⟨b, 3, none⟩ v3).setCell ⟨b, 4, none⟩ v4).setCell ⟨b, 5, none⟩ v5).setCell ⟨b, 6, none⟩ v6).heap[b]? = some (.cells #[v0, v1, v2, v3, v4, v5, v6] 47 (0, 0)) := by
  have h1 := heap_setCell_same _ _ 0 _ _ v0 h
  have h2 := heap_setCell_same _ _ 1 _ _ v1 h1
  have h3 := heap_setCell_same _ _ 2 _ _ v2 h2
  have h4 := heap_setCell_same _ _ 3 _ _ v3 h3
  have h5 := heap_setCell_same _ _ 4 _ _ v4 h4
  have h6 := heap_setCell_same _ _ 5 _ _ v5 h5
  have h7 := heap_setCell_same _ _ 6 _ _ v6 h6
  simpa using h7
theorem below_set7 {w W : World} {B b : Nat} (hb : Below B w W) (h : B ≤ b) (v0 v1 v2 v3 v4 v5 v6 : Value) : Below B w (((((((W.setCell ⟨b, 0, none⟩ v0).setCell ⟨b, 1, none⟩ v1).setCell ⟨b, 2, none⟩ v2).setCell ⟨b, 3, none⟩ v3).setCell ⟨b, 4, none⟩ v4).setCell ⟨b, 5, none⟩ v5).setCell ⟨b, 6, none⟩ v6) :=
  ((((((hb.setCell (p := ⟨b, 0, none⟩) h v0).setCell (p := ⟨b, 1, none⟩) h v1).setCell (p := ⟨b, 2, none⟩) h v2).setCell (p := ⟨b, 3, none⟩) h v3).setCell (p := ⟨b, 4, none⟩) h v4).setCell (p := ⟨b, 5, none⟩) h v5).setCell (p := ⟨b, 6, none⟩) h v6
/-- How the document's text parts the bytes. -/
theorem plain_w (c : UInt8) : (plainC c = false ∧ (c.toNat : Int) < 32) ∨ (plainC c = false ∧ ¬ (c.toNat : Int) < 32 ∧ (126 : Int) < (c.toNat : Int)) ∨ (plainC c = true ∧ ¬ (c.toNat : Int) < 32 ∧ ¬ (126 : Int) < (c.toNat : Int)) := by
  unfold plainC
  simp only [decide_eq_false_iff_not, decide_eq_true_eq]
  omega
theorem itemT_not {c : UInt8} {r : List UInt8} (h : plainC c = false) : itemT c r = .bad 0 9 := by unfold itemT; rw [if_pos h]
theorem itemT_one {c : UInt8} {r : List UInt8} (h : plainC c = true) (h2 : c.toNat ≠ 92) : itemT c r = .ok c 1 := by unfold itemT; rw [if_neg (by rw [h]; simp), if_pos h2]
theorem itemT_92 {c : UInt8} {r : List UInt8} (h2 : c.toNat = 92) : itemT c r = itemT 92 r := by
  have hc : c = 92 := UInt8.toNat.inj h2
  rw [hc]
theorem esc_call {s : ByteArray} {p : Nat} {I : Tok.Item} (hI : itemT 92 (s.data.toList.drop (p + 1)) = I) (hs : s.size ≤ 1000000) (hp : p + 1 ≤ s.size) (w : World) :
    Calls Tryd.prog 51 #[.string s, .int .i64 ((p : Int) + 1)] w fun e w' => e = .returned (escV p I) ∧ w' = w := by
  have := refEscape_any s p w hs hp
  rw [hI] at this
  rwa [show ((p + 1 : Nat) : Int) = (p : Int) + 1 by omega] at this

set_option maxRecDepth 20000 in
set_option maxHeartbeats 4000000 in
theorem refText_any (s : ByteArray) (i : Nat) (w : World) (hs : s.size ≤ 1000000) (hi : i < s.size) :
    Calls Tryd.prog 37 #[.string s, .int .i64 i] w fun e w' => e = .returned (resT i (textT (s.data.toList.drop i))) ∧ Below w.heap.size w w' := by
  have hT0 : textT (s.data.toList.drop i) = textR (s.data.toList.drop (i + 1)) [] 1 := by unfold textT; rw [List.drop_drop]
  rw [hT0]
  obtain ⟨V, hV⟩ := exHid (resT i (textR (s.data.toList.drop (i + 1)) [] 1))
  rw [hV.out]
  clear hT0
  have hb0 := Lib.hid ((Below.refl w.heap.size w).alloc (Nat.le_refl _) (.cells #[.int .u8 0, .string ⟨#[]⟩, .int .i64 0, .int .i64 0, .int .i64 0, .int .i64 0, .int .i64 0] 47))
  have hk0 : Hid (Told0 (w.alloc (.cells #[.int .u8 0, .string ⟨#[]⟩, .int .i64 0, .int .i64 0, .int .i64 0, .int .i64 0, .int .i64 0] 47)) w.heap.size) := heap_alloc_new w _
  go_enter Tryd.func37, Tryd.ntmps37
  go_wp2
  go_loopw [5, 6, 7, 8, 9, 10, 11, 12] (fun t5 t6 _ _ _ _ _ _ wr => ∃ (n : Nat) (acc : List UInt8), i + 1 ≤ n ∧ n ≤ s.size ∧ t6 = .int .i64 n ∧ acc.length ≤ 4095 ∧ Hid (BufU wr (w.heap.size + 1) t5 acc) ∧ Hid (Below w.heap.size w wr) ∧ Hid (Told0 wr w.heap.size) ∧ Hid (resT i (textR (s.data.toList.drop n) acc (n - i)) = V)) (fun _ t6 _ _ _ _ _ _ _ => s.size - (intOf t6).toNat)
  case atStart => exact ⟨i + 1, [], by omega, by omega, by go_num, by simp, World.ownsRow_nil _ _ _ _, hb0, hk0, by rw [show i + 1 - i = 1 by omega]; exact hV⟩
  case round =>
    obtain ⟨n, acc, hn1, hn, rfl, hacc, hB, hb, hk, hT⟩ := hrel
    obtain ⟨a5, c5, rfl, _, _⟩ := hB.out.shape
    have hsz := hb.out.size
    have hlt0 : w.heap.size < wr.heap.size := (Array.getElem?_eq_some_iff.1 hk.out).1
    rcases Nat.lt_or_ge n s.size with hlt | hge
    · have hlti : (n : Int) < (s.size : Int) := by omega
      have hT' := hT.out
      rw [at_drop hlt] at hT'
      by_cases c34 : s[n].toNat = 34
      · have q1 : (((s[n].toNat : Nat) : Int) != 34) = false := by rw [c34]; rfl
        rw [textR_end _ _ _ c34] at hT'
        have hstr := hB.out.string
        obtain ⟨x0, x1, x2, x3, x4, x5, x6⟩ := told0_cells hk.out
        obtain ⟨y0, y1, y2, y3, y4, y5, y6⟩ := told0_frozen hk.out
        replace hT' := Lib.hid hT'
        replace c34 := Lib.hid c34
        clear hT
        go_wp2
        refine bodyPost_ret (results_cell_row rfl _ _ w.heap.size _ _ (0, 0) _ rfl (told_set7 hk.out _ _ _ _ _ _ _) Tryd.underlying47 rfl (by kernel_rfl)) rfl ⟨?_, below_set7 hb.out (Nat.le_refl _) _ _ _ _ _ _ _⟩
        rw [← hT'.out]
        simp [resT, toldV]
        omega
      · have q1 : (((s[n].toNat : Nat) : Int) != 34) = true := by simp; omega
        rcases plain_w s[n] with ⟨hp, i32⟩ | ⟨hp, i32, i126⟩ | ⟨hp, i32, i126⟩
        case inl | inr.inl =>
          rw [textR_bad _ _ c34 (itemT_not hp)] at hT'
          replace hT' := Lib.hid hT'
          replace hp := Lib.hid hp
          clear hT
          go_wp2_with (go_at_call 50; refine (refWrong_any n 9 _).mono ?_; rintro e w' ⟨rfl, hw⟩; have hk2 : Told0 w' w.heap.size := (by rw [hw]; exact hk.out.alloc _); have hb2 : Below w.heap.size w w' := (by rw [hw]; exact hb.out.alloc hsz _); replace hw := Lib.hid hw; obtain ⟨x0, x1, x2, x3, x4, x5, x6⟩ := told0_cells hk2; obtain ⟨y0, y1, y2, y3, y4, y5, y6⟩ := told0_frozen hk2)
          refine bodyPost_ret (results_cell_row rfl _ _ w.heap.size _ _ (0, 0) _ rfl (told_set7 hk2 _ _ _ _ _ _ _) Tryd.underlying47 rfl (by kernel_rfl)) rfl ⟨?_, below_set7 hb2 (Nat.le_refl _) _ _ _ _ _ _ _⟩
          rw [← hT'.out]
          simp [resT, toldV]
          omega
        -- what may stand in a text
        by_cases c92 : s[n].toNat = 92
        · have q92 : (((s[n].toNat : Nat) : Int) == 92) = true := by rw [c92]; rfl
          have hIe : itemT s[n] (s.data.toList.drop (n + 1)) = itemT 92 (s.data.toList.drop (n + 1)) := itemT_92 c92
          rcases hi2 : itemT 92 (s.data.toList.drop (n + 1)) with ⟨b, k⟩ | ⟨k, e⟩
          · have k1 := Lib.hid (fun W => esc_call hi2 hs hlt W)
            unfold escV at k1
            dsimp only at k1
            rw [hi2] at hIe
            have hkp := itemT_pos hIe
            have hkl := itemT_le hIe
            rw [List.length_drop, size_list] at hkl
            by_cases hl : acc.length = 4095
            · rw [textR_long _ c34 hIe hl] at hT'
              have q3 : ((acc.length : Int) == 4095) = true := by rw [hl]; rfl
              replace hT' := Lib.hid hT'
              replace hl := Lib.hid hl
              clear hT hIe hi2
              go_wp2_with fail
              refine (k1.out _).mono ?_
              rintro e w2 ⟨rfl, rfl⟩
              go_wp2_with (go_at_call 50; refine (refWrong_any i 2 _).mono ?_; rintro e w' ⟨rfl, hw⟩; have hk2 : Told0 w' w.heap.size := (by rw [hw]; exact hk.out.alloc _); have hb2 : Below w.heap.size w w' := (by rw [hw]; exact hb.out.alloc hsz _); replace hw := Lib.hid hw; obtain ⟨x0, x1, x2, x3, x4, x5, x6⟩ := told0_cells hk2; obtain ⟨y0, y1, y2, y3, y4, y5, y6⟩ := told0_frozen hk2)
              refine bodyPost_ret (results_cell_row rfl _ _ w.heap.size _ _ (0, 0) _ rfl (told_set7 hk2 _ _ _ _ _ _ _) Tryd.underlying47 rfl (by kernel_rfl)) rfl ⟨?_, below_set7 hb2 (Nat.le_refl _) _ _ _ _ _ _ _⟩
              rw [← hT'.out]
              simp [resT, toldV]
              try omega
            · rw [textR_more _ c34 hIe hl, ← at_drop hlt, List.drop_drop] at hT'
              have q3 : ((acc.length : Int) == 4095) = false := beq_eq_false_iff_ne.2 (by omega)
              have hB2 := Lib.hid (BufU.below hB.out ((Below.refl wr.heap.size wr).alloc (Nat.le_refl _) (.cells #[.int .u8 (b.toNat : Int)] 5)))
              have hk2 := Lib.hid (hk.out.alloc (.cells #[.int .u8 (b.toNat : Int)] 5))
              have hb2 := Lib.hid (hb.out.alloc hsz (.cells #[.int .u8 (b.toNat : Int)] 5))
              replace hT' := Lib.hid hT'
              replace hp := Lib.hid hp
              clear hT hIe hi2
              go_wp2_with fail
              refine (k1.out _).mono ?_
              rintro e w2 ⟨rfl, rfl⟩
              go_wp2_with (at_builtin; (refine wpList_append_u8 rfl _ _ _ Tryd.underlying50 rfl rfl hB2.out rfl rfl (by omega) (by simp; omega) ?_; intro a' cap' w3 hB3 hO3))
              go_roundw
              case rel => exact ⟨n + k, acc ++ [b], by omega, by omega, by go_num, by simp; omega, hB3, hb2.out.trans (hO3.mono (by omega)), hk2.out.below hO3 (by omega), by rw [show n + k - i = n - i + k by omega]; exact hT'.out⟩
              case measure => simp [intOf]; omega
          · have k1 := Lib.hid (fun W => esc_call hi2 hs hlt W)
            unfold escV at k1
            dsimp only at k1
            rw [hi2] at hIe
            rw [textR_bad _ _ c34 hIe] at hT'
            obtain ⟨hc1, hc2⟩ := itemT_code hIe
            have q4 : ((e : Int) != 0) = true := by simp; omega
            replace hT' := Lib.hid hT'
            clear hT hIe hi2
            go_wp2_with fail
            refine (k1.out _).mono ?_
            rintro e' w2 ⟨rfl, rfl⟩
            go_wp2_with (go_at_call 50; refine (refWrong_any (n + k) e _).mono ?_; rintro e' w' ⟨rfl, hw⟩; have hk2 : Told0 w' w.heap.size := (by rw [hw]; exact hk.out.alloc _); have hb2 : Below w.heap.size w w' := (by rw [hw]; exact hb.out.alloc hsz _); replace hw := Lib.hid hw; obtain ⟨x0, x1, x2, x3, x4, x5, x6⟩ := told0_cells hk2; obtain ⟨y0, y1, y2, y3, y4, y5, y6⟩ := told0_frozen hk2)
            refine bodyPost_ret (results_cell_row rfl _ _ w.heap.size _ _ (0, 0) _ rfl (told_set7 hk2 _ _ _ _ _ _ _) Tryd.underlying47 rfl (by kernel_rfl)) rfl ⟨?_, below_set7 hb2 (Nat.le_refl _) _ _ _ _ _ _ _⟩
            rw [← hT'.out]
            simp [resT, toldV]
            try omega
        · have q92 : (((s[n].toNat : Nat) : Int) == 92) = false := beq_eq_false_iff_ne.2 (by omega)
          have hIe : itemT s[n] (s.data.toList.drop (n + 1)) = .ok s[n] 1 := itemT_one hp c92
          by_cases hl : acc.length = 4095
          · rw [textR_long _ c34 hIe hl] at hT'
            have q3 : ((acc.length : Int) == 4095) = true := by rw [hl]; rfl
            replace hT' := Lib.hid hT'
            replace hl := Lib.hid hl
            replace hp := Lib.hid hp
            clear hT hIe
            go_wp2_with (go_at_call 50; refine (refWrong_any i 2 _).mono ?_; rintro e w' ⟨rfl, hw⟩; have hk2 : Told0 w' w.heap.size := (by rw [hw]; exact hk.out.alloc _); have hb2 : Below w.heap.size w w' := (by rw [hw]; exact hb.out.alloc hsz _); replace hw := Lib.hid hw; obtain ⟨x0, x1, x2, x3, x4, x5, x6⟩ := told0_cells hk2; obtain ⟨y0, y1, y2, y3, y4, y5, y6⟩ := told0_frozen hk2)
            refine bodyPost_ret (results_cell_row rfl _ _ w.heap.size _ _ (0, 0) _ rfl (told_set7 hk2 _ _ _ _ _ _ _) Tryd.underlying47 rfl (by kernel_rfl)) rfl ⟨?_, below_set7 hb2 (Nat.le_refl _) _ _ _ _ _ _ _⟩
            rw [← hT'.out]
            simp [resT, toldV]
            try omega
          · rw [textR_more _ c34 hIe hl, ← at_drop hlt, List.drop_drop] at hT'
            have q3 : ((acc.length : Int) == 4095) = false := beq_eq_false_iff_ne.2 (by omega)
            have hB2 := Lib.hid (BufU.below hB.out ((Below.refl wr.heap.size wr).alloc (Nat.le_refl _) (.cells #[.int .u8 (s[n].toNat : Int)] 5)))
            have hk2 := Lib.hid (hk.out.alloc (.cells #[.int .u8 (s[n].toNat : Int)] 5))
            have hb2 := Lib.hid (hb.out.alloc hsz (.cells #[.int .u8 (s[n].toNat : Int)] 5))
            replace hT' := Lib.hid hT'
            replace hp := Lib.hid hp
            clear hT hIe
            go_wp2_with (at_builtin; (refine wpList_append_u8 rfl _ _ _ Tryd.underlying50 rfl rfl hB2.out rfl rfl (by omega) (by simp; omega) ?_; intro a' cap' w3 hB3 hO3))
            go_roundw
            case rel => exact ⟨n + 1, acc ++ [s[n]], by omega, by omega, by go_num, by simp; omega, hB3, hb2.out.trans (hO3.mono (by omega)), hk2.out.below hO3 (by omega), by rw [show n + 1 - i = n - i + 1 by omega]; exact hT'.out⟩
            case measure => simp [intOf]; omega
    · obtain rfl : n = s.size := by omega
      have hlti : ¬ ((s.size : Int) < (s.size : Int)) := by omega
      have hT' := hT.out
      rw [no_drop (Nat.le_refl _), textR_nil] at hT'
      replace hT' := Lib.hid hT'
      clear hT
      go_wp2_with (go_at_call 50; refine (refWrong_any s.size 4 _).mono ?_; rintro e w' ⟨rfl, hw⟩; have hk2 : Told0 w' w.heap.size := (by rw [hw]; exact hk.out.alloc _); have hb2 : Below w.heap.size w w' := (by rw [hw]; exact hb.out.alloc hsz _); replace hw := Lib.hid hw; obtain ⟨x0, x1, x2, x3, x4, x5, x6⟩ := told0_cells hk2; obtain ⟨y0, y1, y2, y3, y4, y5, y6⟩ := told0_frozen hk2)
      refine bodyPost_ret (results_cell_row rfl _ _ w.heap.size _ _ (0, 0) _ rfl (told_set7 hk2 _ _ _ _ _ _ _) Tryd.underlying47 rfl (by kernel_rfl)) rfl ⟨?_, below_set7 hb2 (Nat.le_refl _) _ _ _ _ _ _ _⟩
      rw [← hT'.out]
      simp [resT, toldV]
      omega
end Go.Proofs.YtmgbebpkkidooaaDoor
