/- The document's words and Keyword (layer 7), cut of TWords. No condition. -/
import Derived.Test.YtnghfjlmmmjekaaKw
import Derived.WalkKit
import Derived.WalkSpells
import Derived.WalkLawsBesides
import Derived.Handy
import Derived.Lib.Hide
import Derived.LoopTactic
import Derived.Lib.IndexBytes
namespace Go.Proofs.Ytnghfjlmmmjekaa
open Go.RowKit
theorem kw_at : ∀ i, i < 28 → kwB (kwAt i).toList = true ∧ kwB (kwAt i ++ ⟨#[95]⟩).toList = false ∧ (kwAt i).size ≤ 100 := by decide +kernel
/-- Texts in memory, one behind the other. -/
def TxtsK (w : World) (a : Option Addr) (f : Nat → ByteArray) (n : Nat) : Prop :=
  0 < n → ∃ b off, a = some ⟨b, off, none⟩ ∧ b < w.heap.size ∧ ∀ j, j < n → w.cell? ⟨b, off + j, none⟩ = some (.string (f j))
theorem TxtsK.below {w W : World} {a : Option Addr} {f : Nat → ByteArray} {n : Nat} (h : TxtsK w a f n) (hb : Below w.heap.size w W) : TxtsK W a f n := by
  intro h0
  obtain ⟨b, off, rfl, hl, hc⟩ := h h0
  exact ⟨b, off, rfl, Nat.lt_of_lt_of_le hl hb.size, fun j hj => (hb.cell (p := ⟨b, off + j, none⟩) hl).trans (hc j hj)⟩

theorem any_rangeK (g : Nat → Bool) : ∀ n, (∀ j, j < n → g j = false) → (List.range n).any g = false := by
  intro n h
  rw [List.any_eq_false]
  intro j hj
  simp [h j (List.mem_range.1 hj)]
theorem any_hitK {g : Nat → Bool} {n j : Nat} (hj : j < n) (h : g j = true) : (List.range n).any g = true :=
  List.any_eq_true.2 ⟨j, List.mem_range.2 hj, h⟩

set_option maxRecDepth 20000 in
set_option maxHeartbeats 1000000 in
theorem among_anyK {w : World} {a : Option Addr} {f : Nat → ByteArray} {n cap : Nat} (h : TxtsK w a f n) (hn : n ≤ 1000) (s : ByteArray) :
    Calls Try.prog 132 #[.slice a n cap, .string s] w fun e w' => e = .returned (.bool ((List.range n).any fun j => (f j).toList == s.toList)) ∧ w = w' := by
  obtain ⟨V, hV⟩ := exHid ((List.range n).any fun j => (f j).toList == s.toList)
  rw [hV]
  replace h := Lib.hid h
  go_enter Try.func132, Try.ntmps132
  go_wp2
  go_loop [5] (fun t5 => ∃ i : Nat, i ≤ n ∧ t5 = .int .i64 i ∧ Hid (∀ j, j < i → ((f j).toList == s.toList) = false)) (fun t5 => n - (intOf t5).toNat)
  case atStart => exact ⟨0, by omega, rfl, fun j hj => by omega⟩
  case round =>
    obtain ⟨i, hi, rfl, hall⟩ := hrel
    rcases Nat.lt_or_ge i n with hlt | hge
    · obtain ⟨b, off, rfl, _, hc⟩ := h.out (by omega)
      have x := hc i hlt
      have hlti : (i : Int) < (n : Int) := by omega
      cases hq : ((f i).toList == s.toList) with
      | false =>
        have hnx : Hid (∀ j, j < i + 1 → ((f j).toList == s.toList) = false) := by
          intro j hj
          rcases Nat.lt_or_ge j i with h1 | h1
          · exact hall j h1
          · obtain rfl : j = i := by omega
            exact hq
        generalize f i = S at *
        clear hc
        go_wp2
        go_round
        case rel => exact ⟨i + 1, by omega, by go_num, hnx⟩
        case measure => simp [intOf]; omega
      | true =>
        have hv : V = true := by rw [← hV.out]; exact any_hitK hlt hq
        replace hv := Lib.hid hv
        generalize f i = S at *
        clear hc
        go_wp2
        go_ret
        exact ⟨ret_bool (by rw [hv.out]), rfl⟩
    · obtain rfl : i = n := by omega
      have hlti : ¬ ((i : Int) < (i : Int)) := by omega
      have hv : V = false := by rw [← hV.out]; exact any_rangeK _ _ hall
      replace hv := Lib.hid hv
      go_wp2
      go_ret
      exact ⟨ret_bool (by rw [hv.out]), rfl⟩

theorem txts_words (w : World) (cs : Array Value) (t : TypeId) (h : cs = ((List.range 28).map fun j => Value.string (kwAt j)).toArray) : TxtsK (w.alloc (.cells cs t)) (some ⟨w.heap.size, 0, none⟩) kwAt 28 := by
  subst h
  refine fun _ => ⟨_, 0, rfl, by simp, fun j hj => ?_⟩
  rw [Nat.zero_add]
  simp only [World.cell?, heap_alloc_new]
  simp [List.getElem?_range hj]
set_option maxRecDepth 20000 in
theorem words_any (w : World) :
    Calls Try.prog 133 #[] w fun e w' => ∃ b, e = .returned (.slice (some ⟨b, 0, none⟩) 28 28) ∧ TxtsK w' (some ⟨b, 0, none⟩) kwAt 28 ∧ Below w.heap.size w w' := by
  go_enter Try.func133, Try.ntmps133
  go_wp2
  go_ret
  exact ⟨_, rfl, txts_words w _ _ (by rfl), (Below.refl _ w).alloc (Nat.le_refl _) _⟩

theorem kw_range (l : ByteArray) : ((List.range 28).any fun j => (kwAt j).toList == l.toList) = kwB l.toList := by
  have h : kwL = (List.range 28).map fun j => (kwAt j).toList := by decide +kernel
  unfold kwB
  rw [h, List.any_map]
  congr 1
  funext j
  simp only [Function.comp]
  exact Bool.eq_iff_iff.2 ⟨fun h => beq_iff_eq.2 (beq_iff_eq.1 h).symm, fun h => beq_iff_eq.2 (beq_iff_eq.1 h).symm⟩

theorem refKeyword_any (s : ByteArray) (w : World) :
    Calls Try.prog 97 #[.string s] w fun e w' => e = .returned (.bool (kwB s.toList)) ∧ Below w.heap.size w w' := by
  go_enter Try.func97, Try.ntmps97
  go_wp2_with fail
  refine (words_any w).mono ?_
  rintro e w1 ⟨b, rfl, hT, hb⟩
  go_wp2_with fail
  refine (among_anyK hT (by omega) s).mono ?_
  rintro e w2 ⟨rfl, rfl⟩
  rw [kw_range]
  go_wp2
  go_ret
  exact ⟨rfl, hb⟩

theorem kw_of {S : ByteArray} {b : Bool} (h : kwB S.toList = b) (w : World) : Calls Try.prog 99 #[.string S] w fun e w' => e = .returned (.bool b) ∧ w' = w :=
  (keyword_any S w).mono fun e w' ⟨h1, h2⟩ => ⟨by rw [h1, h], h2.symm⟩

end Go.Proofs.Ytnghfjlmmmjekaa
