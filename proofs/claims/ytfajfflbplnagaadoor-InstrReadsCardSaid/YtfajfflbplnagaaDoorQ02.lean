/- A part of the proof: Num, Nm. No condition. -/
import Derived.WalkKit
import Derived.Test.YtfajfflbplnagaaDoorRows
import Derived.WalkSpells
import Derived.WalkLawsBesides
import Derived.Handy
import Derived.Lib.Hide
import Derived.LoopTactic
import Derived.Lib.IndexBytes
set_option linter.unusedVariables false
set_option linter.unusedSimpArgs false
namespace Go.Proofs.YtfajfflbplnagaaDoor
open Go.RowKit
def held (x : Int) : Int := if x < -9223372036854775808 then -9223372036854775808 else if 9223372036854775807 < x then 9223372036854775807 else x
def I64 (x : Int) : Prop := -9223372036854775808 ≤ x ∧ x ≤ 9223372036854775807
theorem ret_int {k : IntKind} {a b : Int} (h : a = b) : Ending.returned (.int k a) = .returned (.int k b) := by rw [h]
theorem ret_bool {a b : Bool} (h : a = b) : Ending.returned (.bool a) = .returned (.bool b) := by rw [h]
theorem exHid {α : Sort _} (x : α) : ∃ s, Hid (x = s) := ⟨x, rfl⟩
theorem below_next {w W w' : World} (h : Below w.heap.size w W) (hb : Below W.heap.size W w') : Below w.heap.size w w' := h.trans (hb.mono h.size)
theorem below_cells {W W' : World} (hb : Below W.heap.size W W') :
   (∀ b o, b < W.heap.size → W'.cell? ⟨b, o, none⟩ = W.cell? ⟨b, o, none⟩) ∧ (∀ b o, b < W.heap.size → W'.frozen? ⟨b, o, none⟩ = W.frozen? ⟨b, o, none⟩) :=
 ⟨fun b o h => hb.cell (p := ⟨b, o, none⟩) h, fun b o h => hb.frozen (p := ⟨b, o, none⟩) h⟩
theorem cell_kept {w1 w2 : World} {c : Array Value} {t : TypeId} (hb : Below (w1.alloc (.cells c t)).heap.size (w1.alloc (.cells c t)) w2) (o2 : Obj) (j : Nat) :
   (w2.alloc o2).cell? ⟨w1.heap.size, j, none⟩ = c[j]? := by
 have h0 : w1.heap.size < (w1.alloc (.cells c t)).heap.size := by simp
 have h1 : (w2.alloc o2).heap[w1.heap.size]? = w2.heap[w1.heap.size]? := Below.heap_alloc w2 o2 _ (Nat.lt_of_lt_of_le h0 hb.size);have h2 : (w2.alloc o2).heap[w1.heap.size]? = (w1.alloc (.cells c t)).heap[w1.heap.size]? := h1.trans (hb.block _ h0);rw [World.cell?_of_block (w := w1.alloc (.cells c t)) (a := ⟨w1.heap.size, j, none⟩) h2, World.cell?_alloc_new]
end Go.Proofs.YtfajfflbplnagaaDoor
namespace Go.Proofs.YtfajfflbplnagaaDoor
open Go.RowKit
def letC (c : UInt8) : Bool := decide (97 ≤ c.toNat ∧ c.toNat ≤ 122)
def restC (c : UInt8) : Bool := letC c || decide (48 ≤ c.toNat ∧ c.toNat ≤ 57) || decide (c.toNat = 95)
def nameL (l : List UInt8) : Bool := match l with
 | [] => false
 | c :: r => decide (r.length < 24) && letC c && r.all restC
theorem bytes_len (s : ByteArray) : s.data.toList.length = s.size := Array.length_toList
theorem list_head (s : ByteArray) (h : 0 < s.size) : s.data.toList = s[0] :: s.data.toList.drop 1 := by
 have h' : 0 < s.data.toList.length := by rw [bytes_len]; exact h
 have := List.drop_eq_getElem_cons h';rw [List.drop_zero] at this;exact this
theorem list_none (s : ByteArray) (h : ¬ 0 < s.size) : s.data.toList = [] := by
 apply List.eq_nil_of_length_eq_zero
 rw [bytes_len];omega
theorem letC_rest {c : UInt8} (h : letC c = true) : restC c = true := by simp [restC, h]
def AllR (l : List UInt8) : Prop := l.all restC = true
theorem AllR.more {s : ByteArray} {k : Nat} (h : AllR (s.data.toList.take k)) (hk : k < s.size) (hc : restC s[k] = true) : AllR (s.data.toList.take (k + 1)) := by
 have hk' : k < s.data.toList.length := by rw [bytes_len]; exact hk
 unfold AllR at h ⊢;rw [List.take_succ_eq_append_getElem hk', List.all_append, h];have : s.data.toList[k] = s[k] := rfl;simp [this, hc]
theorem AllR.all {s : ByteArray} {k : Nat} (h : AllR (s.data.toList.take k)) (hk : s.size ≤ k) : AllR s.data.toList := by
 rw [List.take_of_length_le (by rw [bytes_len]; exact hk)] at h;exact h
theorem nameL_of {s : ByteArray} (h0 : 0 < s.size) (h1 : s.size ≤ 24) (h2 : letC s[0] = true) (h : AllR s.data.toList) : nameL s.data.toList = true := by
 have hl := bytes_len s;have hh := list_head s h0;unfold AllR at h;rw [hh] at h ⊢;rw [hh] at hl;simp only [List.length_cons] at hl;simp only [List.all_cons, Bool.and_eq_true] at h;unfold nameL;simp only
 rw [h.2, h2];simp
 simp at hl
 omega
theorem nameL_first {s : ByteArray} (h0 : 0 < s.size) (h2 : letC s[0] = false) : nameL s.data.toList = false := by
 rw [list_head s h0];unfold nameL;simp only
 rw [h2];simp
theorem nameL_none {s : ByteArray} (h0 : ¬ 0 < s.size) : nameL s.data.toList = false := by
 rw [list_none s h0]; rfl
theorem nameL_long {s : ByteArray} (h0 : 24 < s.size) : nameL s.data.toList = false := by
 have hl := bytes_len s;have hh := list_head s (by omega);rw [hh] at hl ⊢;simp only [List.length_cons] at hl;unfold nameL;simp only
 rw [show decide ((List.drop 1 s.data.toList).length < 24) = false by simp at hl ⊢; omega];rfl
theorem nameL_wrong {s : ByteArray} {k : Nat} (hk : k < s.size) (hc : restC s[k] = false) : nameL s.data.toList = false := by
 by_cases h0 : k = 0
 · subst h0
   refine nameL_first hk ?_;cases h : letC s[0] with
   | false => rfl
   | true => rw [letC_rest h] at hc; cases hc
 · have hh := list_head s (by omega)
   rw [hh];unfold nameL;simp only
   have hm : s[k] ∈ s.data.toList.drop 1 := by
     have hk' : k - 1 < (s.data.toList.drop 1).length := by rw [List.length_drop, bytes_len]; omega
     have : (s.data.toList.drop 1)[k - 1] = s[k] := by
       rw [List.getElem_drop];have e : s.data.toList[1 + (k - 1)]'(by rw [bytes_len]; omega) = s.data.toList[k]'(by rw [bytes_len]; omega) := by congr 1; omega
       rw [e]; rfl
     rw [← this];exact List.getElem_mem hk'
   have : (s.data.toList.drop 1).all restC = false := by
     rw [List.all_eq_false];exact ⟨_, hm, by rw [hc]; decide⟩
   rw [this];simp
set_option maxHeartbeats 400000 in
theorem letter_any (c : UInt8) (w : World) :
   Calls Tryd.prog 82 #[.int .u8 (c.toNat : Int)] w fun e w' => e = .returned (.bool (letC c)) ∧ w = w' := by
 by_cases h1 : 97 ≤ c.toNat
 · have H : Hid (letC c = decide ((c.toNat : Int) ≤ 122)) := by
     show letC c = _
     rw [Bool.eq_iff_iff]; simp only [letC, decide_eq_true_eq]; omega
   go_enter Tryd.func82, Tryd.ntmps82
   go_wp2
   go_ret
   exact ⟨ret_bool H.out.symm, rfl⟩
 · have H : Hid (letC c = false) := by show letC c = false; simp [letC, h1]
   go_enter Tryd.func82, Tryd.ntmps82
   go_wp2
   go_ret
   exact ⟨ret_bool (by rw [H.out]), rfl⟩
theorem letter_yes {c : UInt8} (h : letC c = true) (w : World) :
   Calls Tryd.prog 82 #[.int .u8 (c.toNat : Int)] w fun e w' => e = .returned (.bool true) ∧ w = w' := by
 have := letter_any c w;rw [h] at this;exact this
theorem letter_no {c : UInt8} (h : letC c = false) (w : World) :
   Calls Tryd.prog 82 #[.int .u8 (c.toNat : Int)] w fun e w' => e = .returned (.bool false) ∧ w = w' := by
 have := letter_any c w;rw [h] at this;exact this
set_option maxHeartbeats 1000000 in
theorem name_any (s : ByteArray) (w : World) (hs : s.size ≤ 9223372036854775807) :
   Calls Tryd.prog 79 #[.string s] w fun e w' => e = .returned (.bool (nameL s.data.toList)) ∧ w = w' := by
 by_cases h0 : 0 < s.size
 · by_cases h24 : s.size ≤ 24
   · cases hc0 : letC s[0] with
     | false =>
       have HN := Lib.hid (nameL_first h0 hc0);replace hc0 := Lib.hid hc0;have hz : ((s.size : Int) == 0) = false := beq_eq_false_iff_ne.2 (by omega);have h24' : decide (24 < (s.size : Int)) = false := decide_eq_false (by omega);go_enter Tryd.func79, Tryd.ntmps79
       go_wp2_with (first
         | ((with_reducible refine (letter_no hc0.out _).mono ?_); rintro e w' ⟨rfl, rfl⟩))
       go_ret
       exact ⟨ret_bool (by rw [HN.out]), rfl⟩
     | true =>
       replace hc0 := Lib.hid hc0;have hz : ((s.size : Int) == 0) = false := beq_eq_false_iff_ne.2 (by omega);have h24' : decide (24 < (s.size : Int)) = false := decide_eq_false (by omega);go_enter Tryd.func79, Tryd.ntmps79
       go_wp2_with (first
         | ((with_reducible refine (letter_yes hc0.out _).mono ?_); rintro e w' ⟨rfl, rfl⟩))
       clear hz h24';go_loop [21] (fun i => ∃ k : Nat, k ≤ s.size ∧ i = .int .i64 k ∧ AllR (s.data.toList.take k)) (fun i => s.size - (intOf i).toNat)
       case atStart => exact ⟨0, Nat.zero_le _, rfl, rfl⟩
       case round =>
         obtain ⟨k, hk, rfl, hall⟩ := hrel;replace hall := Lib.hid hall;by_cases hlt : k < s.size
         · cases hl : letC s[k] with
           | true =>
             have hnx := Lib.hid (hall.out.more hlt (letC_rest hl));replace hl := Lib.hid hl;go_wp2_with (first
               | ((with_reducible refine (letter_yes hl.out _).mono ?_); rintro e w' ⟨rfl, rfl⟩))
             go_round
             case rel => exact ⟨k + 1, by omega, by go_num, hnx.out⟩
             case measure => simp [intOf]; omega
           | false =>
             by_cases hd : restC s[k] = true
             · have hnx := Lib.hid (hall.out.more hlt hd)
               by_cases h95 : s[k].toNat = 95
               · have e1 : (((s[k].toNat : Int)) != 95) = false := by rw [h95]; rfl
                 have e2 : decide ((s[k].toNat : Int) ≤ 57) = false := decide_eq_false (by omega);replace hl := Lib.hid hl;replace hd := Lib.hid hd;replace h95 := Lib.hid h95;go_wp2_with (first
                   | ((with_reducible refine (letter_no hl.out _).mono ?_); rintro e w' ⟨rfl, rfl⟩))
                 all_goals
                   go_round
                   case rel => exact ⟨k + 1, by omega, by go_num, hnx.out⟩
                   case measure => simp [intOf]; omega
               · have e0 : 48 ≤ s[k].toNat ∧ s[k].toNat ≤ 57 := by
                   unfold restC at hd; rw [hl] at hd; simp [h95] at hd; exact hd
                 obtain ⟨e1, e2⟩ := e0;replace hl := Lib.hid hl;replace hd := Lib.hid hd;replace h95 := Lib.hid h95;go_wp2_with (first
                   | ((with_reducible refine (letter_no hl.out _).mono ?_); rintro e w' ⟨rfl, rfl⟩))
                 go_round
                 case rel => exact ⟨k + 1, by omega, by go_num, hnx.out⟩
                 case measure => simp [intOf]; omega
             · have hd : restC s[k] = false := by cases h : restC s[k] with
                 | false => rfl
                 | true => exact absurd h hd
               have HN := Lib.hid (nameL_wrong hlt hd);have h95 : ¬ s[k].toNat = 95 := by intro h; unfold restC at hd; simp [h] at hd
               have hdg : ¬ (48 ≤ s[k].toNat ∧ s[k].toNat ≤ 57) := by intro h; unfold restC at hd; simp [h] at hd
               have e1 : (((s[k].toNat : Int)) != 95) = true := bne_iff_ne.2 (by omega);replace hl := Lib.hid hl;replace hd := Lib.hid hd;by_cases h48 : 48 ≤ s[k].toNat
               · have e2 : decide ((s[k].toNat : Int) ≤ 57) = false := decide_eq_false (by omega)
                 clear hdg h95;go_wp2_with (first
                   | ((with_reducible refine (letter_no hl.out _).mono ?_); rintro e w' ⟨rfl, rfl⟩))
                 go_ret
                 exact ⟨ret_bool (by rw [HN.out]), rfl⟩
               · have e2 : decide (48 ≤ (s[k].toNat : Int)) = false := decide_eq_false (by omega)
                 clear hdg h95;go_wp2_with (first
                   | ((with_reducible refine (letter_no hl.out _).mono ?_); rintro e w' ⟨rfl, rfl⟩))
                 go_ret
                 exact ⟨ret_bool (by rw [HN.out]), rfl⟩
         · have HN := Lib.hid (nameL_of h0 h24 hc0.out (hall.out.all (by omega)))
           go_wp2
           go_ret
           exact ⟨ret_bool (by rw [HN.out]), rfl⟩
   · have HN := Lib.hid (nameL_long (Nat.lt_of_not_le h24))
     have hz : ((s.size : Int) == 0) = false := beq_eq_false_iff_ne.2 (by omega);go_enter Tryd.func79, Tryd.ntmps79
     go_wp2
     go_ret
     exact ⟨ret_bool (by rw [HN.out]), rfl⟩
 · have HN := Lib.hid (nameL_none h0)
   have hz : ((s.size : Int) == 0) = true := by
     rw [show s.size = 0 by omega]; rfl
   go_enter Tryd.func79, Tryd.ntmps79
   go_wp2
   go_ret
   exact ⟨ret_bool (by rw [HN.out]), rfl⟩
end Go.Proofs.YtfajfflbplnagaaDoor
