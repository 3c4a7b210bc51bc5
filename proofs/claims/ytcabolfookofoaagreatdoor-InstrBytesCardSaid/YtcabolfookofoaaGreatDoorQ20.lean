/- A part of the proof: UNm, URQ. No condition. -/
import Derived.Test.YtcabolfookofoaaGreatDoorRows
import Derived.Maps.AppendAt
import Derived.Laws.AppendOwnNone
import Derived.Lib.Builder
import Derived.WalkKit
import Derived.WalkSpells
import Derived.WalkLawsBesides
import Derived.Handy
import Derived.Lib.Hide
import Derived.LoopTactic
import Derived.Laws.Concat
import Derived.Laws.BytesString
import Derived.Laws.IdiomStrings
import Derived.Test.YtcabolfookofoaaGreatDoorQ01
import Derived.Test.YtcabolfookofoaaGreatDoorQ02
import Derived.Test.YtcabolfookofoaaGreatDoorQ05
import Derived.Test.YtcabolfookofoaaGreatDoorQ19
set_option linter.unusedVariables false
set_option linter.unusedSimpArgs false
namespace Go.Proofs.YtcabolfookofoaaGreatDoor
open Go.RowKit
def strV (s : List UInt8) : Value := .string ⟨s.toArray⟩
theorem st_info : (Tryz.prog.info? 9).map (fun i => (i.zero, i.size, i.bytes)) = some (some (.string ⟨#[]⟩), 1, 16) := by kernel_rfl
theorem st_parts : ∃ i0, Tryz.prog.info? 9 = some i0 ∧ i0.zero = some (.string ⟨#[]⟩) ∧ i0.size = 1 ∧ i0.bytes = 16 := by
 have h := st_info;cases hi : Tryz.prog.info? 9 with
 | none => rw [hi] at h; simp at h
 | some i0 =>
   rw [hi] at h;simp at h
   exact ⟨i0, rfl, h.1, h.2.1, h.2.2⟩
def NamesAt (w : World) (base : Nat) (v : Value) (ns : List (List UInt8)) : Prop := w.ownsRow base 9 1 v ns.length (ns.map strV)
section
variable {w W : World} {base : Nat} {v : Value} {ns : List (List UInt8)}
theorem NamesAt.shape (h : NamesAt w base v ns) : ∃ a cap, v = .slice a ns.length cap ∧ ns.length ≤ cap ∧ cap ≤ 9223372036854775807 := ownsRow_shape h
theorem NamesAt.below (h : NamesAt w base v ns) (hb : Below w.heap.size w W) : NamesAt W base v ns := ownsRow_only (F := fun _ => False) h (Only.of_below hb) (fun _ _ h => h)
end
theorem wpList_append_name {w : World} {base : Nat} {v : Value} {ns : List (List UInt8)} {n : List UInt8} {ops : Array Oper} {rest : List Oper} {o : Oper} {a : Act} {Q : Exit → Act → World → Prop} (hgd : o.guard = none) (s x : Operand)
   (ho : o.op = .call { callee := .builtin .append, args := #[s, x], argTypes := #[87, 87] })
   (hs : a.eval s = v) (hown : NamesAt w base v ns) {G : Nat} (hx : a.eval x = .slice (some ⟨G, 0, none⟩) 1 1) (hc : w.cell? ⟨G, 0, none⟩ = some (strV n))
   (hk : ns.length ≤ 1000000000) (hbase : base ≤ w.heap.size)
   (h : ∀ a' cap w', NamesAt w' base (.slice a' (ns.length + 1) cap) (ns ++ [n]) → Only (fun k => v.ownBlock = some k) w w' → wpList Tryz.prog ops Q rest (a.put o.dst (.slice a' (ns.length + 1) cap)) w') : wpList Tryz.prog ops Q (o :: rest) a w := by
 obtain ⟨i0, hi, hz0, hz1, hz2⟩ := st_parts;refine wpList_append_own_at _ hgd s x 87 ho base 9 i0 (.string ⟨#[]⟩) 1 16 Tryz.underlying87 hi hz0 hz1 hz2 rfl (by decide) v ns.length (ns.map strV) hs hown ⟨G, 0, none⟩ 1 1 [strV n] hx rfl ?_ (by intro u hu; simp at hu; subst hu; rfl) (by unfold maxLen; omega) (by omega) hbase ?_
 · intro j y hj
   match j, hj with
   | 0, hj =>
     simp at hj
     subst hj
     simpa [Addr.add] using hc
 · intro v' w' h2 h3 _ _
   have hT : NamesAt w' base v' (ns ++ [n]) := by
     unfold NamesAt;rw [List.length_append, List.length_singleton, List.map_append];exact h2
   obtain ⟨a', cap, e, _⟩ := hT.shape;rw [List.length_append, List.length_singleton] at e;subst e;exact h a' cap w' hT (Only.of_grown h3 (fun k hk => hk))
theorem keepN {w W : World} {base q : Nat} {v : Value} {ns : List (List UInt8)} {cs : Array Value} {T : TypeId} {fr : Nat × Nat} (h : NamesAt w base v ns) (hq : w.heap[q]? = some (.cells cs T fr)) (hT : T ≠ 9) (ho : Only (fun k => v.ownBlock = some k) w W) : W.heap[q]? = some (.cells cs T fr) :=
 (ho.block q (Array.getElem?_eq_some_iff.1 hq).1 (fun e => Lib.ownBlock_ne h hq hT e)).trans hq
theorem ownN {w W : World} {base : Nat} {v : Value} {ns : List (List UInt8)} (h : NamesAt w base v ns) (hb : base ≤ w.heap.size) (ho : Only (fun k => v.ownBlock = some k) w W) : Below base w W := ho.below hb (fun k hk h' => by have := (World.ownsRow.lt h k h').1; omega)
theorem names_two (W : World) (base : Nat) (hb : base ≤ W.heap.size) (a b : List UInt8) : NamesAt (W.alloc (.cells #[.string ⟨a.toArray⟩, .string ⟨b.toArray⟩] 9)) base (.slice (some ⟨W.heap.size, 0, none⟩) 2 2) [a, b] :=
 World.ownsRow_lit (base := base) (e := 9) (size := 1) W #[.string ⟨a.toArray⟩, .string ⟨b.toArray⟩] 2 hb (by decide) rfl
theorem join_any {w : World} {base : Nat} {v : Value} {ns : List (List UInt8)} (h : NamesAt w base v ns) (h0 : 0 < ns.length) (hn : ns.length ≤ 1000) (hl : (Lib.join ns [32]).length ≤ 100000000) :
   Calls Tryz.prog 56 #[v, .string ⟨#[32]⟩] w fun e w' => e = .returned (.string ⟨(Lib.join ns [32]).toArray⟩) ∧ Below w.heap.size w w' := by
 have h' := h;unfold NamesAt at h';rcases h'.2 with ⟨_, hz⟩ | ⟨g, cap, cur, rfl, hg, hh, hnc, hcm, hsz, ht⟩
 · omega
 · have hm : (ns.map (fun n : List UInt8 => (⟨n.toArray⟩ : ByteArray))).map (·.data.toList) = ns := by
     rw [List.map_map];exact List.map_id' _
   have hJ := Tryz.strings_Join g 0 cap (ns.map (fun n : List UInt8 => (⟨n.toArray⟩ : ByteArray))) ⟨#[32]⟩ w (by
     intro j x hj;rw [List.getElem?_map, Option.map_eq_some_iff] at hj;obtain ⟨n, hn1, rfl⟩ := hj;have hjl : j < ns.length := (List.getElem?_eq_some_iff.1 hn1).1;rw [Nat.zero_add, World.ownsRow.cellAt (g := g) (cap := cap) h' j (by omega), List.getElem?_map, hn1];rfl) (Array.getElem?_eq_some_iff.1 hh).1 (by rw [List.length_map]; omega) (by rw [List.length_map]; exact hnc) (by rw [hm]; exact Nat.le_trans hl (by decide))
   rw [hm, List.length_map] at hJ;exact hJ
end Go.Proofs.YtcabolfookofoaaGreatDoor
namespace Go.Proofs.YtcabolfookofoaaGreatDoor
open Go.RowKit
def hexS : ByteArray := ⟨#[48, 49, 50, 51, 52, 53, 54, 55, 56, 57, 97, 98, 99, 100, 101, 102]⟩
theorem hexS_one : ∀ n, n < 16 → hexS.extract n (n + 1) = ⟨#[hexD n]⟩ := by decide +kernel
theorem str_one {s : ByteArray} {i : Nat} (h : i < s.size) : s.extract i (i + 1) = ⟨#[s[i]]⟩ := by
 apply ByteArray.ext
 apply Array.toList_inj.1
 rw [ByteArray.data_extract, Array.toList_extract];have h' : i < s.data.toList.length := by simpa using h
 simp only [List.extract, Nat.add_sub_cancel_left];rw [List.drop_eq_getElem_cons h'];rfl
theorem mk_snoc (X m : List UInt8) : (⟨X.toArray⟩ : ByteArray) ++ ⟨m.toArray⟩ = ⟨(X ++ m).toArray⟩ := by
 apply ByteArray.ext
 simp
theorem hex_slice (n : Nat) (hn : n < 16) (W : World) : (Instr.sliceAt 9 (.string ⟨#[48, 49, 50, 51, 52, 53, 54, 55, 56, 57, 97, 98, 99, 100, 101, 102]⟩) (some (.int .i64 (n : Int))) (some (.int .i64 ((n : Int) + 1))) none).run Tryz.prog W = .ok (.string ⟨#[hexD n]⟩) W := by
 rw [run_sliceAt_string W _ _ _ _ _ Tryz.underlying9, run_slice_string W _ _ _ _ _ _ Tryz.underlying9 (by omega) (by omega) (by show (n : Int) + 1 ≤ (16 : Int); omega), ← hexS_one n hn];rw [show ((n : Int) + 1).toNat = n + 1 by omega, show ((n : Int)).toNat = n by omega];rfl
theorem cat4 (X : List UInt8) (p1 p2 : UInt8) : ((⟨X.toArray⟩ : ByteArray) ++ ⟨#[92, 120]⟩ ++ ⟨#[p1]⟩ ++ ⟨#[p2]⟩) = ⟨(X ++ [92, 120, p1, p2]).toArray⟩ := by
 apply ByteArray.ext
 simp
set_option maxRecDepth 20000 in
set_option maxHeartbeats 4000000 in
theorem refQuoted14_any (s : ByteArray) (w : World) (hs : s.size ≤ 100000) :
   Calls Tryz.prog 58 #[.string s] w fun e w' => e = .returned (.string ⟨(quoteL s.data.toList).toArray⟩) ∧ Below w.heap.size w w' := by
 go_enter Tryz.func58, Tryz.ntmps58
 go_wp2
 go_loopw [3, 4, 5, 6, 7] (fun t3 t4 _ _ _ wr => ∃ (i : Nat) (X : List UInt8), i ≤ s.size ∧ t4 = .int .i64 i ∧ t3 = .string ⟨X.toArray⟩ ∧ Hid (X = 34 :: quotesL (s.data.toList.take i)) ∧ Hid (Below w.heap.size w wr)) (fun _ t4 _ _ _ _ => s.size - (intOf t4).toNat)
 case atStart => exact ⟨0, [34], by omega, rfl, rfl, Lib.hid (by simp [quotesL_nil]), Lib.hid (Below.refl _ _)⟩
 case round =>
   obtain ⟨i, X, hi, rfl, rfl, hXe, hb⟩ := hrel;have hlen := quotesL_len (s.data.toList.take i);rw [List.length_take, size_list, Nat.min_eq_left hi] at hlen;have hX : X.length ≤ 400001 := by
     rw [hXe.out, List.length_cons]; omega
   rcases Nat.lt_or_ge i s.size with hlt | hge
   · have hlti : (i : Int) < (s.size : Int) := by omega
     have hn := quotes_take hlt;rw [← hXe.out] at hn;have hqb : quoteB s[i] = if plainD s[i] = true then [s[i]] else [92, 120, hexD (s[i].toNat / 16), hexD (s[i].toNat % 16)] := rfl;have h1e := str_one hlt;have hcl := UInt8.toNat_lt s[i];clear hlen;have h16 : IntKind.u8.wrap ((s[i].toNat : Int) / 16) = ((s[i].toNat / 16 : Nat) : Int) := by rw [IntKind.wrap_u8']; omega
     have hx1 := hexS_one (s[i].toNat / 16) (by omega);have hx2 := hexS_one (s[i].toNat % 16) (by omega);have hcat := Lib.hid (mk_snoc X);have hlim : (s[i].toNat : Int) < 256 := by omega
     have hpl : plainD s[i] = (decide ((32 : Int) ≤ (s[i].toNat : Int)) && decide ((s[i].toNat : Int) ≤ 126) && ((s[i].toNat : Int) != 34) && ((s[i].toNat : Int) != 92)) := by
       unfold plainD;rw [Bool.eq_iff_iff];simp only [Bool.and_eq_true, decide_eq_true_eq, bne_iff_ne, ne_eq];omega
     have hd1 : (s[i].toNat : Int) / 16 = ((s[i].toNat / 16 : Nat) : Int) := by omega
     have hd2 : (s[i].toNat : Int) % 16 = ((s[i].toNat % 16 : Nat) : Int) := by omega
     have hq1 : s[i].toNat / 16 < 16 := by omega
     have hq2 : s[i].toNat % 16 < 16 := by omega
     have hxS := hex_slice;replace hd1 := Lib.hid hd1;replace hd2 := Lib.hid hd2;replace hxS := Lib.hid hxS;clear hx1 hx2 h16 hcl;cases hp : plainD s[i] with
     | true =>
       rw [hp] at hpl;have hpl2 := hpl.symm;simp only [Bool.and_eq_true, decide_eq_true_eq] at hpl2;obtain ⟨⟨⟨h1, h2⟩, h3⟩, h4⟩ := hpl2;rw [hp, if_pos rfl] at hqb;rw [hqb] at hn;replace hn := Lib.hid hn;clear hqb hd1 hd2 hxS hpl hp;go_wp2
       go_roundw
       case rel => exact ⟨i + 1, X ++ [s[i]], by omega, by go_num, by rw [← hcat.out], Lib.hid hn.out.symm, hb⟩
       case measure => simp [intOf]; omega
     | false =>
       rw [hp] at hpl;rw [hp, if_neg Bool.false_ne_true] at hqb;rw [hqb] at hn;replace hn := Lib.hid hn;clear hqb h1e hp;rcases h3 : ((s[i].toNat : Int) != 34) with _ | _
       all_goals rcases h4 : ((s[i].toNat : Int) != 92) with _ | _
       all_goals by_cases h1 : (32 : Int) ≤ (s[i].toNat : Int)
       all_goals by_cases h2 : (s[i].toNat : Int) ≤ 126
       all_goals first
         | (rw [h3, h4, decide_eq_true h1, decide_eq_true h2] at hpl; exact absurd hpl (by decide))
         | skip
       all_goals clear hpl
       all_goals
         go_wp2
         rw [hd1.out, hd2.out];have x1 := hxS.out _ hq1;have x2 := hxS.out _ hq2;clear hxS hd1 hd2 h3 h4 h1 h2;generalize hexD (s[i].toNat / 16) = p1 at x1 hn;generalize hexD (s[i].toNat % 16) = p2 at x2 hn;generalize s[i].toNat / 16 = a1 at *;generalize s[i].toNat % 16 = a2 at *;have hk1 : (a1 : Int) ≤ 15 := by omega
         have hk2 : (a2 : Int) ≤ 15 := by omega
         clear hq1 hq2;go_region
         go_wp2
         go_roundw
         case rel => exact ⟨i + 1, X ++ [92, 120, p1, p2], by omega, by go_num, by rw [cat4], Lib.hid hn.out.symm, Lib.hid hb.out.drew⟩
         case measure => simp [intOf]; omega
   · obtain rfl : i = s.size := by omega
     have hlti : ¬ ((s.size : Int) < (s.size : Int)) := by omega
     have hfull : s.data.toList.take s.size = s.data.toList := by rw [List.take_of_length_le]; simp
     have hn : quoteL s.data.toList = X ++ [34] := by
       rw [hXe.out, hfull];simp [quoteL]
     have hcat := Lib.hid (mk_snoc X [34]);replace hn := Lib.hid hn;clear hlen hfull;go_wp2
     go_ret
     exact ⟨by rw [hn.out, ← hcat.out]; rfl, hb.out⟩
end Go.Proofs.YtcabolfookofoaaGreatDoor
