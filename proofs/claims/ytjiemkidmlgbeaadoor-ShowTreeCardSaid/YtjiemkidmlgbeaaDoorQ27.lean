/- A part of the proof: TDoc4, TDoc5, TDoc6, SdQ, RAlike. No condition. -/
import Derived.Test.YtjiemkidmlgbeaaDoorQ04
import Derived.Test.YtjiemkidmlgbeaaDoorQ24
import Derived.Test.YtjiemkidmlgbeaaDoorQ25
import Derived.Test.YtjiemkidmlgbeaaDoorQ26
set_option linter.unusedVariables false
set_option linter.unusedSimpArgs false
namespace Go.Proofs.YtjiemkidmlgbeaaDoor
open Go.RowKit Tok
theorem dec_more {u : Nat} (h : 9 < u) : Lib.decDigits u = Lib.decDigits (u / 10) ++ [UInt8.ofNat (48 + u % 10)] := by
 rw [Lib.decDigits, dif_neg (by omega)]
theorem dec_last {u : Nat} (h : ¬ 9 < u) : Lib.decDigits u = [UInt8.ofNat (48 + u)] := by
 rw [Lib.decDigits, dif_pos (by omega)]
theorem ofNat_dig {d : Nat} (h : d < 10) : ((UInt8.ofNat (48 + d)).toNat : Int) = 48 + d := by
 have : ∀ d, d < 10 → (UInt8.ofNat (48 + d)).toNat = 48 + d := by decide
 rw [this d h]; omega
theorem string_one (w : World) (c : UInt8) (x : Int) (h : x = (c.toNat : Int)) :
   (convert 47 9 (.slice (some ⟨w.heap.size, 0, none⟩) 1 1)).run Tryd.prog (w.alloc (.cells #[.int .u8 x] 5)) = .ok (.string ⟨#[c]⟩) (w.alloc (.cells #[.int .u8 x] 5)) := by
 subst h;refine run_convert_bytes_back _ _ _ 5 ⟨w.heap.size, 0, none⟩ 1 [c] Tryd.underlying47 Tryd.underlying5 Tryd.underlying9 (fun j hj => ?_);obtain rfl : j = 0 := by simpa using hj
 exact cells_new w [Value.int .u8 (c.toNat : Int)] _ 0 _ rfl
theorem cat_one (c : UInt8) (r : List UInt8) : (⟨#[c]⟩ : ByteArray) ++ ⟨r.toArray⟩ = ⟨(c :: r).toArray⟩ := by
 apply ByteArray.ext
 simp
set_option maxRecDepth 20000 in
set_option maxHeartbeats 2000000 in
theorem refDigits_any (x : Nat) (w : World) (hx : x ≤ 9223372036854775807) :
   Calls Tryd.prog 24 #[.int .i64 x] w fun e w' => e = .returned (.string ⟨(Lib.decDigits x).toArray⟩) ∧ Below w.heap.size w w' := by
 have hDl : (Lib.decDigits x).length ≤ 21 := by
   have := Lib.itoa_length_le (x : Int) (by omega) (by omega)
   rwa [Lib.itoa_nonneg] at this
 obtain ⟨D, hD⟩ := exHid (Lib.decDigits x);rw [hD.out] at hDl ⊢;go_enter Tryd.func24, Tryd.ntmps24
 go_wp2
 go_loopw [0, 3] (fun t0 t3 wr => ∃ (u : Nat) (r : List UInt8), u ≤ x ∧ t0 = .int .i64 u ∧ t3 = .string ⟨r.toArray⟩ ∧ Hid (Lib.decDigits u ++ r = D) ∧ Hid (Below w.heap.size w wr)) (fun t0 _ _ => (intOf t0).toNat)
 case atStart => exact ⟨x, [], by omega, rfl, rfl, Lib.hid (by rw [List.append_nil]; exact hD.out), Below.refl _ _⟩
 case round =>
   obtain ⟨u, r, hu, rfl, rfl, hr, hb⟩ := hrel;by_cases h9 : 9 < u
   · have h9i : (9 : Int) < (u : Int) := by omega
     have hr2 := hr.out;rw [dec_more h9, List.append_assoc] at hr2;have hd : u % 10 < 10 := by omega
     generalize hdd : u % 10 = d at *;have hc := ofNat_dig hd;have hc8 : IntKind.u8.wrap (48 + (u : Int) % 10) = (48 + d : Int) := by
       rw [IntKind.wrap_u8']; omega
     have hstr := (string_one wr (UInt8.ofNat (48 + d)) (48 + d : Int) hc.symm);replace hr2 := Lib.hid hr2;replace hdd := Lib.hid hdd;clear hc;generalize UInt8.ofNat (48 + d) = c at *;have hrl : r.length ≤ 21 := by
       have h1 := congrArg List.length hr2.out;simp only [List.length_append] at h1;omega
     go_wp2
     go_roundw
     case rel => exact ⟨u / 10, c :: r, by omega, by go_num, by rw [cat_one], hr2, hb.out.alloc hb.out.size _⟩
     case measure => simp [intOf]; omega
   · have h9i : ¬ (9 : Int) < (u : Int) := by omega
     have hr2 := hr.out;rw [dec_last h9] at hr2;have hc := ofNat_dig (d := u) (by omega);have hc8 : IntKind.u8.wrap (48 + (u : Int)) = (48 + u : Int) := by
       rw [IntKind.wrap_u8']; omega
     have hstr := (string_one wr (UInt8.ofNat (48 + u)) (48 + u : Int) hc.symm);replace hr2 := Lib.hid hr2;clear hc;generalize UInt8.ofNat (48 + u) = c at *;have hrl : r.length ≤ 21 := by
       have h1 := congrArg List.length hr2.out;simp only [List.length_append] at h1;omega
     go_wp2
     go_ret
     exact ⟨by rw [cat_one, ← hr2.out]; rfl, hb.out.alloc hb.out.size _⟩
end Go.Proofs.YtjiemkidmlgbeaaDoor
namespace Go.Proofs.YtjiemkidmlgbeaaDoor
open Go.RowKit Tok
def EscW (c : UInt8) (m : List UInt8) : Prop :=
 (((c.toNat : Int) == 10) = true ∧ m = [92, 110]) ∨
 (((c.toNat : Int) == 10) = false ∧ (c.toNat : Int) < 32 ∧ m = [92, 120, hexD (c.toNat / 16), hexD (c.toNat % 16)]) ∨
 (((c.toNat : Int) == 10) = false ∧ ¬ (c.toNat : Int) < 32 ∧ (126 : Int) < (c.toNat : Int) ∧ m = [92, 120, hexD (c.toNat / 16), hexD (c.toNat % 16)]) ∨
 (((c.toNat : Int) == 10) = false ∧ ¬ (c.toNat : Int) < 32 ∧ ¬ (126 : Int) < (c.toNat : Int) ∧ ((c.toNat : Int) == 34) = true ∧ m = [92, c]) ∨
 (((c.toNat : Int) == 10) = false ∧ ¬ (c.toNat : Int) < 32 ∧ ¬ (126 : Int) < (c.toNat : Int) ∧ ((c.toNat : Int) == 34) = false ∧ ((c.toNat : Int) == 92) = true ∧ m = [92, c]) ∨
 (((c.toNat : Int) == 10) = false ∧ ¬ (c.toNat : Int) < 32 ∧ ¬ (126 : Int) < (c.toNat : Int) ∧ ((c.toNat : Int) == 34) = false ∧ ((c.toNat : Int) == 92) = false ∧ m = [c])
theorem escW_of (c : UInt8) : EscW c (escL c) := by
 unfold EscW escL plainC;by_cases h10 : c.toNat = 10
 · left
   rw [if_neg (by omega), if_pos h10, h10]; exact ⟨rfl, rfl⟩
 · right
   have q : ((c.toNat : Int) == 10) = false := beq_eq_false_iff_ne.2 (by omega);by_cases h32 : c.toNat < 32
   · left
     rw [if_neg (by omega), if_neg h10, if_neg (by simp; omega)]; exact ⟨q, by omega, rfl⟩
   · right
     by_cases h126 : 126 < c.toNat
     · left
       rw [if_neg (by omega), if_neg h10, if_neg (by simp; omega)]; exact ⟨q, by omega, by omega, rfl⟩
     · right
       by_cases h34 : c.toNat = 34
       · left
         rw [if_pos (.inl h34)]; exact ⟨q, by omega, by omega, by rw [h34]; rfl, rfl⟩
       · right
         have q3 : ((c.toNat : Int) == 34) = false := beq_eq_false_iff_ne.2 (by omega);by_cases h92 : c.toNat = 92
         · left
           rw [if_pos (.inr h92)]; exact ⟨q, by omega, by omega, q3, by rw [h92]; rfl, rfl⟩
         · right
           rw [if_neg (by omega), if_neg h10, if_pos (by simp; omega)];exact ⟨q, by omega, by omega, q3, beq_eq_false_iff_ne.2 (by omega), rfl⟩
set_option maxRecDepth 20000 in
set_option maxHeartbeats 4000000 in
theorem refQuoted_any (s : ByteArray) (w : World) (hs : s.size ≤ 100000) :
   Calls Tryd.prog 25 #[.string s] w fun e w' => e = .returned (.string ⟨(textL s.data.toList).toArray⟩) ∧ Below w.heap.size w w' := by
 have h0 := Lib.hid (World.ownsRow_lit (base := w.heap.size) (e := 5) (size := 1) w #[.int .u8 34] 1 (Nat.le_refl _) (by decide) rfl);have hb0 := Lib.hid ((Below.refl w.heap.size w).alloc (Nat.le_refl _) (.cells #[.int .u8 34] 5));go_enter Tryd.func25, Tryd.ntmps25
 go_wp2
 go_loopw [4, 5, 6] (fun t4 t5 _ wr => ∃ i : Nat, i ≤ s.size ∧ t5 = .int .i64 i ∧ Hid (BufU wr w.heap.size t4 (34 :: (s.data.toList.take i).flatMap escL)) ∧ Hid (Below w.heap.size w wr)) (fun _ t5 _ _ => s.size - (intOf t5).toNat)
 case atStart => exact ⟨0, by omega, rfl, h0.out, hb0⟩
 case round =>
   obtain ⟨i, hi, rfl, hB, hb⟩ := hrel;have hsz := hb.out.size;have hlen := esc_len (s.data.toList.take i);rw [List.length_take, size_list, Nat.min_eq_left hi] at hlen;have hX : (34 :: (s.data.toList.take i).flatMap escL).length ≤ 1 + 4 * i := by
     rw [List.length_cons]; omega
   obtain ⟨a4, cap4, rfl, _, _⟩ := hB.out.shape;rcases Nat.lt_or_ge i s.size with hlt | hge
   · have hlti : (i : Int) < (s.size : Int) := by omega
     have hn : (34 :: (s.data.toList.take (i + 1)).flatMap escL) = (34 :: (s.data.toList.take i).flatMap escL) ++ escL s[i] := by
       rw [esc_take hlt]; simp
     have hE := escW_of s[i];generalize (34 :: (s.data.toList.take i).flatMap escL) = X at hB hX hn;generalize escL s[i] = m at hn hE;replace hn := Lib.hid hn;have hB2 := Lib.hid (fun k : List UInt8 => BufU.below hB.out ((Below.refl wr.heap.size wr).alloc (Nat.le_refl _) (.cells (Lib.byteCells k).toArray 5)));have hO2 := Lib.hid (fun k : List UInt8 => hb.out.alloc hsz (.cells (Lib.byteCells k).toArray 5));clear hlen;rcases hE with ⟨q1, rfl⟩ | ⟨q1, q2, rfl⟩ | ⟨q1, q2, q3, rfl⟩ | ⟨q1, q2, q3, q4, rfl⟩ | ⟨q1, q2, q3, q4, q5, rfl⟩ | ⟨q1, q2, q3, q4, q5, rfl⟩
     case inl =>
       go_wp2_with (at_builtin; (refine wpList_append_us rfl _ _ rfl rfl (hB2.out [92, 110]) [92, 110] rfl rfl (by simp; omega) (hO2.out [92, 110]).size ?_; intro a' cap' w3 hB3 hO3))
       go_roundw
       case rel => exact ⟨i + 1, by omega, by go_num, by rw [hn.out]; exact hB3, (hO2.out [92, 110]).trans hO3⟩
       case measure => simp [intOf]; omega
     case inr.inr.inr.inl =>
       go_wp2_with (at_builtin; (refine wpList_append_us rfl _ _ rfl rfl (hB2.out [92, s[i]]) [92, s[i]] rfl rfl (by simp; omega) (hO2.out [92, s[i]]).size ?_; intro a' cap' w3 hB3 hO3))
       go_roundw
       case rel => exact ⟨i + 1, by omega, by go_num, by rw [hn.out]; exact hB3, (hO2.out [92, s[i]]).trans hO3⟩
       case measure => simp [intOf]; omega
     case inr.inr.inr.inr.inl =>
       go_wp2_with (at_builtin; (refine wpList_append_us rfl _ _ rfl rfl (hB2.out [92, s[i]]) [92, s[i]] rfl rfl (by simp; omega) (hO2.out [92, s[i]]).size ?_; intro a' cap' w3 hB3 hO3))
       go_roundw
       case rel => exact ⟨i + 1, by omega, by go_num, by rw [hn.out]; exact hB3, (hO2.out [92, s[i]]).trans hO3⟩
       case measure => simp [intOf]; omega
     case inr.inr.inr.inr.inr =>
       go_wp2_with (at_builtin; (refine wpList_append_us rfl _ _ rfl rfl (hB2.out [s[i]]) [s[i]] rfl rfl (by simp; omega) (hO2.out [s[i]]).size ?_; intro a' cap' w3 hB3 hO3))
       go_roundw
       case rel => exact ⟨i + 1, by omega, by go_num, by rw [hn.out]; exact hB3, (hO2.out [s[i]]).trans hO3⟩
       case measure => simp [intOf]; omega
     all_goals
       obtain ⟨i0, hi0, hz0, hz1, hz2⟩ := u8_parts;have hcl := UInt8.toNat_lt s[i];have b1 : (0 : Int) ≤ (s[i].toNat : Int) / 16 := by omega
       have b2 : (s[i].toNat : Int) / 16 < 16 := by omega
       have b3 : (0 : Int) ≤ (s[i].toNat : Int) % 16 := by omega
       have b4 : (s[i].toNat : Int) % 16 < 16 := by omega
       have hown := Lib.hid (fun W (hW : Below wr.heap.size wr W) => BufU.below hB.out hW);have hX2 : X.length ≤ 1000000 := by omega
       have hw16 : IntKind.u8.wrap ((s[i].toNat : Int) / 16) = (s[i].toNat : Int) / 16 := by rw [IntKind.wrap_u8']; omega
       have hm16 : ((s[i].toNat : Int)).tmod 16 = (s[i].toNat : Int) % 16 := Int.tmod_eq_emod_of_nonneg (by omega);go_wp2_with fail
       go_region_law ((refine step_append_lies (wr.drew.alloc (.cells #[.int .u8 92, .int .u8 120, hxV ((s[i].toNat : Int) / 16) b1 b2, hxV ((s[i].toNat : Int) % 16) b3 b4] 5)) rfl (.tmp 28) (.tmp 37) 47 rfl w.heap.size 5 i0 (.int .u8 0) 1 1 Tryd.underlying47 hi0 hz0 hz1 hz2 rfl (by decide) (.slice a4 X.length cap4) X.length (Lib.byteCells X) rfl (hown.out _ ((Below.refl _ wr).drew.alloc (Nat.le_refl _) _)) ⟨wr.heap.size, 0, none⟩ 4 4 [.int .u8 92, .int .u8 120, hxV ((s[i].toNat : Int) / 16) b1 b2, hxV ((s[i].toNat : Int) % 16) b3 b4] rfl rfl (fun j u hj => cells_new wr.drew _ _ j u hj) (hx_one _ _ _ _ _ _) (by omega) (by unfold maxLen; omega) (by omega) (by simp; omega) _ rfl ?_; intro g cap w3 h2 h3 _ _))
       all_goals
         go_wp2_with fail
         rw [hx_eq (s[i].toNat / 16) _ b1 b2 (by omega), hx_eq (s[i].toNat % 16) _ b3 b4 (by omega)] at h2;refine ⟨⟨i + 1, by omega, by go_num, Lib.hid ?_, Lib.hid ((hb.out.drew.alloc (by simp; omega) _).grown h3 (by simp; omega) (fun k hk => (World.ownsRow.lt hB.out k hk).1))⟩, by simp [intOf]; omega⟩;rw [hn.out];unfold BufU;rw [List.length_append, show Lib.byteCells (X ++ [92, 120, hexD (s[i].toNat / 16), hexD (s[i].toNat % 16)]) = Lib.byteCells X ++ Lib.byteCells [92, 120, hexD (s[i].toNat / 16), hexD (s[i].toNat % 16)] by simp [Lib.byteCells]];exact h2
   · obtain rfl : i = s.size := by omega
     have hlti : ¬ ((s.size : Int) < (s.size : Int)) := by omega
     have hfull : s.data.toList.take s.size = s.data.toList := by rw [List.take_of_length_le]; simp
     have hn : textL s.data.toList = (34 :: (s.data.toList.take s.size).flatMap escL) ++ [34] := by
       rw [hfull];simp [textL]
     replace hn := Lib.hid hn;clear hlen hfull;generalize (34 :: (s.data.toList.take s.size).flatMap escL) = X at hB hX hn;have hB5 := Lib.hid (BufU.below hB.out ((Below.refl wr.heap.size wr).alloc (Nat.le_refl _) (.cells (Lib.byteCells [34]).toArray 5)));have hO5 := Lib.hid (hb.out.alloc hsz (.cells (Lib.byteCells [34]).toArray 5));go_wp2_with (at_builtin; (refine wpList_append_us rfl _ _ rfl rfl hB5.out [34] rfl rfl (by simp; omega) hO5.out.size ?_; intro a6 cap6 w6 hB6 hO6; have hstr := BufU.string hB6; simp only [List.length_cons, List.length_nil, Nat.zero_add] at hstr))
     go_ret
     exact ⟨by rw [hn.out]; rfl, hO5.out.trans hO6⟩
end Go.Proofs.YtjiemkidmlgbeaaDoor
namespace Go.Proofs.YtjiemkidmlgbeaaDoor
open Go.RowKit Tok
section
variable {w W : World} {base : Nat} {v : Value} {l : List UInt8}
theorem wpList_append_ustrX {ops : Array Oper} {rest : List Oper} {o : Oper} {a : Act} {Q : Exit → Act → World → Prop} (hgd : o.guard = none) (s x : Operand)
   (ho : o.op = .call { callee := .builtin .append, args := #[s, x], argTypes := #[47, 9] })
   (hs : a.eval s = v) (hown : BufU w base v l) (m : List UInt8) (hx : a.eval x = .string ⟨m.toArray⟩) {X : List UInt8} (hX : l ++ m = X)
   (hk : X.length ≤ 1000000000) (hbase : base ≤ w.heap.size)
   (h : ∀ a' cap w', BufU w' base (.slice a' X.length cap) X → Below base w w' → wpList Tryd.prog ops Q rest (a.put o.dst (.slice a' X.length cap)) w') : wpList Tryd.prog ops Q (o :: rest) a w := by
 subst hX;rw [List.length_append] at hk;refine wpList_append_ustr hgd s x ho hs hown m hx hk hbase fun a' cap w' h1 h2 => ?_
 have h3 := h a' cap w' (by rw [List.length_append]; exact h1) h2;rw [List.length_append] at h3;exact h3
theorem wpList_append_usX {ops : Array Oper} {rest : List Oper} {o : Oper} {a : Act} {Q : Exit → Act → World → Prop} (hgd : o.guard = none) (s x : Operand)
   (ho : o.op = .call { callee := .builtin .append, args := #[s, x], argTypes := #[47, 47] })
   (hs : a.eval s = v) (hown : BufU w base v l) (m : List UInt8) {w2 : World} (hw : w = w2.alloc (.cells (Lib.byteCells m).toArray 5)) (hx : a.eval x = .slice (some ⟨w2.heap.size, 0, none⟩) m.length m.length) {X : List UInt8} (hX : l ++ m = X)
   (hk : X.length ≤ 1000000000) (hbase : base ≤ w.heap.size)
   (h : ∀ a' cap w', BufU w' base (.slice a' X.length cap) X → Below base w w' → wpList Tryd.prog ops Q rest (a.put o.dst (.slice a' X.length cap)) w') : wpList Tryd.prog ops Q (o :: rest) a w := by
 subst hX;rw [List.length_append] at hk;refine wpList_append_us hgd s x ho hs hown m hw hx hk hbase fun a' cap w' h1 h2 => ?_
 have h3 := h a' cap w' (by rw [List.length_append]; exact h1) h2;rw [List.length_append] at h3;exact h3
end
theorem told_num2 {tx : List UInt8} {x at_ : Int} (h : told ⟨2, tx, x, at_⟩ = true) : 0 ≤ x := by
 unfold told at h;dsimp only at h;rw [if_neg (by omega), if_pos rfl, Bool.and_eq_true] at h;exact of_decide_eq_true h.1
theorem spell_len {t : Tg} (h : told t = true) (hx : I64 t.num) : (spellL t).length ≤ 100000 := by
 have h1 := told_len h;obtain ⟨kd, tx, x, at_⟩ := t;unfold spellL;dsimp only at *;split
 · have := Lib.itoa_length_le x hx.1 hx.2
   omega
 · split
   · have := esc_len tx
     show (34 :: (tx.flatMap escL ++ [34])).length ≤ _
     rw [List.length_cons, List.length_append, List.length_cons, List.length_nil];omega
   · omega
set_option maxRecDepth 20000 in
set_option maxHeartbeats 8000000 in
theorem refSpell_any {w : World} {v : Value} {ts : List Tg} (h : TgIn w v ts) (hf : ∀ t ∈ ts, Fit t) :
   Calls Tryd.prog 13 #[v] w fun e w' => e = .returned (spellV (spellR ts)) ∧ Below w.heap.size w w' := by
 obtain ⟨a0, cap0, rfl, hl1, hl2, h3⟩ := h;obtain ⟨R, hR⟩ := exHid (spellR ts);rw [hR.out];replace h3 := Lib.hid h3;replace hf := Lib.hid hf;go_enter Tryd.func13, Tryd.ntmps13
 go_wp2
 go_loopw [4] (fun t4 wr => ∃ i : Nat, i ≤ ts.length ∧ t4 = .int .i64 i ∧ Hid (Below w.heap.size w wr) ∧ Hid ((ts.take i).all told = true)) (fun t4 _ => ts.length - (intOf t4).toNat)
 case atStart => exact ⟨0, by omega, rfl, Below.refl _ _, rfl⟩
 case round =>
   obtain ⟨i, hi, rfl, hb, hall⟩ := hrel;rcases Nat.lt_or_ge i ts.length with hlt | hge
   · have hlti : (i : Int) < (ts.length : Int) := by omega
     obtain ⟨g, off, rfl, hg, hc⟩ := h3.out (by omega);have hfit := hf.out ts[i] (List.getElem_mem hlt);have hbad := Lib.hid (fun h => spellR_bad hlt h);have hmore := Lib.hid (fun h => all_more hlt hall.out h);rcases hti : ts[i] with ⟨kd, tx, x, at_⟩
     obtain ⟨c0, c1, c2, c3⟩ := tg_cells hg hc hb.out hlt hti;rw [hti] at hfit hbad hmore;clear hc;have k := Lib.hid (fun W => refMay_any ⟨kd, tx, x, at_⟩ W hfit.1);unfold tgV at k;dsimp only at k;replace hfit := Lib.hid hfit;replace hti := Lib.hid hti;rcases hB : told ⟨kd, tx, x, at_⟩ with _ | _
     · rw [hB] at k
       have hv := Lib.hid (hbad.out hB);clear hB hbad hmore;go_wp2_with fail
       refine (k.out _).mono ?_;rintro e w2 ⟨rfl, hb2⟩;go_wp2
       go_ret2
       refine ⟨?_, below_next hb.out hb2⟩;rw [← hR.out, hv.out]; rfl
     · rw [hB] at k
       have hv := Lib.hid (hmore.out hB);clear hB hbad hmore;go_wp2_with fail
       refine (k.out _).mono ?_;rintro e w2 ⟨rfl, hb2⟩;go_wp2
       go_roundw
       case rel => exact ⟨i + 1, by omega, by go_num, below_next hb.out hb2, hv⟩
       case measure => simp [intOf]; omega
   · obtain rfl : i = ts.length := by omega
     have hlti : ¬ ((ts.length : Int) < (ts.length : Int)) := by omega
     rw [List.take_length] at hall;go_wp2
     clear hlti;generalize hq0 : wr = wq0 at *;replace hq0 := Lib.hid hq0;go_loopw [5, 6, 7] (fun t5 t6 _ wq => ∃ i : Nat, i ≤ ts.length ∧ t6 = .int .i64 i ∧ (joinL (ts.take i)).length ≤ 16384 ∧ Hid (BufU wq w.heap.size t5 (joinL (ts.take i))) ∧ Hid (Below w.heap.size w wq)) (fun _ t6 _ _ => ts.length - (intOf t6).toNat)
     case atStart => exact ⟨0, by omega, rfl, by simp [joinL], World.ownsRow_nil _ _ _ _, hb⟩
     case round =>
       obtain ⟨i, hi, rfl, hlen, hB, hbq⟩ := hrel;have hsz := hbq.out.size;obtain ⟨a6, cap6, rfl, _, _⟩ := hB.out.shape;rcases Nat.lt_or_ge i ts.length with hlt | hge
       · have hlti : (i : Int) < (ts.length : Int) := by omega
         obtain ⟨g, off, rfl, hg, hc⟩ := h3.out (by omega);have hfit := (hf.out ts[i] (List.getElem_mem hlt)).2;have htold := List.all_eq_true.1 hall.out ts[i] (List.getElem_mem hlt);have htl := told_len htold;have hsl := spell_len htold hfit;have hnx := joinL_take hlt;have hle := joinL_le ts (i + 1);rcases hti : ts[i] with ⟨kd, tx, x, at_⟩
         obtain ⟨c0, c1, c2, c3⟩ := tg_cells hg hc hbq.out hlt hti;rw [hti] at hfit htl hnx hsl htold;dsimp only at htl hfit;have htc := Lib.hid (fun W (hW : Below w.heap.size w W) => tg_cells hg hc hW hlt hti);replace hti := Lib.hid hti;clear hc;obtain ⟨X, hXe⟩ := exHid (joinL (ts.take (i + 1)));rw [hXe.out] at hnx hle;have hXk : X.length ≤ 200000 := by
           rw [hnx]; split
           · omega
           · rw [List.length_append, List.length_cons]; omega
         rcases Nat.eq_zero_or_pos i with h0 | h0
         · rw [if_pos h0] at hnx
           have hi0 : ¬ (0 : Int) < (i : Int) := by omega
           have hL0 : joinL (ts.take i) = [] := by rw [h0]; rfl
           have hnx' : joinL (ts.take i) ++ spellL ⟨kd, tx, x, at_⟩ = X := by rw [hnx, hL0]; rfl
           clear h0 hL0;generalize joinL (ts.take i) = M at *;have hMl : M.length ≤ 20000 := by omega
           have hB3 := hB;have hb3 := hbq;by_cases c_2 : kd = 2
           · subst c_2
             have hx0 := told_num2 htold;obtain ⟨u, rfl⟩ := Int.eq_ofNat_of_zero_le hx0;have hsp : spellL ⟨2, tx, (u : Int), at_⟩ = Lib.decDigits u := Lib.itoa_nonneg u;rw [hsp] at hnx';have kD := Lib.hid (fun W => refDigits_any u W (by have := hfit.2; omega));generalize Lib.decDigits u = Z at *;replace hnx' := Lib.hid hnx';clear hnx hsp hsl htold hfit;rcases Nat.lt_or_ge 16384 X.length with hX | hX
             · have hXi : (16384 : Int) < (X.length : Int) := by omega
               have hv : R = ([], 2) := by
                 rw [← hR.out]; unfold spellR;rw [if_pos hall.out, if_pos (by omega)]
               replace hv := Lib.hid hv;go_wp2_with fail
               refine (kD.out _).mono ?_;rintro e w4 ⟨rfl, hb4⟩;have hb6 := Lib.hid (below_next hb3.out hb4);have hB4 := Lib.hid (BufU.below hB3.out hb4);obtain ⟨e0, e1, e2, e3⟩ := htc.out _ hb6.out;go_wp2_with (at_builtin; (refine wpList_append_ustrX rfl _ _ rfl rfl hB4.out Z rfl hnx'.out (by omega) hb6.out.size ?_; intro a5 cap5 w5 hB5 hO5; replace hB5 := Lib.hid hB5))
               go_ret2
               exact ⟨by rw [hv.out]; rfl, hb6.out.trans hO5⟩
             · have hXi : ¬ (16384 : Int) < (X.length : Int) := by omega
               go_wp2_with fail
               refine (kD.out _).mono ?_;rintro e w4 ⟨rfl, hb4⟩;have hb6 := Lib.hid (below_next hb3.out hb4);have hB4 := Lib.hid (BufU.below hB3.out hb4);obtain ⟨e0, e1, e2, e3⟩ := htc.out _ hb6.out;go_wp2_with (at_builtin; (refine wpList_append_ustrX rfl _ _ rfl rfl hB4.out Z rfl hnx'.out (by omega) hb6.out.size ?_; intro a5 cap5 w5 hB5 hO5; replace hB5 := Lib.hid hB5))
               go_roundw
               case rel => exact ⟨i + 1, by omega, by go_num, by rw [hXe.out]; exact hX, by rw [hXe.out]; exact hB5, hb6.out.trans hO5⟩
               case measure => simp [intOf]; omega
           · have n2 : ((kd : Int) == 2) = false := beq_eq_false_iff_ne.2 (by omega)
             by_cases c_3 : kd = 3
             · subst c_3
               have hsp : spellL ⟨3, tx, x, at_⟩ = textL tx := rfl;rw [hsp] at hnx';have kD := Lib.hid (fun W => refQuoted_any ⟨tx.toArray⟩ W (by simp only [ByteArray.size, List.size_toArray]; omega));rw [show (⟨tx.toArray⟩ : ByteArray).data.toList = tx by simp] at kD;generalize textL tx = Z at *;replace hnx' := Lib.hid hnx';clear hnx hsp hsl htold hfit;rcases Nat.lt_or_ge 16384 X.length with hX | hX
               · have hXi : (16384 : Int) < (X.length : Int) := by omega
                 have hv : R = ([], 2) := by
                   rw [← hR.out]; unfold spellR;rw [if_pos hall.out, if_pos (by omega)]
                 replace hv := Lib.hid hv;go_wp2_with fail
                 refine (kD.out _).mono ?_;rintro e w4 ⟨rfl, hb4⟩;have hb6 := Lib.hid (below_next hb3.out hb4);have hB4 := Lib.hid (BufU.below hB3.out hb4);go_wp2_with (at_builtin; (refine wpList_append_ustrX rfl _ _ rfl rfl hB4.out Z rfl hnx'.out (by omega) hb6.out.size ?_; intro a5 cap5 w5 hB5 hO5; replace hB5 := Lib.hid hB5))
                 go_ret2
                 exact ⟨by rw [hv.out]; rfl, hb6.out.trans hO5⟩
               · have hXi : ¬ (16384 : Int) < (X.length : Int) := by omega
                 go_wp2_with fail
                 refine (kD.out _).mono ?_;rintro e w4 ⟨rfl, hb4⟩;have hb6 := Lib.hid (below_next hb3.out hb4);have hB4 := Lib.hid (BufU.below hB3.out hb4);go_wp2_with (at_builtin; (refine wpList_append_ustrX rfl _ _ rfl rfl hB4.out Z rfl hnx'.out (by omega) hb6.out.size ?_; intro a5 cap5 w5 hB5 hO5; replace hB5 := Lib.hid hB5))
                 go_roundw
                 case rel => exact ⟨i + 1, by omega, by go_num, by rw [hXe.out]; exact hX, by rw [hXe.out]; exact hB5, hb6.out.trans hO5⟩
                 case measure => simp [intOf]; omega
             · have n3 : ((kd : Int) == 3) = false := beq_eq_false_iff_ne.2 (by omega)
               have hsp : spellL ⟨kd, tx, x, at_⟩ = tx := by
                 unfold spellL;rw [if_neg c_2, if_neg c_3]
               rw [hsp] at hnx';replace hnx' := Lib.hid hnx';clear hnx hsp hsl htold hfit;rcases Nat.lt_or_ge 16384 X.length with hX | hX
               · have hXi : (16384 : Int) < (X.length : Int) := by omega
                 have hv : R = ([], 2) := by
                   rw [← hR.out]; unfold spellR;rw [if_pos hall.out, if_pos (by omega)]
                 replace hv := Lib.hid hv;go_wp2_with (at_builtin; (refine wpList_append_ustrX rfl _ _ rfl rfl hB3.out tx rfl hnx'.out (by omega) hb3.out.size ?_; intro a5 cap5 w5 hB5 hO5; replace hB5 := Lib.hid hB5))
                 go_ret2
                 exact ⟨by rw [hv.out]; rfl, hb3.out.trans hO5⟩
               · have hXi : ¬ (16384 : Int) < (X.length : Int) := by omega
                 go_wp2_with (at_builtin; (refine wpList_append_ustrX rfl _ _ rfl rfl hB3.out tx rfl hnx'.out (by omega) hb3.out.size ?_; intro a5 cap5 w5 hB5 hO5; replace hB5 := Lib.hid hB5))
                 go_roundw
                 case rel => exact ⟨i + 1, by omega, by go_num, by rw [hXe.out]; exact hX, by rw [hXe.out]; exact hB5, hb3.out.trans hO5⟩
                 case measure => simp [intOf]; omega
         · rw [if_neg (by omega)] at hnx
           have hi0 : (0 : Int) < (i : Int) := by omega
           have hnx' : (joinL (ts.take i) ++ [32]) ++ spellL ⟨kd, tx, x, at_⟩ = X := by rw [hnx]; simp
           have hB2 := Lib.hid (BufU.below hB.out ((Below.refl wr.heap.size wr).alloc (Nat.le_refl _) (.cells (Lib.byteCells [32]).toArray 5)));have hb2 := Lib.hid (hbq.out.alloc hsz (.cells (Lib.byteCells [32]).toArray 5));obtain ⟨M, hM⟩ := exHid (joinL (ts.take i) ++ [32]);have hMl : M.length ≤ 20000 := by rw [← hM.out, List.length_append]; simp; omega
           rw [hM.out] at hnx';by_cases c_2 : kd = 2
           · subst c_2
             have hx0 := told_num2 htold;obtain ⟨u, rfl⟩ := Int.eq_ofNat_of_zero_le hx0;have hsp : spellL ⟨2, tx, (u : Int), at_⟩ = Lib.decDigits u := Lib.itoa_nonneg u;rw [hsp] at hnx';have kD := Lib.hid (fun W => refDigits_any u W (by have := hfit.2; omega));generalize Lib.decDigits u = Z at *;replace hnx' := Lib.hid hnx';clear hnx hsp hsl htold hfit;rcases Nat.lt_or_ge 16384 X.length with hX | hX
             · have hXi : (16384 : Int) < (X.length : Int) := by omega
               have hv : R = ([], 2) := by
                 rw [← hR.out]; unfold spellR;rw [if_pos hall.out, if_pos (by omega)]
               replace hv := Lib.hid hv;go_wp2_with (at_builtin; (refine wpList_append_usX rfl _ _ rfl rfl hB2.out [32] rfl rfl hM.out (by omega) hb2.out.size ?_; intro a1 cap1 w3 hB3 hO3; have hb3 := Lib.hid (hb2.out.trans hO3); replace hB3 := Lib.hid hB3; obtain ⟨d0, d1, d2, d3⟩ := htc.out _ hb3.out; clear hO3))
               refine (kD.out _).mono ?_;rintro e w4 ⟨rfl, hb4⟩;have hb6 := Lib.hid (below_next hb3.out hb4);have hB4 := Lib.hid (BufU.below hB3.out hb4);obtain ⟨e0, e1, e2, e3⟩ := htc.out _ hb6.out;go_wp2_with (at_builtin; (refine wpList_append_ustrX rfl _ _ rfl rfl hB4.out Z rfl hnx'.out (by omega) hb6.out.size ?_; intro a5 cap5 w5 hB5 hO5; replace hB5 := Lib.hid hB5))
               go_ret2
               exact ⟨by rw [hv.out]; rfl, hb6.out.trans hO5⟩
             · have hXi : ¬ (16384 : Int) < (X.length : Int) := by omega
               go_wp2_with (at_builtin; (refine wpList_append_usX rfl _ _ rfl rfl hB2.out [32] rfl rfl hM.out (by omega) hb2.out.size ?_; intro a1 cap1 w3 hB3 hO3; have hb3 := Lib.hid (hb2.out.trans hO3); replace hB3 := Lib.hid hB3; obtain ⟨d0, d1, d2, d3⟩ := htc.out _ hb3.out; clear hO3))
               refine (kD.out _).mono ?_;rintro e w4 ⟨rfl, hb4⟩;have hb6 := Lib.hid (below_next hb3.out hb4);have hB4 := Lib.hid (BufU.below hB3.out hb4);obtain ⟨e0, e1, e2, e3⟩ := htc.out _ hb6.out;go_wp2_with (at_builtin; (refine wpList_append_ustrX rfl _ _ rfl rfl hB4.out Z rfl hnx'.out (by omega) hb6.out.size ?_; intro a5 cap5 w5 hB5 hO5; replace hB5 := Lib.hid hB5))
               go_roundw
               case rel => exact ⟨i + 1, by omega, by go_num, by rw [hXe.out]; exact hX, by rw [hXe.out]; exact hB5, hb6.out.trans hO5⟩
               case measure => simp [intOf]; omega
           · have n2 : ((kd : Int) == 2) = false := beq_eq_false_iff_ne.2 (by omega)
             by_cases c_3 : kd = 3
             · subst c_3
               have hsp : spellL ⟨3, tx, x, at_⟩ = textL tx := rfl;rw [hsp] at hnx';have kD := Lib.hid (fun W => refQuoted_any ⟨tx.toArray⟩ W (by simp only [ByteArray.size, List.size_toArray]; omega));rw [show (⟨tx.toArray⟩ : ByteArray).data.toList = tx by simp] at kD;generalize textL tx = Z at *;replace hnx' := Lib.hid hnx';clear hnx hsp hsl htold hfit;rcases Nat.lt_or_ge 16384 X.length with hX | hX
               · have hXi : (16384 : Int) < (X.length : Int) := by omega
                 have hv : R = ([], 2) := by
                   rw [← hR.out]; unfold spellR;rw [if_pos hall.out, if_pos (by omega)]
                 replace hv := Lib.hid hv;go_wp2_with (at_builtin; (refine wpList_append_usX rfl _ _ rfl rfl hB2.out [32] rfl rfl hM.out (by omega) hb2.out.size ?_; intro a1 cap1 w3 hB3 hO3; have hb3 := Lib.hid (hb2.out.trans hO3); replace hB3 := Lib.hid hB3; obtain ⟨d0, d1, d2, d3⟩ := htc.out _ hb3.out; clear hO3))
                 refine (kD.out _).mono ?_;rintro e w4 ⟨rfl, hb4⟩;have hb6 := Lib.hid (below_next hb3.out hb4);have hB4 := Lib.hid (BufU.below hB3.out hb4);go_wp2_with (at_builtin; (refine wpList_append_ustrX rfl _ _ rfl rfl hB4.out Z rfl hnx'.out (by omega) hb6.out.size ?_; intro a5 cap5 w5 hB5 hO5; replace hB5 := Lib.hid hB5))
                 go_ret2
                 exact ⟨by rw [hv.out]; rfl, hb6.out.trans hO5⟩
               · have hXi : ¬ (16384 : Int) < (X.length : Int) := by omega
                 go_wp2_with (at_builtin; (refine wpList_append_usX rfl _ _ rfl rfl hB2.out [32] rfl rfl hM.out (by omega) hb2.out.size ?_; intro a1 cap1 w3 hB3 hO3; have hb3 := Lib.hid (hb2.out.trans hO3); replace hB3 := Lib.hid hB3; obtain ⟨d0, d1, d2, d3⟩ := htc.out _ hb3.out; clear hO3))
                 refine (kD.out _).mono ?_;rintro e w4 ⟨rfl, hb4⟩;have hb6 := Lib.hid (below_next hb3.out hb4);have hB4 := Lib.hid (BufU.below hB3.out hb4);go_wp2_with (at_builtin; (refine wpList_append_ustrX rfl _ _ rfl rfl hB4.out Z rfl hnx'.out (by omega) hb6.out.size ?_; intro a5 cap5 w5 hB5 hO5; replace hB5 := Lib.hid hB5))
                 go_roundw
                 case rel => exact ⟨i + 1, by omega, by go_num, by rw [hXe.out]; exact hX, by rw [hXe.out]; exact hB5, hb6.out.trans hO5⟩
                 case measure => simp [intOf]; omega
             · have n3 : ((kd : Int) == 3) = false := beq_eq_false_iff_ne.2 (by omega)
               have hsp : spellL ⟨kd, tx, x, at_⟩ = tx := by
                 unfold spellL;rw [if_neg c_2, if_neg c_3]
               rw [hsp] at hnx';replace hnx' := Lib.hid hnx';clear hnx hsp hsl htold hfit;rcases Nat.lt_or_ge 16384 X.length with hX | hX
               · have hXi : (16384 : Int) < (X.length : Int) := by omega
                 have hv : R = ([], 2) := by
                   rw [← hR.out]; unfold spellR;rw [if_pos hall.out, if_pos (by omega)]
                 replace hv := Lib.hid hv;go_wp2_with (at_builtin; first | (refine wpList_append_usX rfl _ _ rfl rfl hB2.out [32] rfl rfl hM.out (by omega) hb2.out.size ?_; intro a1 cap1 w3 hB3 hO3; have hb3 := Lib.hid (hb2.out.trans hO3); replace hB3 := Lib.hid hB3; obtain ⟨d0, d1, d2, d3⟩ := htc.out _ hb3.out; clear hO3) | (refine wpList_append_ustrX rfl _ _ rfl rfl hB3.out tx rfl hnx'.out (by omega) hb3.out.size ?_; intro a5 cap5 w5 hB5 hO5; replace hB5 := Lib.hid hB5))
                 go_ret2
                 exact ⟨by rw [hv.out]; rfl, hb3.out.trans hO5⟩
               · have hXi : ¬ (16384 : Int) < (X.length : Int) := by omega
                 go_wp2_with (at_builtin; first | (refine wpList_append_usX rfl _ _ rfl rfl hB2.out [32] rfl rfl hM.out (by omega) hb2.out.size ?_; intro a1 cap1 w3 hB3 hO3; have hb3 := Lib.hid (hb2.out.trans hO3); replace hB3 := Lib.hid hB3; obtain ⟨d0, d1, d2, d3⟩ := htc.out _ hb3.out; clear hO3) | (refine wpList_append_ustrX rfl _ _ rfl rfl hB3.out tx rfl hnx'.out (by omega) hb3.out.size ?_; intro a5 cap5 w5 hB5 hO5; replace hB5 := Lib.hid hB5))
                 go_roundw
                 case rel => exact ⟨i + 1, by omega, by go_num, by rw [hXe.out]; exact hX, by rw [hXe.out]; exact hB5, hb3.out.trans hO5⟩
                 case measure => simp [intOf]; omega
       · obtain rfl : i = ts.length := by omega
         have hlti : ¬ ((ts.length : Int) < (ts.length : Int)) := by omega
         rw [List.take_length] at hB hlen;have hv : R = (joinL ts, 0) := by
           rw [← hR.out]; unfold spellR;rw [if_pos hall.out, if_neg (by omega)]
         replace hv := Lib.hid hv;have hstr := BufU.string hB.out;go_wp2
         go_ret2
         exact ⟨by rw [hv.out]; rfl, hbq.out⟩
end Go.Proofs.YtjiemkidmlgbeaaDoor
namespace Go.Proofs.YtjiemkidmlgbeaaDoor
open Go.RowKit Go.Shelf Tok
set_option maxRecDepth 20000 in
set_option maxHeartbeats 1000000 in
theorem refTree_no {v : Value} {ts : List Tw} {w : World} {L : List Tg} {E : Int} (hT : TwIn w v ts) (hf : ∀ x ∈ ts, FitT x) (h : ShowIs ts L E) (hE : E ≠ 0) :
   Calls Tryd.prog 7 #[v] w fun e w' => e = .returned (.tuple #[.string ⟨#[]⟩, .int .i64 E]) ∧ Below w.heap.size w w' := by
 have kT := Lib.hid (AllD_is hT hf h);have hc : (E != 0) = true := by simpa using hE
 clear hT hf h hE;go_enter Tryd.func7, Tryd.ntmps7
 go_wp2_with fail
 with_reducible refine kT.out.mono ?_
 rintro e w1 ⟨v1, rfl, h1, hb1⟩;go_wp2_with fail
 go_ret2
 exact ⟨rfl, hb1⟩
set_option maxRecDepth 20000 in
set_option maxHeartbeats 1000000 in
theorem refTree_ok {v : Value} {ts : List Tw} {w : World} {L : List Tg} (hT : TwIn w v ts) (hf : ∀ x ∈ ts, FitT x) (h : ShowIs ts L 0) (hL : ∀ t ∈ L, Fit t) :
   Calls Tryd.prog 7 #[v] w fun e w' => e = .returned (spellV (spellR L)) ∧ Below w.heap.size w w' := by
 have kT := Lib.hid (AllD_is hT hf h);have kS := Lib.hid (fun (W : World) (u : Value) (hu : TgIn W u L) => refSpell_any hu hL);generalize spellR L = R at *;obtain ⟨st, cd⟩ := R;unfold spellV at kS ⊢;clear hT hf h hL;go_enter Tryd.func7, Tryd.ntmps7
 go_wp2_with fail
 with_reducible refine kT.out.mono ?_
 rintro e w1 ⟨v1, rfl, h1, hb1⟩;have k1 := Lib.hid (kS.out w1 v1 h1.tgIn);replace hb1 := Lib.hid hb1;clear kS kT h1;go_wp2_with fail
 with_reducible refine k1.out.mono ?_
 rintro e w2 ⟨rfl, hb2⟩;have hb3 := Lib.hid (below_next hb1.out hb2);clear hb2;go_wp2_with fail
 go_ret2
 exact ⟨rfl, hb3.out⟩
theorem refTree_is10 {v : Value} {ts : List Tw} {w : World} {st : List UInt8} {cd : Int} (hT : TwIn w v ts) (hf : ∀ x ∈ ts, FitT x) (h : TreeIs ts st cd) :
   Calls Tryd.prog 7 #[v] w fun e w' => e = .returned (.tuple #[.string ⟨st.toArray⟩, .int .i64 cd]) ∧ Below w.heap.size w w' := by
 obtain ⟨L, E, hI, ⟨rfl, hs, h0⟩ | ⟨hE, rfl, rfl⟩⟩ := h
 · rw [← spellV_is hs h0]
   exact refTree_ok hT hf hI (show_fit hI hf)
 · exact refTree_no hT hf hI hE
end Go.Proofs.YtjiemkidmlgbeaaDoor
namespace Go.Proofs.YtjiemkidmlgbeaaDoor
open Go.RowKit Go.Shelf
set_option maxRecDepth 20000 in
set_option maxHeartbeats 1000000 in
theorem alike_tw {w : World} {v1 v2 : Value} {ts : List Tw} (h1 : TwIn w v1 ts) (h2 : TwIn w v2 ts) :
   Calls Tryd.prog 8 #[v1, v2] w fun e w' => e = .returned (.bool true) ∧ Below w.heap.size w w' := by
 obtain ⟨a1, cap1, rfl, _, _, k1⟩ := h1;obtain ⟨a2, cap2, rfl, hlc, hcm, k2⟩ := h2;have hne : ((ts.length : Int) != (ts.length : Int)) = false := by simp
 replace k1 := Lib.hid k1;replace k2 := Lib.hid k2;go_enter Tryd.func8, Tryd.ntmps8
 go_wp2
 go_loopw [5] (fun t5 wr => ∃ i : Nat, i ≤ ts.length ∧ t5 = .int .i64 i ∧ Below w.heap.size w wr) (fun t5 _ => ts.length - (intOf t5).toNat)
 case atStart => exact ⟨0, by omega, rfl, Below.refl _ _⟩
 case round =>
   obtain ⟨i, hi, rfl, hbw⟩ := hrel;rcases Nat.lt_or_ge i ts.length with hlt | hge
   · obtain ⟨b1, o1, rfl, hl1, hc1⟩ := k1.out (by omega)
     obtain ⟨b2, o2, rfl, hl2, hc2⟩ := k2.out (by omega);have hlti : (i : Int) < (ts.length : Int) := by omega
     have x1 := fun n c (h : c < 4) => ((below_drewN hbw n).cell (p := ⟨b1, o1 + i * 4 + c, none⟩) hl1).trans (hc1 i hlt c h)
     have x2 := fun n c (h : c < 4) => ((below_drewN hbw n).cell (p := ⟨b2, o2 + i * 4 + c, none⟩) hl2).trans (hc2 i hlt c h)
     generalize ts[i] = t at *;obtain ⟨op, kids, num, text⟩ := t;have p0 := fun n => x1 n 0 (by omega); have p1 := fun n => x1 n 1 (by omega); have p2 := fun n => x1 n 2 (by omega); have p3 := fun n => x1 n 3 (by omega)
     have q0 := fun n => x2 n 0 (by omega); have q1 := fun n => x2 n 1 (by omega); have q2 := fun n => x2 n 2 (by omega); have q3 := fun n => x2 n 3 (by omega)
     simp only [twC, List.getElem?_cons_succ, List.getElem?_cons_zero, Nat.add_zero] at p0 p1 p2 p3 q0 q1 q2 q3;clear x1 x2 hc1 hc2;replace hbw := Lib.hid hbw;go_wp2
     go_quiet (fail)
     go_wp2
     go_roundw
     case rel => exact ⟨i + 1, by omega, by go_num, below_drewN hbw.out _⟩
     case measure => simp [intOf]; omega
   · obtain rfl : i = ts.length := by omega
     have hlti : ¬ ((ts.length : Int) < (ts.length : Int)) := by omega
     go_wp2
     go_ret
     exact ⟨rfl, hbw⟩
end Go.Proofs.YtjiemkidmlgbeaaDoor
