/- The document's All (layer 7), walked. No condition. -/
import Derived.Test.YtmgbebpkkidooaaDoorTDocU
import Derived.Test.YtmgbebpkkidooaaDoorTDoc3
namespace Go.Proofs.YtmgbebpkkidooaaDoor
open Go.RowKit Tok

theorem tok_bad {c : UInt8} {r : List UInt8} {k e : Nat} (h : tokT (c :: r) = .bad k e) : e ≠ 0 := by
  rw [tokT_cons] at h
  by_cases h1 : lowC c = true
  · rw [if_pos h1] at h
    unfold wordT at h
    split at h
    · cases h; omega
    · cases h
  · rw [if_neg h1] at h
    by_cases h2 : digC c = true
    · rw [if_pos h2] at h
      rcases num_res (c :: r) with ⟨k', e', h3, h4, _⟩ | ⟨x, k', h3, _⟩
      · rw [h3] at h; cases h; exact h4
      · rw [h3] at h; cases h
    · rw [if_neg h2] at h
      by_cases h3 : c.toNat = 34
      · rw [if_pos h3] at h
        rcases text_res (c :: r) with ⟨k', e', h4, h5⟩ | ⟨tx, k', h4⟩
        · rw [h4] at h; cases h; exact h5
        · rw [h4] at h; cases h
      · rw [if_neg h3] at h
        have : ∀ ss : List (List UInt8), signGo ss (c :: r) = .bad k e → e ≠ 0 := by
          intro ss
          induction ss with
          | nil =>
            intro h
            obtain ⟨k', e', h4, h5, _⟩ := none_res (c :: r)
            have h6 : noneT (c :: r) = .bad k e := h
            rw [h4] at h6; cases h6; exact h5
          | cons t ts ih =>
            intro h
            unfold signGo at h
            split at h
            · cases h
            · exact ih h
        exact this signs h

/-- append(l, t), at the operation; other blocks are as they were. -/
theorem wpList_append_tk2 {w : World} {base : Nat} {v : Value} {ts : List Tk} {ops : Array Oper} {rest : List Oper} {o : Oper} {a : Act} {Q : Exit → Act → World → Prop} (hgd : o.guard = none) (s x : Operand)
    (ho : o.op = .call { callee := .builtin .append, args := #[s, x], argTypes := #[22, 22] })
    (hs : a.eval s = v) (hown : TksAt w base v ts) (t : Tk) {w2 : World} (hw : w = w2.alloc (.cells (tkC t).toArray 29)) {q : Nat} (hx : a.eval x = .slice (some ⟨q, 0, none⟩) 1 1) (hq : q = w2.heap.size)
    (hk : ts.length ≤ 1000000000) (hbase : base ≤ w.heap.size)
    (h : ∀ a' cap w', TksAt w' base (.slice a' (ts.length + 1) cap) (ts ++ [t]) → Below base w w' → (∀ p : Addr, p.block < w.heap.size → some p.block ≠ v.ownBlock → w'.cell? p = w.cell? p) → wpList Tryd.prog ops Q rest (a.put o.dst (.slice a' (ts.length + 1) cap)) w') : wpList Tryd.prog ops Q (o :: rest) a w := by
  obtain ⟨i0, hi, hz0, hz1, hz2⟩ := tk_parts
  subst hw
  subst hq
  refine wpList_append_own_at _ hgd s x 22 ho base 29 i0 (.agg #[.int .u8 0, .string ⟨#[]⟩, .int .i64 0, .int .i64 0]) 4 40 Tryd.underlying22 hi hz0 hz1 hz2 rfl (by decide) v ts.length (rowOf tkC ts) hs hown ⟨w2.heap.size, 0, none⟩ 1 1 (tkC t) hx rfl (fun j u hj => cells_new w2 (tkC t) _ j u hj) (tkC_one t) (by unfold maxLen; omega) (by omega) hbase ?_
  intro v' w' h2 h3 _ _
  obtain ⟨a', cap, rfl, _⟩ := ownsRow_shape h2
  refine h a' cap w' ?_ ((Below.refl base _).grown h3 hbase (fun k hk => (World.ownsRow.lt hown k hk).1)) (fun p hp hne => h3.cell_far p hp hne)
  unfold TksAt
  rw [rowOf_snoc, List.length_append]
  exact h2
theorem skip_at {s : ByteArray} {i n : Nat} (hs : s.size ≤ 1000000) (h : i + n ≤ s.size) (w : World) :
    Calls Tryd.prog 21 #[.string s, .int .i64 ((i : Int) + (n : Int))] w fun e w' => ∃ j : Nat, e = .returned (.int .i64 j) ∧ i + n ≤ j ∧ j ≤ s.size ∧ (∀ ts, allR (s.data.toList.drop (i + n)) (i + n) ts = allR (s.data.toList.drop j) j ts) ∧ (∀ h : j < s.size, s[j].toNat ≠ 32 ∧ s[j].toNat ≠ 10 ∧ s[j].toNat ≠ 35) ∧ w' = w := by
  have := refSkip_any s (i + n) w hs h
  rwa [show ((i + n : Nat) : Int) = (i : Int) + (n : Int) by omega] at this
set_option maxRecDepth 20000 in
set_option maxHeartbeats 4000000 in
theorem refAll_any (s : ByteArray) (w : World) (hs : s.size ≤ 16384) :
    Calls Tryd.prog 9 #[.string s] w fun e w' => ∃ v', e = .returned (.tuple #[v', .int .i64 (allT s.data.toList).at_, .int .i64 (allT s.data.toList).code]) ∧ TksAt w' w.heap.size v' (allT s.data.toList).toks ∧ Below w.heap.size w w' := by
  have hT0 : allT s.data.toList = allR s.data.toList 0 [] := if_neg (by rw [size_list]; omega)
  rw [hT0]
  obtain ⟨R, hR⟩ := exHid (allR s.data.toList 0 [])
  rw [hR.out]
  clear hT0
  have hlen : ¬ (16384 : Int) < (s.size : Int) := by omega
  go_enter Tryd.func9, Tryd.ntmps9
  go_wp2_with fail
  refine (refSkip_any s 0 _ (by omega) (by omega)).mono ?_
  rintro e w1 ⟨j0, rfl, _, hj0, hsk, hst, rfl⟩
  have hR0 : Hid (allR (s.data.toList.drop j0) j0 [] = R) := by
    have := hsk []
    rw [List.drop_zero] at this
    exact this.symm.trans hR.out
  replace hsk := Lib.hid hsk
  replace hst := Lib.hid hst
  go_wp2
  go_loopw [5, 6, 7] (fun t5 t6 _ wr => ∃ (i : Nat) (ks : List Tk), i ≤ s.size ∧ t6 = .int .i64 i ∧ ks.length ≤ i ∧ Hid (∀ h : i < s.size, s[i].toNat ≠ 32 ∧ s[i].toNat ≠ 10 ∧ s[i].toNat ≠ 35) ∧ Hid (TksAt wr w1.heap.size t5 ks) ∧ Hid (Below w1.heap.size w1 wr) ∧ Hid (allR (s.data.toList.drop i) i ks = R)) (fun _ t6 _ _ => s.size - (intOf t6).toNat)
  case atStart => exact ⟨j0, [], hj0, rfl, by simp, hst, TksAt.nil _ _, Below.refl _ _, hR0⟩
  case round =>
    obtain ⟨i, ks, hi, rfl, hki, hnb, hB, hb, hT⟩ := hrel
    obtain ⟨a5, cap5, rfl, _, _⟩ := hB.out.shape
    have hsz := hb.out.size
    rcases Nat.lt_or_ge i s.size with hlt | hge
    · have hlti : (i : Int) < (s.size : Int) := by omega
      obtain ⟨n1, n2, n3⟩ := hnb.out hlt
      have k := Lib.hid (fun W => refOne_any s i W (by omega) hlt)
      have hT' := hT.out
      have hle := tokT_le (s.data.toList.drop i)
      rw [at_drop hlt] at hT' hle
      rw [at_drop hlt] at k
      rcases ht : tokT (s[i] :: s.data.toList.drop (i + 1)) with ⟨kd, tx, x, n⟩ | ⟨n, e⟩
      · rw [allR_tok i ks (by omega) n3 ht, ← at_drop hlt, List.drop_drop] at hT'
        rw [ht] at k hle
        have hnp := tokT_pos ht
        simp only [List.length_cons, List.length_drop, size_list] at hle
        unfold resT toldV at k
        dsimp only at k
        have hin : i + n ≤ s.size := by omega
        have kS := Lib.hid (fun W => skip_at (s := s) (i := i) (n := n) (by omega) hin W)
        have hown : some wr.heap.size ≠ (Value.slice a5 ks.length cap5).ownBlock ∧ ∀ W : Nat, wr.heap.size ≤ W → some W ≠ (Value.slice a5 ks.length cap5).ownBlock := by
          have hlt := fun W (hW : wr.heap.size ≤ W) (he : some W = (Value.slice a5 ks.length cap5).ownBlock) => (by have := (World.ownsRow.lt hB.out W he.symm).2; omega : False)
          exact ⟨fun he => hlt _ (Nat.le_refl _) he, fun W hW he => hlt W hW he⟩
        replace hT' := Lib.hid hT'
        clear ht hT
        go_wp2_with fail
        refine (k.out _).mono ?_
        rintro e' w3 ⟨rfl, hb3⟩
        have hne := hown.2 w3.heap.size hb3.size
        have hb4 := Lib.hid (((below_next hb.out hb3).alloc (below_next hb.out hb3).size (.cells #[.int .u8 kd, .string ⟨tx.toArray⟩, .int .i64 x, .int .i64 i, .int .i64 ((i : Int) + n), .int .i64 0, .int .i64 0] 47)).alloc (by have := (below_next hb.out hb3).size; simp; omega) (.cells (tkC ⟨kd, tx, x, i⟩).toArray 29))
        have hB4 := Lib.hid ((hB.out.below hb3).below (((Below.refl _ w3).alloc (Nat.le_refl _) (.cells #[.int .u8 kd, .string ⟨tx.toArray⟩, .int .i64 x, .int .i64 i, .int .i64 ((i : Int) + n), .int .i64 0, .int .i64 0] 47)).alloc (by simp) (.cells (tkC ⟨kd, tx, x, i⟩).toArray 29)))
        have e0 := two_cells w3 #[.int .u8 kd, .string ⟨tx.toArray⟩, .int .i64 x, .int .i64 i, .int .i64 ((i : Int) + n), .int .i64 0, .int .i64 0] 47 (.cells (tkC ⟨kd, tx, x, i⟩).toArray 29)
        have hlt2 : w3.heap.size < ((w3.alloc (.cells #[.int .u8 kd, .string ⟨tx.toArray⟩, .int .i64 x, .int .i64 i, .int .i64 ((i : Int) + n), .int .i64 0, .int .i64 0] 47)).alloc (.cells (tkC ⟨kd, tx, x, i⟩).toArray 29)).heap.size := by simp; omega
        go_wp2_with (at_builtin; (refine wpList_append_tk2 rfl _ _ rfl rfl hB4.out ⟨kd, tx, x, i⟩ rfl rfl (by simp) (by omega) hb4.out.size ?_; intro a' cap' w5 hB5 hO5 hkp; have d4 := (hkp ⟨w3.heap.size, 4, none⟩ hlt2 hne).trans (e0 4); simp only [List.getElem?_toArray, List.getElem?_cons_succ, List.getElem?_cons_zero] at d4; clear hkp))
        refine (kS.out _).mono ?_
        rintro e' w6 ⟨j, rfl, hj1, hj2, hsk2, hst2, rfl⟩
        replace hB5 := Lib.hid hB5
        replace hsk2 := Lib.hid hsk2
        replace hst2 := Lib.hid hst2
        go_wp2
        go_roundw
        case rel => exact ⟨j, ks ++ [⟨kd, tx, x, i⟩], hj2, rfl, by simp; omega, hst2, by simpa using hB5, hb4.out.trans hO5, (hsk2.out _).symm.trans hT'.out⟩
        case measure => simp [intOf]; omega
      · rw [allR_bad i ks (by omega) n3 ht] at hT'
        rw [ht] at k
        have he := tok_bad ht
        unfold resT toldV at k
        dsimp only at k
        have q : ((e : Int) != 0) = true := by simp; omega
        replace hT' := Lib.hid hT'
        clear ht hT hle
        go_wp2_with fail
        refine (k.out _).mono ?_
        rintro e' w3 ⟨rfl, hb3⟩
        have hq : ∀ (m j : Nat) (u : Value), (#[.int .u8 0, .string ⟨#[]⟩, .int .i64 0, .int .i64 0, .int .i64 0, .int .i64 ((i : Int) + n), .int .i64 e] : Array Value)[j]? = some u → ((w3.alloc (.cells #[.int .u8 0, .string ⟨#[]⟩, .int .i64 0, .int .i64 0, .int .i64 0, .int .i64 ((i : Int) + n), .int .i64 e] 47)).drewN m).cell? ⟨w3.heap.size, j, none⟩ = some u := fun m j u hu => (one_cell w3 _ _ j).trans hu
        have q5 := fun m => hq m 5 _ rfl
        have q6 := fun m => hq m 6 _ rfl
        clear hq
        go_wp2
        go_quiet (fail)
        go_wp2
        go_ret3
        rw [← hT'.out]
        exact ⟨_, by simp, TksAt.nil _ _, below_drewN ((below_next hb.out hb3).alloc (below_next hb.out hb3).size _) _⟩
    · obtain rfl : i = s.size := by omega
      have hlti : ¬ ((s.size : Int) < (s.size : Int)) := by omega
      have hT' := hT.out
      rw [no_drop (Nat.le_refl _), allR_nil] at hT'
      replace hT' := Lib.hid hT'
      clear hT
      go_wp2
      go_ret3
      rw [← hT'.out]
      exact ⟨_, rfl, hB.out, hb.out⟩
end Go.Proofs.YtmgbebpkkidooaaDoor
