/- The contracts of a heap's find, Peek, Pop, Remove, Change. -/
import Derived.Test.YtabcifaknckomaaHTake
namespace Go.Proofs.Ytabcifaknckomaa.HI
open Go.RowKit

theorem results_four {fn : Func} {t u v x : Tmp} (h : fn.results = #[.tmp t, .tmp u, .tmp v, .tmp x]) (tmps : Array Value) (P : Program) (w : World) :
    (results fn tmps).run P w = .ok (.tuple #[tmps.getD t undef, tmps.getD u undef, tmps.getD v undef, tmps.getD x undef]) w := by
  simp [results, h]

theorem below_drewN {B n : Nat} {a w : World} (h : Below B a w) : Below B a (w.drewN n) := ⟨h.os, h.tape, h.output, h.size, h.block⟩
theorem HeapAt.drewN {b bm p : Nat} {sv : Value} {d : List T} {w : World} (h : HeapAt w b bm sv d p) (n : Nat) : HeapAt (w.drewN n) b bm sv d p := ⟨h.st, h.row, h.map, h.num, h.len, h.lim⟩
theorem only_drewN {F : Nat → Prop} {w w' : World} {n : Nat} (h : Only F (w.drewN n) w') : Only F w w' := ⟨h.os, h.tape, h.output, h.size, h.block⟩
/-- Where a number stands. -/
def FindIs (d : List T) (x : Int) (i : Nat) (is : Bool) : Prop := if is then i < d.length ∧ (at_ d i).num = x else i = 0 ∧ ∀ j, j < d.length → (at_ d j).num ≠ x

set_option maxHeartbeats 1000000 in
theorem find_any {b bm p : Nat} {sv : Value} {d : List T} {w : World} (h : HeapAt w b bm sv d p) {x : Int} (hx : I64 x) :
    Calls Try.prog 34 #[.pointer (some ⟨b, 0, none⟩), .int .i64 x] w fun e w' => w = w' ∧ ∃ (i : Nat) (is : Bool), e = .returned (.tuple #[.int .i64 i, .bool is]) ∧ FindIs d x i is := by
  have c1 := h.c1
  obtain ⟨f, M, hpl⟩ := h.map
  have R := M.look Try.underlying3 Try.underlying3 Try.underlying46 (zeroInt w) hx
  have fin : ∃ (i : Nat) (is : Bool), (Instr.lookup 46 (.map (some bm)) (.int .i64 x) true).run Try.prog w = .ok (.tuple #[.int .i64 i, .bool is]) w ∧ FindIs d x i is := by
    cases hf : f x with
    | none => rw [hf] at R; exact ⟨0, false, R, rfl, fun j hj e => by have := hpl.1 j hj; rw [e, hf] at this; simp at this⟩
    | some v => rw [hf] at R; exact ⟨v, true, R, hpl.2 x v hf⟩
  clear R
  obtain ⟨i, is, R, hF⟩ := fin
  have Md := Lib.hid (made_any h)
  clear h M hpl
  go_enter Try.func34, Try.ntmps34
  go_wp2_with (go_at_call 29; refine Md.out.mono ?_; rintro e w' ⟨rfl, rfl⟩)
  go_ret2
  exact ⟨rfl, i, is, rfl, hF⟩

set_option maxHeartbeats 400000 in
theorem peek_none {b bm p : Nat} {sv : Value} {d : List T} {w : World} (h : HeapAt w b bm sv d p) (h0 : d.length = 0) :
    Calls Try.prog 19 #[.pointer (some ⟨b, 0, none⟩)] w fun e w' => e = .returned (.tuple #[.int .i64 0, .int .i64 0, .int .i64 0, .bool false]) ∧ w = w' := by
  have L := len_any h
  rw [h0] at L
  replace L := Lib.hid L
  clear h h0
  go_enter Try.func19, Try.ntmps19
  go_wp2_with (go_at_call 21; refine L.out.mono ?_; rintro e w' ⟨rfl, rfl⟩)
  refine bodyPost_ret (results_four rfl _ _ _) rfl ?_
  exact ⟨rfl, rfl⟩

set_option maxHeartbeats 1000000 in
theorem peek_some {b bm p : Nat} {sv : Value} {d : List T} {w : World} (h : HeapAt w b bm sv d p) (h0 : 0 < d.length) :
    Calls Try.prog 19 #[.pointer (some ⟨b, 0, none⟩)] w fun e w' => e = .returned (.tuple #[.int .i64 (at_ d 0).key, .int .i64 (at_ d 0).v, .int .i64 (at_ d 0).num, .bool true]) ∧ Below w.heap.size w w' := by
  have L := len_any h
  obtain ⟨g, cap, rfl, _, hgl, hn, hcm, _⟩ := ownsRow_head h.row (by omega)
  have c0 := h.c0
  obtain ⟨a0, a1, a2⟩ := row_cells h.row rfl h0
  simp only [Nat.zero_mul, Nat.zero_add] at a0 a1 a2
  have hne : ((d.length : Int) == 0) = false := by rw [beq_eq_false_iff_ne]; omega
  generalize (at_ d 0).key = kk at a0 ⊢
  generalize (at_ d 0).num = ku at a1 ⊢
  generalize (at_ d 0).v = kv at a2 ⊢
  generalize d.length = n at *
  have hi1 : (0 : Int) < n := by omega
  replace L := Lib.hid L
  clear h
  go_enter Try.func19, Try.ntmps19
  go_wp2_with (go_at_call 21; refine L.out.mono ?_; rintro e w' ⟨rfl, rfl⟩)
  go_quiet (fail)
  go_wp2
  refine bodyPost_ret (results_four rfl _ _ _) rfl ?_
  exact ⟨rfl, below_drewN ((Below.refl _ _).alloc (Nat.le_refl _) _)⟩

set_option maxHeartbeats 400000 in
theorem pop_none {b bm p : Nat} {sv : Value} {d : List T} {w : World} (h : HeapAt w b bm sv d p) (h0 : d.length = 0) :
    Calls Try.prog 11 #[.pointer (some ⟨b, 0, none⟩)] w fun e w' => e = .returned (.tuple #[.int .i64 0, .int .i64 0, .int .i64 0, .bool false]) ∧ w = w' := by
  have L := Lib.hid (peek_none h h0)
  clear h h0
  go_enter Try.func11, Try.ntmps11
  go_wp2_with (go_at_call 19; refine L.out.mono ?_; rintro e w' ⟨rfl, rfl⟩)
  refine bodyPost_ret (results_four rfl _ _ _) rfl ?_
  exact ⟨rfl, rfl⟩

theorem foot_false {b bm : Nat} {sv : Value} : ∀ k, Foot b bm sv k → ¬ (fun _ : Nat => False) k := fun _ _ h => h

set_option maxHeartbeats 400000 in
theorem pop_some {b bm p : Nat} {sv : Value} {d : List T} {w : World} (h : HeapAt w b bm sv d p) (hH : Heapy T.key T.num d) (h0 : 0 < d.length) :
    Calls Try.prog 11 #[.pointer (some ⟨b, 0, none⟩)] w fun e w' => e = .returned (.tuple #[.int .i64 (at_ d 0).key, .int .i64 (at_ d 0).v, .int .i64 (at_ d 0).num, .bool true]) ∧ ∃ d' sv', HeapAt w' b bm sv' d' p ∧ (at_ d 0 :: d').Perm d ∧ Heapy T.key T.num d' ∧ sv'.ownBlock = sv.ownBlock ∧ Only (Foot b bm sv) w w' := by
  have L := Lib.hid (peek_some h h0)
  have K : ∀ w1, Below w.heap.size w w1 → HeapAt w1 b bm sv d p := fun w1 hb => h.kept (F := fun _ => False) (Only.of_below hb) foot_false
  replace K := Lib.hid K
  replace hH := Lib.hid hH
  clear h
  go_enter Try.func11, Try.ntmps11
  go_wp2_with (first
    | (go_at_call 19; refine L.out.mono ?_; rintro e w1 ⟨rfl, hb⟩)
    | (go_at_call 31; refine (take_any (K.out w1 hb) (s := 0) h0 hH.out).mono ?_; rintro e w2 ⟨rfl, d2, sv2, hH2, hp2, hD2, hs2, ho2⟩))
  refine bodyPost_ret (results_four rfl _ _ _) rfl ?_
  exact ⟨rfl, d2, sv2, hH2, hp2, hD2, hs2, (Only.of_below (F := Foot b bm sv) hb).then ho2⟩

set_option maxHeartbeats 400000 in
theorem remove_none {b bm p : Nat} {sv : Value} {d : List T} {w : World} (h : HeapAt w b bm sv d p) {x : Int} (hx : I64 x) (hn : ∀ j, j < d.length → (at_ d j).num ≠ x) :
    Calls Try.prog 13 #[.pointer (some ⟨b, 0, none⟩), .int .i64 x] w fun e w' => e = .returned (.tuple #[.int .i64 0, .bool false]) ∧ w = w' := by
  have L : Calls Try.prog 34 #[.pointer (some ⟨b, 0, none⟩), .int .i64 x] w fun e w' => e = .returned (.tuple #[.int .i64 0, .bool false]) ∧ w = w' :=
    (find_any h hx).mono fun e w' ⟨hw, i, is, he, hF⟩ => by
      cases is
      · unfold FindIs at hF; simp at hF; obtain ⟨rfl, _⟩ := hF; exact ⟨he, hw⟩
      · unfold FindIs at hF; simp at hF; exact absurd hF.2 (hn i hF.1)
  replace L := Lib.hid L
  clear h hn
  go_enter Try.func13, Try.ntmps13
  go_wp2_with (go_at_call 34; refine L.out.mono ?_; rintro e w' ⟨rfl, rfl⟩)
  go_ret2
  exact ⟨rfl, rfl⟩

/-- A number that is there is found. -/
theorem find_there {b bm p i : Nat} {sv : Value} {d : List T} {w : World} (h : HeapAt w b bm sv d p) {x : Int} (hx : I64 x) (hi : i < d.length) (hn : (at_ d i).num = x) :
    Calls Try.prog 34 #[.pointer (some ⟨b, 0, none⟩), .int .i64 x] w fun e w' => e = .returned (.tuple #[.int .i64 i, .bool true]) ∧ w = w' :=
  (find_any h hx).mono fun e w' ⟨hw, j, is, he, hF⟩ => by
    cases is
    · unfold FindIs at hF; simp at hF; exact absurd hn (hF.2 i hi)
    · unfold FindIs at hF; simp at hF
      obtain ⟨f, _, hpl⟩ := h.map
      have : j = i := hpl.inj hF.1 hi (by rw [hF.2, hn])
      subst this
      exact ⟨he, hw⟩

set_option maxHeartbeats 1000000 in
theorem remove_some {b bm p i : Nat} {sv : Value} {d : List T} {w : World} (h : HeapAt w b bm sv d p) (hH : Heapy T.key T.num d) {x : Int} (hx : I64 x) (hi : i < d.length) (hn : (at_ d i).num = x) :
    Calls Try.prog 13 #[.pointer (some ⟨b, 0, none⟩), .int .i64 x] w fun e w' => e = .returned (.tuple #[.int .i64 (at_ d i).v, .bool true]) ∧ ∃ d' sv', HeapAt w' b bm sv' d' p ∧ (at_ d i :: d').Perm d ∧ Heapy T.key T.num d' ∧ sv'.ownBlock = sv.ownBlock ∧ Only (Foot b bm sv) w w' := by
  have L := Lib.hid (find_there h hx hi hn)
  have K := Lib.hid (take_any h hi hH)
  obtain ⟨g, cap, rfl, _, hgl, hnc, hcm, _⟩ := ownsRow_head h.row (by omega)
  have c0 := h.c0
  obtain ⟨_, _, a2⟩ := row_cells h.row rfl hi
  have hi' : (i : Int) < d.length := by omega
  generalize hvv : (at_ d i).v = kv at a2 ⊢
  replace hvv := Lib.hid hvv
  generalize hnn : d.length = n at *
  replace hnn := Lib.hid hnn
  replace hn := Lib.hid hn
  clear h hH
  go_enter Try.func13, Try.ntmps13
  go_wp2_with (first
    | (go_at_call 34; refine L.out.mono ?_; rintro e w1 ⟨rfl, rfl⟩)
    | (go_at_call 31; refine K.out.mono ?_; rintro e w2 ⟨rfl, hres⟩; replace hres := Lib.hid hres))
  go_ret2
  exact ⟨rfl, hres.out⟩

set_option maxHeartbeats 400000 in
theorem change_none {b bm p : Nat} {sv : Value} {d : List T} {w : World} (h : HeapAt w b bm sv d p) {x : Int} (key : Int) (hx : I64 x) (hn : ∀ j, j < d.length → (at_ d j).num ≠ x) :
    Calls Try.prog 15 #[.pointer (some ⟨b, 0, none⟩), .int .i64 x, .int .i64 key] w fun e w' => e = .returned (.bool false) ∧ w = w' := by
  have L : Calls Try.prog 34 #[.pointer (some ⟨b, 0, none⟩), .int .i64 x] w fun e w' => e = .returned (.tuple #[.int .i64 0, .bool false]) ∧ w = w' :=
    (find_any h hx).mono fun e w' ⟨hw, i, is, he, hF⟩ => by
      cases is
      · unfold FindIs at hF; simp at hF; obtain ⟨rfl, _⟩ := hF; exact ⟨he, hw⟩
      · unfold FindIs at hF; simp at hF; exact absurd hF.2 (hn i hF.1)
  replace L := Lib.hid L
  clear h hn
  go_enter Try.func15, Try.ntmps15
  go_wp2_with (go_at_call 34; refine L.out.mono ?_; rintro e w' ⟨rfl, rfl⟩)
  go_ret
  exact ⟨rfl, rfl⟩

/-- The thing with another key. -/
def rekey (d : List T) (i : Nat) (key : Int) : List T := d.set i ⟨key, (at_ d i).num, (at_ d i).v⟩
theorem rekey_at {b bm p i : Nat} {sv : Value} {d : List T} {w : World} {g n cap : Nat} (h : HeapAt w b bm (.slice (some ⟨g, 0, none⟩) n cap) d p) (hn : n = d.length) (hi : i < d.length) (key : Int) :
    HeapAt (w.setCell ⟨g, i * 3, none⟩ (.int .i64 key)) b bm (.slice (some ⟨g, 0, none⟩) n cap) (rekey d i key) p ∧ Only (fun k => k = g) w (w.setCell ⟨g, i * 3, none⟩ (.int .i64 key)) := by
  obtain ⟨hgb, hgm⟩ := h.g_ne (g := g) rfl
  have O : Only (fun k => k = g) w (w.setCell ⟨g, i * 3, none⟩ (.int .i64 key)) := (Only.refl (fun k => k = g) w).setCell (p := ⟨g, i * 3, none⟩) (.inl rfl) _
  have hl : (rekey d i key).length = d.length := by unfold rekey; simp
  have hrow := h.row
  rw [← hn] at hrow
  obtain ⟨a0, a1, a2⟩ := row_cells hrow hn hi
  refine ⟨⟨(O.block b h.lt (fun e => hgb e.symm)).trans h.st, ?_, ?_, ?_, by rw [hl]; exact h.len, h.lim⟩, O⟩
  · have r1 := (hrow.stored (i * 3) (.int .i64 key)).1
    have e := rowOf_set3 enc_len d i hi ⟨key, (at_ d i).num, (at_ d i).v⟩ (a := .int .i64 key) (b := .int .i64 (at_ d i).num) (c := .int .i64 (at_ d i).v) rfl
    have g1 := rowOf_get enc_len d i 1 hi (by omega)
    have g2 := rowOf_get enc_len d i 2 hi (by omega)
    rw [← at_eq d i hi] at g1 g2
    have e2 : (((rowOf enc d).set (i * 3) (.int .i64 key)).set (i * 3 + 1) (.int .i64 (at_ d i).num)).set (i * 3 + 2) (.int .i64 (at_ d i).v) = (rowOf enc d).set (i * 3) (.int .i64 key) := by
      apply List.ext_getElem?
      intro q
      simp only [List.getElem?_set, List.length_set]
      have hlen := rowOf_length enc_len d
      by_cases q2 : i * 3 + 2 = q
      · subst q2; rw [if_pos rfl, if_pos (by omega), if_neg (by omega), g2]; rfl
      · rw [if_neg q2]
        by_cases q1 : i * 3 + 1 = q
        · subst q1; rw [if_pos rfl, if_pos (by omega), if_neg (by omega), g1]; rfl
        · rw [if_neg q1]
    rw [e2] at e
    rw [e] at r1
    rw [hl, ← hn]
    exact r1
  · obtain ⟨f, M, hpl⟩ := h.map
    exact ⟨f, by rw [hl]; exact M.kept O (fun e => hgm e.symm), hpl.set hi rfl⟩
  · intro j hj
    rw [hl] at hj
    unfold rekey
    rw [at_set _ _ _ _ hi]
    split
    · exact h.num i hi
    · exact h.num j hj

set_option maxHeartbeats 1000000 in
theorem change_some {b bm p i : Nat} {sv : Value} {d : List T} {w : World} (h : HeapAt w b bm sv d p) (hH : Heapy T.key T.num d) {x : Int} (key : Int) (hx : I64 x) (hi : i < d.length) (hn : (at_ d i).num = x) :
    Calls Try.prog 15 #[.pointer (some ⟨b, 0, none⟩), .int .i64 x, .int .i64 key] w fun e w' => e = .returned (.bool true) ∧ ∃ d', HeapAt w' b bm sv d' p ∧ d'.Perm (rekey d i key) ∧ Heapy T.key T.num d' ∧ Only (Foot b bm sv) w w' := by
  have L := Lib.hid (find_there h hx hi hn)
  obtain ⟨g, cap, rfl, _, hgl, hnc, hcm, _⟩ := ownsRow_head h.row (by omega)
  have K := Lib.hid (rekey_at (sv := .slice none 0 0) h rfl hi key)
  have E := Lib.hid (ex_set hi hH ⟨key, (at_ d i).num, (at_ d i).v⟩)
  have c0 := h.c0
  obtain ⟨a0, _, _⟩ := row_cells h.row rfl hi
  have f0 := h.row.frozenAt (i * 3)
  have hi' : (i : Int) < d.length := by omega
  generalize (at_ d i).key = kv at a0
  have hil : i < (rekey d i key).length := by unfold rekey; simpa using hi
  generalize hnn : d.length = n at *
  replace hnn := Lib.hid hnn
  replace hn := Lib.hid hn
  clear h hH
  go_enter Try.func15, Try.ntmps15
  go_wp2_with (first
    | (go_at_call 34; refine L.out.mono ?_; rintro e w1 ⟨rfl, rfl⟩)
    | (go_at_call 36; refine (settle_any K.out.1 (s := i) hil E.out).mono ?_; rintro e w2 ⟨rfl, d2, hH2, hp2, hD2, ho2⟩))
  go_ret
  exact ⟨rfl, d2, hH2, hp2, hD2, K.out.2.trans ho2 (fun k _ e => .inr (.inr (by rw [e]; rfl))) (fun k _ e => by rcases e with e | e; exact .inr (.inl e); exact .inr (.inr e))⟩
end Go.Proofs.Ytabcifaknckomaa.HI
