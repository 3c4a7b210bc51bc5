/- The document's make (layer 11), walked. No condition. -/
import Derived.Test.YtnghfjlmmmjekaaCkF
namespace Go.Proofs.Ytnghfjlmmmjekaa
open Go.RowKit Go.Shelf

theorem wrong_made (S : D11) (i : Nat) (e : Int) : (wrongD S i e).made = S.made := by unfold wrongD; split <;> rfl
theorem stored2C {W : World} {b : Nat} {x0 x1 : Value} {t : TypeId} (h : W.heap[b]? = some (.cells #[x0, x1] t (0, 0))) (a c : Value) :
    ((W.setCell ⟨b, 0, none⟩ a).setCell ⟨b, 1, none⟩ c).heap[b]? = some (.cells #[a, c] t (0, 0)) ∧ Only (fun k => k = b) W ((W.setCell ⟨b, 0, none⟩ a).setCell ⟨b, 1, none⟩ c) := by
  constructor
  · have a1 := heap_setCell_same W b 0 _ _ a h
    have a2 := heap_setCell_same _ b 1 _ _ c a1
    simpa using a2
  · exact ((Only.refl (fun k => k = b) W).setCell (p := ⟨b, 0, none⟩) (.inl rfl) a).setCell (p := ⟨b, 1, none⟩) (.inl rfl) c
theorem results_make {W : World} {b : Nat} {s : List UInt8} {m : Int} {tmps : Array Value} (h : tmps.getD 6 undef = .pointer (some ⟨b, 0, none⟩)) (hc : W.heap[b]? = some (.cells #[.string ⟨s.toArray⟩, .int .i64 m] 56 (0, 0))) :
    (results Try.f23 tmps).run Try.prog W = .ok (.agg #[strV s, .int .i64 m]) W := by
  have c0 := cellC hc 0
  have c1 := cellC hc 1
  simp only [List.getElem?_toArray, List.getElem?_cons_succ, List.getElem?_cons_zero] at c0 c1
  have h' : tmps[6]?.getD undef = .pointer (some ⟨b, 0, none⟩) := by simpa using h
  unfold strV
  simp [results, Try.results23, go_sem, h', c0, c1]
theorem wrong_l (S : D11) (i : Nat) (e : Int) : (wrongD S i e).l = S.l := by unfold wrongD; split <;> rfl
theorem twText {W : World} {v : Value} {ts : List Tw} (h : TwIn W v ts) {i : Nat} (hi : i < ts.length) : ∃ g off cap, v = .slice (some ⟨g, off, none⟩) ts.length cap ∧ ∀ c, c < 4 → W.cell? ⟨g, off + i * 4 + c, none⟩ = (twC ts[i])[c]? := by
  obtain ⟨a, cap, rfl, _, _, h3⟩ := h
  obtain ⟨g, off, rfl, _, hc⟩ := h3 (by omega)
  exact ⟨g, off, cap, rfl, fun c hc4 => hc i hi c hc4⟩
set_option maxRecDepth 20000 in
set_option maxHeartbeats 4000000 in
theorem make11_any {w0 w : World} {gs gl n cl : Nat} {tv : Value} {ts : List Tw} {S : D11} (h : SMem w0 w gs gl n cl tv ts S) (hm : S.made ≤ 1000000) {v : Value} {L : List (List UInt8 × Nat)} (hv : VarsAt w w0.heap.size v L) (hL : L.length ≤ 1000000)
    {i : Nat} (hi : i < ts.length) (hn : i < n) {text : List UInt8} (ht : ts[i].text = text) :
    Calls Try.prog 23 #[.pointer (some ⟨gs, 0, none⟩), .int .i64 (i : Int), v] w fun e' w' => e' = .returned (.agg #[strV text, .int .i64 (S.made : Int)]) ∧ SMem w0 w' gs gl n cl tv ts (makeD S i L text) ∧ Only (fun k => k = gs ∨ k = gl) w w' := by
  have hal := (Below.refl w.heap.size w).alloc (Nat.le_refl _) (.cells #[.string ⟨#[]⟩, .int .i64 0] 56)
  have h1 := h.below hal
  obtain ⟨g, off, cap, rfl, hc⟩ := twText h1.twin hi
  have y3 := hc 3 (by omega)
  simp only [twC, List.getElem?_cons_zero, List.getElem?_cons_succ, ht] at y3
  have c0 := cellC h1.s 0
  have c2 := cellC h1.s 2
  simp only [headD, List.getElem?_toArray, List.getElem?_cons_succ, List.getElem?_cons_zero] at c0 c2
  have hii : (i : Int) < (ts.length : Int) := by omega
  have hnn : (i : Int) < (n : Int) := by omega
  replace h1 := Lib.hid h1
  obtain ⟨va, vc, rfl, _, _⟩ := id hv.shape
  replace hv := Lib.hid hv
  replace h := Lib.hid h
  clear hc ht
  have hz := hal.size
  obtain ⟨W1, hW1⟩ : ∃ W1, W1 = w.alloc (.cells #[.string ⟨#[]⟩, .int .i64 0] 56) := ⟨_, rfl⟩
  have hg6 : W1.heap[w.heap.size]? = some (.cells #[.string ⟨#[]⟩, .int .i64 0] 56 (0, 0)) := by rw [hW1]; exact heap_alloc_new w _
  rw [← hW1] at h1 y3 c0 c2 hal hz
  have hal2 := (Below.refl W1.heap.size W1).alloc (Nat.le_refl _) (.cells #[.string ⟨#[]⟩, .int .i64 0] 56)
  have x3 := Below.keeps hal2 y3
  have x0 := Below.keeps hal2 c0
  have x2 := Below.keeps hal2 c2
  have hN := heap_alloc_new W1 (.cells #[.string ⟨#[]⟩, .int .i64 0] 56 (0, 0))
  have n0 := cellC hN 0
  have n1 := cellC hN 1
  have m0 := fzC hN 0
  have m1 := fzC hN 1
  simp only [List.getElem?_toArray, List.getElem?_cons_succ, List.getElem?_cons_zero] at n0 n1
  go_enter Try.func23, Try.ntmps23
  go_wp2_with fail
  rw [← hW1]
  clear hW1
  go_region
  have hal3 := ((Below.refl W1.heap.size W1).alloc (Nat.le_refl _) (.cells #[.string ⟨text.toArray⟩, .int .i64 (S.made : Int)] 56)).drew
  have hg7 : (W1.alloc (.cells #[.string ⟨text.toArray⟩, .int .i64 (S.made : Int)] 56)).drew.heap[W1.heap.size]? = some (.cells #[.string ⟨text.toArray⟩, .int .i64 (S.made : Int)] 56 (0, 0)) := heap_alloc_new W1 _
  have hgz := (Array.getElem?_eq_some_iff.1 hg6).1
  have hgs := (Array.getElem?_eq_some_iff.1 h.out.s).1
  have hgl := h.out.glb.2
  have hwb := h.out.b.size
  have hg6b := (hal3.block _ hgz).trans hg6
  have hz3 := hal3.size
  generalize (W1.alloc (.cells #[.string ⟨text.toArray⟩, .int .i64 (S.made : Int)] 56)).drew = W2 at *
  have hb2 := hal.trans (hal3.mono hz)
  have h2 := Lib.hid (h.out.below hb2)
  have hv2 := hv.out.below hb2
  have ho2 := Lib.hid (Only.of_below (F := fun _ => False) hb2)
  have q0 := cellC hg7 0
  simp only [List.getElem?_toArray, List.getElem?_cons_zero] at q0
  have kF := Lib.hid (find11_any W2 hv2 hL text)
  have kW := Lib.hid (fun (W : World) (S : D11) (e : Int) (hh : SMem w0 W gs gl n cl (.slice (some ⟨g, off, none⟩) ts.length cap) ts S) => wrong11_any hh i e)
  unfold strV at kF
  replace hg6b := Lib.hid hg6b
  replace hg7 := Lib.hid hg7
  clear x0 x2 x3 y3 c0 c2 n0 n1 m0 m1 hN hal2 hal3 hg6 h1 hal hv hv2 hb2 h
  cases hf : findL L text with
  | some u =>
    have hfi : findI L text = (u : Int) := by unfold findI; rw [hf]
    rw [hfi] at kF
    have hu0 : (0 : Int) ≤ (u : Int) := by omega
    by_cases h100 : 100 ≤ S.made
    · have h100i : (100 : Int) ≤ (S.made : Int) := by omega
      go_wp2_with fail
      refine kF.out.mono ?_
      rintro e' w3 ⟨rfl, rfl⟩
      go_wp2_with fail
      refine (kW.out _ _ 111 h2.out).mono ?_
      rintro e' w4 ⟨rfl, h4, o4⟩
      have e4 := Lib.hid (wrong_made S i 111)
      have c2 := cellC h4.s 2
      simp only [headD, List.getElem?_toArray, List.getElem?_cons_succ, List.getElem?_cons_zero] at c2
      rw [e4.out] at c2
      replace h4 := Lib.hid h4
      go_wp2_with fail
      refine (kW.out _ _ 2 h4.out).mono ?_
      rintro e' w5 ⟨rfl, h5, o5a⟩
      have e5 := Lib.hid ((wrong_made _ i 2).trans e4.out)
      have o5 := Lib.hid (o4.trans o5a (fun _ _ h => h) (fun _ _ h => h))
      have hg7b := (o5.out.block _ (Array.getElem?_eq_some_iff.1 hg7.out).1 (by omega)).trans hg7.out
      have hg6c := (o5.out.block _ (Array.getElem?_eq_some_iff.1 hg6b.out).1 (by omega)).trans hg6b.out
      obtain ⟨fl, x9, cl9, _⟩ := h5.cell hn
      have r1 := cellC h5.s 1
      have v1 := cellC hg7b 1
      simp only [headD, List.getElem?_toArray, List.getElem?_cons_succ, List.getElem?_cons_zero] at r1 v1
      replace h5 := Lib.hid h5
      replace hg7b := Lib.hid hg7b
      replace hg6c := Lib.hid hg6c
      go_wp2_with fail
      go_region
      obtain ⟨p1, p2⟩ := h5.out.slot i (S.made : Int)
      have h6 := p1.below (Below.refl _ _).drew
      have o6 := o5.out.trans p2.drew (K := fun k => k = gs ∨ k = gl) (fun k _ e => .inl e) (fun k _ e => .inr e)
      have hg7c := (p2.drew.block _ (Array.getElem?_eq_some_iff.1 hg7b.out).1 (by omega)).trans hg7b.out
      have hg6d := (p2.drew.block _ (Array.getElem?_eq_some_iff.1 hg6c.out).1 (by omega)).trans hg6c.out
      generalize (World.setCell _ _ _).drew = w6 at *
      have r2 := cellC h6.s 2
      have fz2 := fzC h6.s 2
      simp only [headD, List.getElem?_toArray, List.getElem?_cons_succ, List.getElem?_cons_zero] at r2
      rw [e5.out] at r2
      obtain ⟨p3, p4⟩ := h6.mades (S.made + 1)
      rw [show ((S.made + 1 : Nat) : Int) = (S.made : Int) + 1 by omega] at p3 p4
      have o7 := o6.trans p4 (K := fun k => k = gs ∨ k = gl) (fun k _ e => e) (fun k _ e => .inl e)
      have hg7d := (p4.block _ (Array.getElem?_eq_some_iff.1 hg7c).1 (by omega)).trans hg7c
      have hg6e := (p4.block _ (Array.getElem?_eq_some_iff.1 hg6d).1 (by omega)).trans hg6d
      have z0 := cellC hg7d 0; have z1 := cellC hg7d 1
      have y0 := cellC hg6e 0; have y1 := cellC hg6e 1
      have g0 := fzC hg6e 0; have g1 := fzC hg6e 1
      simp only [List.getElem?_toArray, List.getElem?_cons_succ, List.getElem?_cons_zero] at z0 z1 y0 y1
      obtain ⟨s1, s2⟩ := stored2C hg6e (.string ⟨text.toArray⟩) (.int .i64 (S.made : Int))
      have h9 := Lib.hid (p3.keep s2 (fun k e => by rw [e]; exact hwb) (by omega) (by omega))
      have o9 := Lib.hid (o7.trans s2 (K := fun k => k = gs ∨ k = gl ∨ k = w.heap.size) (fun k _ e => e.elim .inl (fun e => .inr (.inl e))) (fun k _ e => .inr (.inr e)))
      replace s1 := Lib.hid s1
      clear p1 p2 p3 p4 o6 o7 hg7c hg6d hg7d hg6e s2 h6
      go_wp2_with fail
      refine bodyPost_ret (results_make rfl s1.out) rfl ⟨rfl, ?_, ?_⟩
      · have hM : makeD S i L text = ⟨(wrongD (wrongD S i 111) i 2).l.set i (S.made : Int), S.made + 1, (wrongD (wrongD S i 111) i 2).at_, (wrongD (wrongD S i 111) i 2).e⟩ := by
          unfold makeD
          simp only [hf, Option.isSome_some, ↓reduceIte, h100]
        rw [hM]
        exact h9.out
      · exact ho2.out.trans o9.out (fun k _ e => e.elim) (fun k hk e => by
          rcases e with e | e | e
          · exact .inl e
          · exact .inr e
          · omega)
    · have h100i : ¬ (100 : Int) ≤ (S.made : Int) := by omega
      go_wp2_with fail
      refine kF.out.mono ?_
      rintro e' w3 ⟨rfl, rfl⟩
      go_wp2_with fail
      refine (kW.out _ _ 111 h2.out).mono ?_
      rintro e' w4 ⟨rfl, h4, o4⟩
      have e4 := Lib.hid (wrong_made S i 111)
      have c2 := cellC h4.s 2
      simp only [headD, List.getElem?_toArray, List.getElem?_cons_succ, List.getElem?_cons_zero] at c2
      rw [e4.out] at c2
      replace h4 := Lib.hid h4
      have h5 := h4.out
      have o5a := Only.refl (fun k => k = gs) w4
      have e5 := e4
      have o5 := Lib.hid (o4.trans o5a (fun _ _ h => h) (fun _ _ h => h))
      have hg7b := (o5.out.block _ (Array.getElem?_eq_some_iff.1 hg7.out).1 (by omega)).trans hg7.out
      have hg6c := (o5.out.block _ (Array.getElem?_eq_some_iff.1 hg6b.out).1 (by omega)).trans hg6b.out
      obtain ⟨fl, x9, cl9, _⟩ := h5.cell hn
      have r1 := cellC h5.s 1
      have v1 := cellC hg7b 1
      simp only [headD, List.getElem?_toArray, List.getElem?_cons_succ, List.getElem?_cons_zero] at r1 v1
      replace h5 := Lib.hid h5
      replace hg7b := Lib.hid hg7b
      replace hg6c := Lib.hid hg6c
      go_wp2_with fail
      go_region
      obtain ⟨p1, p2⟩ := h5.out.slot i (S.made : Int)
      have h6 := p1.below (Below.refl _ _).drew
      have o6 := o5.out.trans p2.drew (K := fun k => k = gs ∨ k = gl) (fun k _ e => .inl e) (fun k _ e => .inr e)
      have hg7c := (p2.drew.block _ (Array.getElem?_eq_some_iff.1 hg7b.out).1 (by omega)).trans hg7b.out
      have hg6d := (p2.drew.block _ (Array.getElem?_eq_some_iff.1 hg6c.out).1 (by omega)).trans hg6c.out
      generalize (World.setCell _ _ _).drew = w6 at *
      have r2 := cellC h6.s 2
      have fz2 := fzC h6.s 2
      simp only [headD, List.getElem?_toArray, List.getElem?_cons_succ, List.getElem?_cons_zero] at r2
      rw [e5.out] at r2
      obtain ⟨p3, p4⟩ := h6.mades (S.made + 1)
      rw [show ((S.made + 1 : Nat) : Int) = (S.made : Int) + 1 by omega] at p3 p4
      have o7 := o6.trans p4 (K := fun k => k = gs ∨ k = gl) (fun k _ e => e) (fun k _ e => .inl e)
      have hg7d := (p4.block _ (Array.getElem?_eq_some_iff.1 hg7c).1 (by omega)).trans hg7c
      have hg6e := (p4.block _ (Array.getElem?_eq_some_iff.1 hg6d).1 (by omega)).trans hg6d
      have z0 := cellC hg7d 0; have z1 := cellC hg7d 1
      have y0 := cellC hg6e 0; have y1 := cellC hg6e 1
      have g0 := fzC hg6e 0; have g1 := fzC hg6e 1
      simp only [List.getElem?_toArray, List.getElem?_cons_succ, List.getElem?_cons_zero] at z0 z1 y0 y1
      obtain ⟨s1, s2⟩ := stored2C hg6e (.string ⟨text.toArray⟩) (.int .i64 (S.made : Int))
      have h9 := Lib.hid (p3.keep s2 (fun k e => by rw [e]; exact hwb) (by omega) (by omega))
      have o9 := Lib.hid (o7.trans s2 (K := fun k => k = gs ∨ k = gl ∨ k = w.heap.size) (fun k _ e => e.elim .inl (fun e => .inr (.inl e))) (fun k _ e => .inr (.inr e)))
      replace s1 := Lib.hid s1
      clear p1 p2 p3 p4 o6 o7 hg7c hg6d hg7d hg6e s2 h6
      go_wp2_with fail
      refine bodyPost_ret (results_make rfl s1.out) rfl ⟨rfl, ?_, ?_⟩
      · have hM : makeD S i L text = ⟨(wrongD S i 111).l.set i (S.made : Int), S.made + 1, (wrongD S i 111).at_, (wrongD S i 111).e⟩ := by
          unfold makeD
          simp only [hf, Option.isSome_some, ↓reduceIte, h100]
        rw [hM]
        exact h9.out
      · exact ho2.out.trans o9.out (fun k _ e => e.elim) (fun k hk e => by
          rcases e with e | e | e
          · exact .inl e
          · exact .inr e
          · omega)
  | none =>
    have hfi : findI L text = -1 := by unfold findI; rw [hf]
    rw [hfi] at kF
    by_cases h100 : 100 ≤ S.made
    · have h100i : (100 : Int) ≤ (S.made : Int) := by omega
      go_wp2_with fail
      refine kF.out.mono ?_
      rintro e' w3 ⟨rfl, rfl⟩
      have h4 := h2.out
      have o4 := Only.refl (fun k => k = gs) w3
      have c2 := cellC h4.s 2
      simp only [headD, List.getElem?_toArray, List.getElem?_cons_succ, List.getElem?_cons_zero] at c2
      replace h4 := Lib.hid h4
      go_wp2_with fail
      refine (kW.out _ _ 2 h4.out).mono ?_
      rintro e' w5 ⟨rfl, h5, o5a⟩
      have e5 := Lib.hid (wrong_made S i 2)
      have o5 := Lib.hid (o4.trans o5a (fun _ _ h => h) (fun _ _ h => h))
      have hg7b := (o5.out.block _ (Array.getElem?_eq_some_iff.1 hg7.out).1 (by omega)).trans hg7.out
      have hg6c := (o5.out.block _ (Array.getElem?_eq_some_iff.1 hg6b.out).1 (by omega)).trans hg6b.out
      obtain ⟨fl, x9, cl9, _⟩ := h5.cell hn
      have r1 := cellC h5.s 1
      have v1 := cellC hg7b 1
      simp only [headD, List.getElem?_toArray, List.getElem?_cons_succ, List.getElem?_cons_zero] at r1 v1
      replace h5 := Lib.hid h5
      replace hg7b := Lib.hid hg7b
      replace hg6c := Lib.hid hg6c
      go_wp2_with fail
      go_region
      obtain ⟨p1, p2⟩ := h5.out.slot i (S.made : Int)
      have h6 := p1.below (Below.refl _ _).drew
      have o6 := o5.out.trans p2.drew (K := fun k => k = gs ∨ k = gl) (fun k _ e => .inl e) (fun k _ e => .inr e)
      have hg7c := (p2.drew.block _ (Array.getElem?_eq_some_iff.1 hg7b.out).1 (by omega)).trans hg7b.out
      have hg6d := (p2.drew.block _ (Array.getElem?_eq_some_iff.1 hg6c.out).1 (by omega)).trans hg6c.out
      generalize (World.setCell _ _ _).drew = w6 at *
      have r2 := cellC h6.s 2
      have fz2 := fzC h6.s 2
      simp only [headD, List.getElem?_toArray, List.getElem?_cons_succ, List.getElem?_cons_zero] at r2
      rw [e5.out] at r2
      obtain ⟨p3, p4⟩ := h6.mades (S.made + 1)
      rw [show ((S.made + 1 : Nat) : Int) = (S.made : Int) + 1 by omega] at p3 p4
      have o7 := o6.trans p4 (K := fun k => k = gs ∨ k = gl) (fun k _ e => e) (fun k _ e => .inl e)
      have hg7d := (p4.block _ (Array.getElem?_eq_some_iff.1 hg7c).1 (by omega)).trans hg7c
      have hg6e := (p4.block _ (Array.getElem?_eq_some_iff.1 hg6d).1 (by omega)).trans hg6d
      have z0 := cellC hg7d 0; have z1 := cellC hg7d 1
      have y0 := cellC hg6e 0; have y1 := cellC hg6e 1
      have g0 := fzC hg6e 0; have g1 := fzC hg6e 1
      simp only [List.getElem?_toArray, List.getElem?_cons_succ, List.getElem?_cons_zero] at z0 z1 y0 y1
      obtain ⟨s1, s2⟩ := stored2C hg6e (.string ⟨text.toArray⟩) (.int .i64 (S.made : Int))
      have h9 := Lib.hid (p3.keep s2 (fun k e => by rw [e]; exact hwb) (by omega) (by omega))
      have o9 := Lib.hid (o7.trans s2 (K := fun k => k = gs ∨ k = gl ∨ k = w.heap.size) (fun k _ e => e.elim .inl (fun e => .inr (.inl e))) (fun k _ e => .inr (.inr e)))
      replace s1 := Lib.hid s1
      clear p1 p2 p3 p4 o6 o7 hg7c hg6d hg7d hg6e s2 h6
      go_wp2_with fail
      refine bodyPost_ret (results_make rfl s1.out) rfl ⟨rfl, ?_, ?_⟩
      · have hM : makeD S i L text = ⟨(wrongD S i 2).l.set i (S.made : Int), S.made + 1, (wrongD S i 2).at_, (wrongD S i 2).e⟩ := by
          unfold makeD
          simp only [hf, Option.isSome_none, Bool.false_eq_true, ↓reduceIte, h100]
        rw [hM]
        exact h9.out
      · exact ho2.out.trans o9.out (fun k _ e => e.elim) (fun k hk e => by
          rcases e with e | e | e
          · exact .inl e
          · exact .inr e
          · omega)
    · have h100i : ¬ (100 : Int) ≤ (S.made : Int) := by omega
      go_wp2_with fail
      refine kF.out.mono ?_
      rintro e' w3 ⟨rfl, rfl⟩
      have h4 := h2.out
      have o4 := Only.refl (fun k => k = gs) w3
      have c2 := cellC h4.s 2
      simp only [headD, List.getElem?_toArray, List.getElem?_cons_succ, List.getElem?_cons_zero] at c2
      replace h4 := Lib.hid h4
      have h5 := h4.out
      have o5a := Only.refl (fun k => k = gs) w3

      have o5 := Lib.hid (o4.trans o5a (fun _ _ h => h) (fun _ _ h => h))
      have hg7b := (o5.out.block _ (Array.getElem?_eq_some_iff.1 hg7.out).1 (by omega)).trans hg7.out
      have hg6c := (o5.out.block _ (Array.getElem?_eq_some_iff.1 hg6b.out).1 (by omega)).trans hg6b.out
      obtain ⟨fl, x9, cl9, _⟩ := h5.cell hn
      have r1 := cellC h5.s 1
      have v1 := cellC hg7b 1
      simp only [headD, List.getElem?_toArray, List.getElem?_cons_succ, List.getElem?_cons_zero] at r1 v1
      replace h5 := Lib.hid h5
      replace hg7b := Lib.hid hg7b
      replace hg6c := Lib.hid hg6c
      go_wp2_with fail
      go_region
      obtain ⟨p1, p2⟩ := h5.out.slot i (S.made : Int)
      have h6 := p1.below (Below.refl _ _).drew
      have o6 := o5.out.trans p2.drew (K := fun k => k = gs ∨ k = gl) (fun k _ e => .inl e) (fun k _ e => .inr e)
      have hg7c := (p2.drew.block _ (Array.getElem?_eq_some_iff.1 hg7b.out).1 (by omega)).trans hg7b.out
      have hg6d := (p2.drew.block _ (Array.getElem?_eq_some_iff.1 hg6c.out).1 (by omega)).trans hg6c.out
      generalize (World.setCell _ _ _).drew = w6 at *
      have r2 := cellC h6.s 2
      have fz2 := fzC h6.s 2
      simp only [headD, List.getElem?_toArray, List.getElem?_cons_succ, List.getElem?_cons_zero] at r2
      obtain ⟨p3, p4⟩ := h6.mades (S.made + 1)
      rw [show ((S.made + 1 : Nat) : Int) = (S.made : Int) + 1 by omega] at p3 p4
      have o7 := o6.trans p4 (K := fun k => k = gs ∨ k = gl) (fun k _ e => e) (fun k _ e => .inl e)
      have hg7d := (p4.block _ (Array.getElem?_eq_some_iff.1 hg7c).1 (by omega)).trans hg7c
      have hg6e := (p4.block _ (Array.getElem?_eq_some_iff.1 hg6d).1 (by omega)).trans hg6d
      have z0 := cellC hg7d 0; have z1 := cellC hg7d 1
      have y0 := cellC hg6e 0; have y1 := cellC hg6e 1
      have g0 := fzC hg6e 0; have g1 := fzC hg6e 1
      simp only [List.getElem?_toArray, List.getElem?_cons_succ, List.getElem?_cons_zero] at z0 z1 y0 y1
      obtain ⟨s1, s2⟩ := stored2C hg6e (.string ⟨text.toArray⟩) (.int .i64 (S.made : Int))
      have h9 := Lib.hid (p3.keep s2 (fun k e => by rw [e]; exact hwb) (by omega) (by omega))
      have o9 := Lib.hid (o7.trans s2 (K := fun k => k = gs ∨ k = gl ∨ k = w.heap.size) (fun k _ e => e.elim .inl (fun e => .inr (.inl e))) (fun k _ e => .inr (.inr e)))
      replace s1 := Lib.hid s1
      clear p1 p2 p3 p4 o6 o7 hg7c hg6d hg7d hg6e s2 h6
      go_wp2_with fail
      refine bodyPost_ret (results_make rfl s1.out) rfl ⟨rfl, ?_, ?_⟩
      · have hM : makeD S i L text = ⟨S.l.set i (S.made : Int), S.made + 1, S.at_, S.e⟩ := by
          unfold makeD
          simp only [hf, Option.isSome_none, Bool.false_eq_true, ↓reduceIte, h100]
        rw [hM]
        exact h9.out
      · exact ho2.out.trans o9.out (fun k _ e => e.elim) (fun k hk e => by
          rcases e with e | e | e
          · exact .inl e
          · exact .inr e
          · omega)
end Go.Proofs.Ytnghfjlmmmjekaa
