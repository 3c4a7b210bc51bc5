/- A part of the proof: GFit, GRight. No condition. -/
import Derived.Test.YtefijbpbenmbgaaDoorQ12
set_option linter.unusedVariables false
set_option linter.unusedSimpArgs false
namespace Go.Proofs.YtefijbpbenmbgaaDoor
open Go.RowKit Go.Shelf
def GDep (p : Nat) (c : List Ins) (e : Int) (n : Nat) (D : Nat → Int) : Prop := D p = e ∧ D (p + c.length) = e + n ∧ (∀ q, 0 ≤ D q) ∧ GSeg p (p + c.length) p c D
def glue (m : Nat) (D1 D2 : Nat → Int) : Nat → Int := fun q => if q ≤ m then D1 q else D2 q
theorem glue_le {m q : Nat} {D1 D2 : Nat → Int} (h : q ≤ m) : glue m D1 D2 q = D1 q := if_pos h
theorem glue_gt {m q : Nat} {D1 D2 : Nat → Int} (h : m < q) : glue m D1 D2 q = D2 q := if_neg (by omega)
theorem glue_pos {m q : Nat} {D1 D2 : Nat → Int} (h1 : ∀ q, 0 ≤ D1 q) (h2 : ∀ q, 0 ≤ D2 q) : 0 ≤ glue m D1 D2 q := by
 unfold glue;split
 · exact h1 q
 · exact h2 q
theorem gdep_snoc {p : Nat} {c : List Ins} {e : Int} {n m : Nat} {D : Nat → Int} {x : Ins} (h : GDep p c e n D) (ht : takesI x ≤ e + n) (he : endsI x.op = true → takesI x = e + n) (ha : akI x.op ≠ 1) (_hx : x.op ≠ 1) (hm : endsI x.op = false → nextI x (e + n) = e + m) (h0 : 0 ≤ e) :
   GDep p (c ++ [x]) e m (glue (p + c.length) D (fun _ => e + m)) := by
 obtain ⟨h1, h2, h3, h4⟩ := h;have e1 : glue (p + c.length) D (fun _ => e + (m : Int)) (p + c.length) = e + n := by rw [glue_le (Nat.le_refl _), h2]
 have e2 : glue (p + c.length) D (fun _ => e + (m : Int)) (p + c.length + 1) = e + m := by rw [glue_gt (by omega)]
 refine ⟨?_, ?_, fun q => glue_pos h3 (fun _ => by omega), ?_⟩
 · rw [glue_le (by omega)]; exact h1
 · rw [glue_gt (by simp)]
 · refine (h4.congr (Nat.le_refl _) (by simp) (fun r _ hr => glue_le hr)).app (GSeg.cons ?_ GSeg.nil)
   exact ⟨by rw [e1]; exact ht, fun hh => by rw [e1]; exact (he hh).symm, fun _ hh => absurd hh ha, fun hh _ => by rw [e1, e2]; exact (hm hh).symm⟩
theorem takes_mk {op : Nat} {a : Int} (h : akI op ≠ 3) : takesI (mkI op a) = takesR op := by
 unfold takesI mkI;dsimp only;rw [if_neg h]
theorem gens_fit {F : Fs} {p : Nat} {c : List Ins} (h : Gens F p c) : ∀ e : Int, 0 ≤ e → F.ok → (F.allE ∨ (F.noE ∧ e = 0)) → ∃ D : Nat → Int, GDep p c e F.net D := by
 have noExpr : ∀ {x : Tw} {k : Fs} {e : Int}, exprB x.op = false → ((Fs.cons x k .nil).allE ∨ ((Fs.cons x k .nil).noE ∧ e = 0)) → e = 0 := by
   intro x k e hx h;rcases h with h | h
   · rw [h.1] at hx; cases hx
   · exact h.2
 induction h with
 | nil p => intro e h0 _ _; exact ⟨fun _ => e, rfl, by simp [Fs.net], fun _ => h0, GSeg.nil⟩
 | @seq x k r p c d h1 h2 i1 i2 =>
   intro e h0 hok hm;obtain ⟨D1, a1, a2, a3, a4⟩ := i1 e h0 (one_ok hok) (by
     rcases hm with hm | hm
     · exact .inl ⟨hm.1, trivial⟩
     · exact .inr ⟨⟨hm.1.1, trivial⟩, hm.2⟩)
   have hn1 : (Fs.cons x k r).net = (Fs.cons x k .nil).net + r.net := by
     show _ + r.net = (_ + 0) + r.net
     omega
   obtain ⟨D2, b1, b2, b3, b4⟩ := i2 (e + (Fs.cons x k .nil).net) (by omega) hok.2.2.2 (by
     rcases hm with hm | hm
     · exact .inl hm.2
     · refine .inr ⟨hm.1.2, ?_⟩
       rw [net_s hm.1.1, hm.2]; rfl)
   refine ⟨glue (p + c.length) D1 D2, ?_, ?_, fun q => glue_pos a3 b3, ?_⟩
   · rw [glue_le (by omega)]; exact a1
   · rw [hn1, List.length_append]
     rcases Nat.eq_zero_or_pos d.length with e0 | e0
     · rw [e0] at b2 ⊢
       rw [glue_le (by omega), Nat.add_zero, a2];rw [Nat.add_zero, b1] at b2;omega
     · rw [glue_gt (by omega), ← Nat.add_assoc, b2]; omega
   · refine (a4.congr (Nat.le_refl _) (by simp) (fun r _ hr => glue_le hr)).app (b4.congr (by omega) (by simp; omega) (fun r hr1 hr2 => ?_))
     rcases Nat.lt_or_ge (p + c.length) r with hr | hr
     · exact glue_gt hr
     · have : r = p + c.length := by omega
       subst this;rw [glue_le (Nat.le_refl _), a2, b1]
 | @flow x k p c hx h1 i1 =>
   intro e h0 hok hm;have hex : exprB x.op = false := by rw [hx]; rfl
   have he := noExpr hex hm;subst he;have hk := (part_of hok).2.1 (.inl hx);obtain ⟨D, hD⟩ := i1 0 h0 hok.2.2.1 (.inr ⟨hk, rfl⟩);rw [net_s hex];rw [net_no k hk] at hD;exact ⟨_, gdep_snoc (x := mkI 28 0) hD (by decide) (fun _ => by decide) (by decide) (by decide) (fun h => absurd h (by decide)) h0⟩
 | @block x k p c hx h1 i1 =>
   intro e h0 hok hm;have hex : exprB x.op = false := by rcases hx with hx | hx <;> rw [hx] <;> rfl
   have he := noExpr hex hm;subst he;have hk : k.noE := by
     rcases hx with hx | hx
     · rw [(part_of hok).2.2.1 hx]; trivial
     · exact (part_of hok).2.1 (.inr hx)
   obtain ⟨D, hD⟩ := i1 0 h0 hok.2.2.1 (.inr ⟨hk, rfl⟩);rw [net_s hex];rw [net_no k hk] at hD;exact ⟨D, hD⟩
 | @store x k p c s hx s0 s1 h1 i1 =>
   intro e h0 hok hm;have hex : exprB x.op = false := by rcases hx with hx | hx <;> rw [hx] <;> rfl
   have he := noExpr hex hm;subst he;have hk := (part_of hok).1 (by omega);have hc : k.count = 1 := by
     have hs := shape_of hok;cases hs with
     | store _ => rfl
     | lone hl => have := lone_facts hl; omega
     | flow hl => omega
     | block hl => omega
     | load hl => omega
     | if2 hl _ => omega
     | if3 hl _ => omega
     | loop hl => omega
     | either hl => omega
     | fork hl => omega
   obtain ⟨D, hD⟩ := i1 0 h0 hok.2.2.1 (.inl hk);rw [net_s hex];rw [net_all k hk, hc] at hD;exact ⟨_, gdep_snoc (x := mkI 27 s) hD (by rw [takes_mk (by decide)]; decide) (fun h => absurd (show endsI 27 = true from h) (by decide)) (by show akI 27 ≠ 1; decide) (by show (27 : Nat) ≠ 1; decide) (fun _ => by unfold nextI; rw [takes_mk (by decide)]; show (0 : Int) + ((1 : Nat) : Int) - ((takesR 27 : Nat) : Int) + ((leaveR 27 : Nat) : Int) = 0 + ((0 : Nat) : Int); decide) h0⟩
 | @load x p s hx s0 s1 =>
   intro e h0 hok hm;have hex : exprB x.op = true := by rw [hx]; rfl
   rw [net_e hex];have hD : GDep p [] e 0 (fun _ => e) := ⟨rfl, by simp, fun _ => h0, GSeg.nil⟩;have := gdep_snoc (x := mkI 26 s) (m := 1) hD (by rw [takes_mk (by decide)]; show ((takesR 26 : Nat) : Int) ≤ _; simp [takesR]; omega) (fun h => absurd (show endsI 26 = true from h) (by decide)) (by show akI 26 ≠ 1; decide) (by show (26 : Nat) ≠ 1; decide) (fun _ => by unfold nextI; rw [takes_mk (by decide)]; show e + ((0 : Nat) : Int) - ((takesR 26 : Nat) : Int) + ((leaveR 26 : Nat) : Int) = _; simp [takesR, leaveR]) h0;exact ⟨_, this⟩
 | @lone x k p c hx h1 i1 =>
   intro e h0 hok hm;obtain ⟨ht, hk⟩ := lone_takes hok hx;obtain ⟨⟨kd, hkd, ha, _⟩, _⟩ := id hok;obtain ⟨_, _, hl, k1, o1, _, _, _, hen, _⟩ := lone_kind hkd hx;obtain ⟨D, hD⟩ := i1 e h0 hok.2.2.1 (.inl hk);rw [net_all k hk] at hD;have hop : (loneI x).op = opI x.op := rfl;refine ⟨_, gdep_snoc (x := loneI x) (m := (Fs.cons x k .nil).net) hD (by rw [ht]; omega) (fun hh => ?_) (by rw [hop]; exact k1) (by rw [hop]; exact o1) (fun hh => ?_) h0⟩
   · rw [hop] at hh
     have he := noExpr (hen hh) hm;rw [ht, he]; omega
   · unfold nextI
     rw [ht, hop, hl];have : (Fs.cons x k .nil).net = if exprB x.op = true then 1 else 0 := rfl;rw [this];omega
 | @if2 x a ka b kb p c d hx h1 h2 i1 i2 =>
   intro e h0 hok hm;have hex : exprB x.op = false := by rw [hx]; rfl
   have he := noExpr hex hm;subst he;have hp := (part_of hok).2.2.2.1 (.inl hx);have ha := part4_0 hp;have hb : exprB b.op = false := by rw [part4_S hp.2]; rfl
   obtain ⟨D1, a1, a2, a3, a4⟩ := i1 0 h0 (one_ok hok.2.2.1) (.inl ⟨ha, trivial⟩);obtain ⟨D2, b1, b2, b3, b4⟩ := i2 0 h0 (one_ok hok.2.2.1.2.2.2) (.inr ⟨⟨hb, trivial⟩, rfl⟩);rw [net_e ha] at a2;rw [net_s hb] at b2;rw [net_s hex];have g1 : glue (p + c.length) D1 D2 (p + c.length) = 1 := by rw [glue_le (Nat.le_refl _), a2]; rfl
   have g2 : glue (p + c.length) D1 D2 (p + c.length + 1) = 0 := by rw [glue_gt (by omega), b1]
   have g3 : glue (p + c.length) D1 D2 (p + c.length + 1 + d.length) = 0 := by rw [glue_gt (by omega), b2]; rfl
   have hlen : p + (c ++ mkI 2 ((p + c.length + 1 + d.length : Nat) : Int) :: d).length = p + c.length + 1 + d.length := by simp only [List.length_append, List.length_cons]; omega
   refine ⟨glue (p + c.length) D1 D2, ?_, ?_, fun q => glue_pos a3 b3, ?_⟩
   · rw [glue_le (by omega)]; exact a1
   · rw [hlen, g3]; rfl
   · rw [hlen]
     refine (a4.congr (Nat.le_refl _) (by omega) (fun r _ hr => glue_le hr)).app (GSeg.cons ?_ (b4.congr (by omega) (Nat.le_refl _) (fun r hr _ => glue_gt (by omega))));refine ⟨by rw [g1]; simp [takesI, mkI, takesR, akI], fun h => absurd (show endsI 2 = true from h) (by decide), fun _ _ => ⟨_, rfl, by omega, by omega, ?_⟩, fun _ _ => ?_⟩
     · rw [g3, g1]; simp [thereI, nextI, takesI, mkI, takesR, leaveR, akI]
     · rw [g2, g1]; simp [nextI, takesI, mkI, takesR, leaveR, akI]
 | @if3 x a ka b kb f kf p c d g hx h1 h2 h3 i1 i2 i3 =>
   intro e h0 hok hm;have hex : exprB x.op = false := by rw [hx]; rfl
   have he := noExpr hex hm;subst he;have hp := (part_of hok).2.2.2.1 (.inl hx);have ha := part4_0 hp;have hb : exprB b.op = false := by rw [part4_S hp.2]; rfl
   have hf : exprB f.op = false := by rw [part4_S hp.2.2]; rfl
   obtain ⟨D1, a1, a2, a3, a4⟩ := i1 0 h0 (one_ok hok.2.2.1) (.inl ⟨ha, trivial⟩);obtain ⟨D2, b1, b2, b3, b4⟩ := i2 0 h0 (one_ok hok.2.2.1.2.2.2) (.inr ⟨⟨hb, trivial⟩, rfl⟩);obtain ⟨D3, c1, c2, c3, c4⟩ := i3 0 h0 (one_ok hok.2.2.1.2.2.2.2.2.2) (.inr ⟨⟨hf, trivial⟩, rfl⟩);rw [net_e ha] at a2;rw [net_s hb] at b2;rw [net_s hf] at c2;rw [net_s hex];obtain ⟨m1, hm1⟩ : ∃ m, m = p + c.length := ⟨_, rfl⟩;obtain ⟨m2, hm2⟩ : ∃ m, m = p + c.length + 1 + d.length := ⟨_, rfl⟩;have g1 : glue m1 D1 (glue m2 D2 D3) (p + c.length) = 1 := by rw [glue_le (by omega), a2]; rfl
   have g2 : glue m1 D1 (glue m2 D2 D3) (p + c.length + 1) = 0 := by rw [glue_gt (by omega), glue_le (by omega), b1]
   have g3 : glue m1 D1 (glue m2 D2 D3) (p + c.length + 1 + d.length) = 0 := by rw [glue_gt (by omega), glue_le (by omega), b2]; rfl
   have g4 : glue m1 D1 (glue m2 D2 D3) (p + c.length + 1 + d.length + 1) = 0 := by rw [glue_gt (by omega), glue_gt (by omega), c1]
   have g5 : glue m1 D1 (glue m2 D2 D3) (p + c.length + 1 + d.length + 1 + g.length) = 0 := by rw [glue_gt (by omega), glue_gt (by omega), c2]; rfl
   have hlen : p + (c ++ mkI 2 ((p + c.length + 1 + d.length + 1 : Nat) : Int) :: (d ++ mkI 1 ((p + c.length + 1 + d.length + 1 + g.length : Nat) : Int) :: g)).length = p + c.length + 1 + d.length + 1 + g.length := by simp only [List.length_append, List.length_cons]; omega
   refine ⟨glue m1 D1 (glue m2 D2 D3), ?_, ?_, fun q => glue_pos a3 (fun q => glue_pos b3 c3), ?_⟩
   · rw [glue_le (by omega)]; exact a1
   · rw [hlen, g5]; rfl
   · rw [hlen]
     refine (a4.congr (Nat.le_refl _) (by omega) (fun r _ hr => glue_le (by omega))).app (GSeg.cons ?_ ((b4.congr (by omega) (by omega) (fun r hr hr2 => by rw [glue_gt (by omega), glue_le (by omega)])).app (GSeg.cons ?_ (c4.congr (by omega) (Nat.le_refl _) (fun r hr hr2 => by rw [glue_gt (by omega), glue_gt (by omega)])))))
     · refine ⟨by rw [g1]; simp [takesI, mkI, takesR, akI], fun h => absurd (show endsI 2 = true from h) (by decide), fun _ _ => ⟨_, rfl, by omega, by omega, ?_⟩, fun _ _ => ?_⟩
       · rw [g4, g1]; simp [thereI, nextI, takesI, mkI, takesR, leaveR, akI]
       · rw [g2, g1]; simp [nextI, takesI, mkI, takesR, leaveR, akI]
     · refine ⟨by rw [g3]; simp [takesI, mkI, takesR, akI], fun h => absurd (show endsI 1 = true from h) (by decide), fun _ _ => ⟨_, rfl, by omega, by omega, ?_⟩, fun _ h => absurd rfl h⟩
       rw [g5, g3]; simp [thereI, nextI, takesI, mkI, takesR, leaveR, akI]
 | @loop x a ka b kb p c d hx h1 h2 i1 i2 =>
   intro e h0 hok hm;have hex : exprB x.op = false := by rw [hx]; rfl
   have he := noExpr hex hm;subst he;have hp := (part_of hok).2.2.2.1 (.inr hx);have ha := part4_0 hp;have hb : exprB b.op = false := by rw [part4_S hp.2]; rfl
   obtain ⟨D1, a1, a2, a3, a4⟩ := i1 0 h0 (one_ok hok.2.2.1) (.inl ⟨ha, trivial⟩);obtain ⟨D2, b1, b2, b3, b4⟩ := i2 0 h0 (one_ok hok.2.2.1.2.2.2) (.inr ⟨⟨hb, trivial⟩, rfl⟩);rw [net_e ha] at a2;rw [net_s hb] at b2;rw [net_s hex];obtain ⟨m1, hm1⟩ : ∃ m, m = p + c.length := ⟨_, rfl⟩;obtain ⟨m2, hm2⟩ : ∃ m, m = p + c.length + 1 + d.length := ⟨_, rfl⟩;have g0 : glue m1 D1 (glue m2 D2 (fun _ => 0)) p = 0 := by rw [glue_le (by omega), a1]
   have g1 : glue m1 D1 (glue m2 D2 (fun _ => 0)) (p + c.length) = 1 := by rw [glue_le (by omega), a2]; rfl
   have g2 : glue m1 D1 (glue m2 D2 (fun _ => 0)) (p + c.length + 1) = 0 := by rw [glue_gt (by omega), glue_le (by omega), b1]
   have g3 : glue m1 D1 (glue m2 D2 (fun _ => 0)) (p + c.length + 1 + d.length) = 0 := by rw [glue_gt (by omega), glue_le (by omega), b2]; rfl
   have g4 : glue m1 D1 (glue m2 D2 (fun _ => 0)) (p + c.length + 1 + d.length + 1) = 0 := by rw [glue_gt (by omega), glue_gt (by omega)]
   have hlen : p + (c ++ mkI 2 ((p + c.length + 1 + d.length + 1 : Nat) : Int) :: (d ++ [mkI 1 (p : Int)])).length = p + c.length + 1 + d.length + 1 := by simp only [List.length_append, List.length_cons, List.length_nil]; omega
   refine ⟨glue m1 D1 (glue m2 D2 (fun _ => 0)), g0, ?_, fun q => glue_pos a3 (fun q => glue_pos b3 (fun _ => Int.le_refl _)), ?_⟩
   · rw [hlen, g4]; rfl
   · rw [hlen]
     refine (a4.congr (Nat.le_refl _) (by omega) (fun r _ hr => glue_le (by omega))).app (GSeg.cons ?_ ((b4.congr (by omega) (by omega) (fun r hr hr2 => by rw [glue_gt (by omega), glue_le (by omega)])).app (GSeg.cons ?_ GSeg.nil)))
     · refine ⟨by rw [g1]; simp [takesI, mkI, takesR, akI], fun h => absurd (show endsI 2 = true from h) (by decide), fun _ _ => ⟨_, rfl, by omega, by omega, ?_⟩, fun _ _ => ?_⟩
       · rw [g4, g1]; simp [thereI, nextI, takesI, mkI, takesR, leaveR, akI]
       · rw [g2, g1]; simp [nextI, takesI, mkI, takesR, leaveR, akI]
     · refine ⟨by rw [g3]; simp [takesI, mkI, takesR, akI], fun h => absurd (show endsI 1 = true from h) (by decide), fun _ _ => ⟨p, rfl, by omega, by omega, ?_⟩, fun _ h => absurd rfl h⟩
       rw [g0, g3]; simp [thereI, nextI, takesI, mkI, takesR, leaveR, akI]
 | @either x a ka b kb p c d hx h1 h2 i1 i2 =>
   intro e h0 hok hm;have hex : exprB x.op = true := by rcases hx with hx | hx <;> rw [hx] <;> rfl
   have hp := (part_of hok).1 (by omega);obtain ⟨ha, hb, _⟩ := hp;obtain ⟨D1, a1, a2, a3, a4⟩ := i1 e h0 (one_ok hok.2.2.1) (.inl ⟨ha, trivial⟩);obtain ⟨D2, b1, b2, b3, b4⟩ := i2 e h0 (one_ok hok.2.2.1.2.2.2) (.inl ⟨hb, trivial⟩);rw [net_e ha] at a2;rw [net_e hb] at b2;rw [net_e hex];obtain ⟨m1, hm1⟩ : ∃ m, m = p + c.length := ⟨_, rfl⟩;obtain ⟨m2, hm2⟩ : ∃ m, m = p + c.length + 1 + d.length := ⟨_, rfl⟩;have g0 : glue m1 D1 (glue m2 D2 (fun _ => e + 1)) p = e := by rw [glue_le (by omega), a1]
   have g1 : glue m1 D1 (glue m2 D2 (fun _ => e + 1)) (p + c.length) = e + 1 := by rw [glue_le (by omega), a2]; rfl
   have g2 : glue m1 D1 (glue m2 D2 (fun _ => e + 1)) (p + c.length + 1) = e := by rw [glue_gt (by omega), glue_le (by omega), b1]
   have g3 : glue m1 D1 (glue m2 D2 (fun _ => e + 1)) (p + c.length + 1 + d.length) = e + 1 := by rw [glue_gt (by omega), glue_le (by omega), b2]; rfl
   have g4 : glue m1 D1 (glue m2 D2 (fun _ => e + 1)) (p + c.length + 1 + d.length + 1) = e + 1 := by rw [glue_gt (by omega), glue_gt (by omega)]
   have hlen : p + (c ++ mkI (x.op - 27) ((p + c.length + 1 + d.length + 1 : Nat) : Int) :: (d ++ [mkI 5 0])).length = p + c.length + 1 + d.length + 1 := by simp only [List.length_append, List.length_cons, List.length_nil]; omega
   have hop : x.op - 27 = 3 ∨ x.op - 27 = 4 := by omega
   refine ⟨glue m1 D1 (glue m2 D2 (fun _ => e + 1)), g0, ?_, fun q => glue_pos a3 (fun q => glue_pos b3 (fun _ => by omega)), ?_⟩
   · rw [hlen, g4]; rfl
   · rw [hlen]
     refine (a4.congr (Nat.le_refl _) (by omega) (fun r _ hr => glue_le (by omega))).app (GSeg.cons ?_ ((b4.congr (by omega) (by omega) (fun r hr hr2 => by rw [glue_gt (by omega), glue_le (by omega)])).app (GSeg.cons ?_ GSeg.nil)))
     · generalize x.op - 27 = o at hop
       rcases hop with rfl | rfl
       · refine ⟨by rw [g1]; simp [takesI, mkI, takesR, akI]; omega, fun h => absurd (show endsI 3 = true from h) (by decide), fun _ _ => ⟨_, rfl, by omega, by omega, ?_⟩, fun _ _ => ?_⟩
         · rw [g4, g1]; simp [thereI, mkI]
         · rw [g2, g1]; simp [nextI, takesI, mkI, takesR, leaveR, akI]
       · refine ⟨by rw [g1]; simp [takesI, mkI, takesR, akI]; omega, fun h => absurd (show endsI 4 = true from h) (by decide), fun _ _ => ⟨_, rfl, by omega, by omega, ?_⟩, fun _ _ => ?_⟩
         · rw [g4, g1]; simp [thereI, mkI]
         · rw [g2, g1]; simp [nextI, takesI, mkI, takesR, leaveR, akI]
     · refine ⟨by rw [g3]; simp [takesI, mkI, takesR, akI]; omega, fun h => absurd (show endsI 5 = true from h) (by decide), fun _ h => absurd (show akI 5 = 1 from h) (by decide), fun _ _ => ?_⟩
       rw [g4, g3]; simp [nextI, takesI, mkI, takesR, leaveR, akI]
 | @fork x a ka p c hx h1 i1 =>
   intro e h0 hok hm;have hex : exprB x.op = true := by rw [hx]; rfl
   have hp := (part_of hok).2.2.2.2 hx;have hb : exprB a.op = false := by rw [part5_0 hp]; rfl
   obtain ⟨D1, a1, a2, a3, a4⟩ := i1 0 (Int.le_refl _) (one_ok hok.2.2.1) (.inr ⟨⟨hb, trivial⟩, rfl⟩);rw [net_s hb] at a2;rw [net_e hex];obtain ⟨m1, hm1⟩ : ∃ m, m = p + 2 + c.length := ⟨_, rfl⟩;have g0 : glue p (fun _ => e) (glue (p + 1) (fun _ => e + 1) (glue m1 D1 (fun _ => e + 1))) p = e := glue_le (Nat.le_refl _);have g1 : glue p (fun _ => e) (glue (p + 1) (fun _ => e + 1) (glue m1 D1 (fun _ => e + 1))) (p + 1) = e + 1 := by rw [glue_gt (by omega), glue_le (Nat.le_refl _)]
   have g2 : glue p (fun _ => e) (glue (p + 1) (fun _ => e + 1) (glue m1 D1 (fun _ => e + 1))) (p + 2) = 0 := by rw [glue_gt (by omega), glue_gt (by omega), glue_le (by omega), a1]
   have g3 : glue p (fun _ => e) (glue (p + 1) (fun _ => e + 1) (glue m1 D1 (fun _ => e + 1))) (p + 2 + c.length) = 0 := by rw [glue_gt (by omega), glue_gt (by omega), glue_le (by omega), a2]; rfl
   have g4 : glue p (fun _ => e) (glue (p + 1) (fun _ => e + 1) (glue m1 D1 (fun _ => e + 1))) (p + 2 + c.length + 1) = e + 1 := by rw [glue_gt (by omega), glue_gt (by omega), glue_gt (by omega)]
   have hlen : p + (mkI 53 ((p + 2 : Nat) : Int) :: mkI 1 ((p + 2 + c.length + 1 : Nat) : Int) :: (c ++ [mkI 28 0])).length = p + 2 + c.length + 1 := by simp only [List.length_append, List.length_cons, List.length_nil]; omega
   refine ⟨_, g0, ?_, fun q => glue_pos (fun _ => h0) (fun q => glue_pos (fun _ => by omega) (fun q => glue_pos a3 (fun _ => by omega))), ?_⟩
   · rw [hlen, g4]; rfl
   · rw [hlen]
     refine GSeg.cons ?_ (GSeg.cons ?_ ((a4.congr (by omega) (by omega) (fun r hr hr2 => by rw [glue_gt (by omega), glue_gt (by omega), glue_le (by omega)])).app (GSeg.cons ?_ GSeg.nil)))
     · refine ⟨by rw [g0]; simp [takesI, mkI, takesR, akI]; omega, fun h => absurd (show endsI 53 = true from h) (by decide), fun _ _ => ⟨_, rfl, by omega, by omega, ?_⟩, fun _ _ => ?_⟩
       · rw [g2, g0]; simp [thereI, mkI]
       · rw [g1, g0]; simp [nextI, takesI, mkI, takesR, leaveR, akI]
     · refine ⟨by rw [g1]; simp [takesI, mkI, takesR, akI]; omega, fun h => absurd (show endsI 1 = true from h) (by decide), fun _ _ => ⟨_, rfl, by omega, by omega, ?_⟩, fun _ h => absurd rfl h⟩
       rw [g4, g1]; simp [thereI, nextI, takesI, mkI, takesR, leaveR, akI]
     · refine ⟨by rw [g3]; simp [takesI, mkI, takesR, akI], fun _ => by rw [g3]; simp [takesI, mkI, takesR, akI], fun h => absurd (show endsI 28 = false from h) (by decide), fun h => absurd (show endsI 28 = false from h) (by decide)⟩
end Go.Proofs.YtefijbpbenmbgaaDoor
namespace Go.Proofs.YtefijbpbenmbgaaDoor
open Go.RowKit Go.Shelf
structure GOK (i : Ins) : Prop where
 word : wordI i.op ≠ []
 a : akI i.op = 1 ∨ aOK (akI i.op) 0 i.a = true
 num : i.num = 0 ∨ i.op = 23
 text : txOK i.op i.text = true
 len : i.text.length ≤ 9223372036854775807
 n64 : I64 i.num
 op : i.op < 256
theorem gok_mk {op : Nat} {a : Int} (h1 : wordI op ≠ []) (h2 : akI op = 1 ∨ aOK (akI op) 0 a = true) (h3 : txOK op [] = true) (h4 : op < 256) : GOK (mkI op a) :=
 ⟨h1, h2, .inl rfl, h3, by show ([] : List UInt8).length ≤ 9223372036854775807; decide, ⟨by show (-9223372036854775808 : Int) ≤ 0; decide, by show (0 : Int) ≤ 9223372036854775807; decide⟩, h4⟩
theorem own_name {s : List UInt8} (h : ownL s = true) : nameL s = true := by
 unfold ownL at h;simp only [Bool.and_eq_true] at h;exact h.1
theorem gok_lone {x : Tw} {k : Fs} (h : (Fs.cons x k .nil).ok) (hl : x.op ∈ loneOps) (hf : FitT x) : GOK (loneI x) := by
 obtain ⟨⟨kd, hk, ha, _⟩, _, _, _⟩ := h;obtain ⟨_, h2, _, _, _, _, _, _, _, hw, hm, ht, h23, h3⟩ := lone_kind hk hl;have hr := kids_range ha;have hlt := (lone_facts hl).1;unfold allowsB at ha;simp only [Bool.and_eq_true, Bool.or_eq_true, beq_iff_eq, decide_eq_true_eq] at ha;refine ⟨hw, .inr ?_, ?_, ?_, hf.1, hf.2.2.1, ?_⟩
 · by_cases c : x.op = 25 ∨ x.op = 50 ∨ x.op = 51
   · show aOK (akI (opI x.op)) 0 (if x.op = 25 ∨ x.op = 50 ∨ x.op = 51 then x.kids else 0) = true
     rw [h3 c, if_pos c];simp only [aOK, show ¬ (3 : Nat) = 1 by omega, show ¬ (3 : Nat) = 2 by omega, ↓reduceIte, decide_eq_true_eq];omega
   · show aOK (akI (opI x.op)) 0 (if x.op = 25 ∨ x.op = 50 ∨ x.op = 51 then x.kids else 0) = true
     rw [(h2 (by omega) (by omega) (by omega)).2.2, if_neg c];rfl
 · rcases ha.1.1.1 with e | e
   · exact .inl e
   · exact .inr (h23 (by omega))
 · show txOK (opI x.op) x.text = true
   have htx := ha.2;unfold txOK;unfold textOK at htx;rcases ht with ⟨e, a, b⟩ | ⟨e, a, b⟩ | ⟨e, b⟩
   · rw [e, if_pos rfl] at htx
     rw [if_neg b, a];simp only [Bool.false_eq_true, ↓reduceIte, decide_eq_true_eq]
     simpa using htx
   · rw [e, if_neg (by decide), if_pos rfl] at htx
     rw [if_neg b, a, if_pos rfl];exact own_name htx
   · rw [e, if_neg (by decide), if_neg (by decide)] at htx
     rw [if_pos b];exact htx
 · show opI x.op < 256
   unfold opI;split <;> omega
theorem gens_gok {F : Fs} {p : Nat} {c : List Ins} (h : Gens F p c) : F.ok → (∀ x ∈ F.flat, FitT x) → ∀ i ∈ c, GOK i := by
 have one : ∀ {x : Tw} {k r : Fs}, (∀ y ∈ (Fs.cons x k r).flat, FitT y) → FitT x ∧ (∀ y ∈ k.flat, FitT y) ∧ (∀ y ∈ r.flat, FitT y) := by
   intro x k r h;refine ⟨h x (List.mem_cons_self ..), fun y hy => h y ?_, fun y hy => h y ?_⟩
   · exact List.mem_cons_of_mem _ (List.mem_append_left _ hy)
   · exact List.mem_cons_of_mem _ (List.mem_append_right _ hy)
 have solo : ∀ {x : Tw} {k r : Fs}, (∀ y ∈ (Fs.cons x k r).flat, FitT y) → ∀ y ∈ (Fs.cons x k .nil).flat, FitT y := by
   intro x k r h y hy;rw [flat_one] at hy;refine h y ?_;show y ∈ x :: (k.flat ++ r.flat)
   simp only [List.mem_cons, List.mem_append] at hy ⊢;rcases hy with hy | hy
   · exact .inl hy
   · exact .inr (.inl hy)
 have j1 : ∀ a, GOK (mkI 1 a) := fun a => gok_mk (by decide) (.inl rfl) rfl (by decide);have j2 : ∀ a, GOK (mkI 2 a) := fun a => gok_mk (by decide) (.inl rfl) rfl (by decide);have j3 : ∀ a, GOK (mkI 3 a) := fun a => gok_mk (by decide) (.inl rfl) rfl (by decide);have j4 : ∀ a, GOK (mkI 4 a) := fun a => gok_mk (by decide) (.inl rfl) rfl (by decide);have j53 : ∀ a, GOK (mkI 53 a) := fun a => gok_mk (by decide) (.inl rfl) rfl (by decide);have j5 : GOK (mkI 5 0) := gok_mk (by decide) (.inr rfl) rfl (by decide);have j28 : GOK (mkI 28 0) := gok_mk (by decide) (.inr rfl) rfl (by decide);have j27 : ∀ a, 0 ≤ a → a < 100 → GOK (mkI 27 a) := fun a h1 h2 => gok_mk (by decide) (.inr (by show aOK 2 0 a = true; simp [aOK, h1, h2])) rfl (by decide);have j26 : ∀ a, 0 ≤ a → a < 100 → GOK (mkI 26 a) := fun a h1 h2 => gok_mk (by decide) (.inr (by show aOK 2 0 a = true; simp [aOK, h1, h2])) rfl (by decide)
 induction h with
 | nil => intro _ _ i hi; cases hi
 | @seq x k r p c d h1 h2 i1 i2 =>
   intro hok hf i hi;rcases List.mem_append.1 hi with hi | hi
   · exact i1 (one_ok hok) (solo hf) i hi
   · exact i2 hok.2.2.2 (one hf).2.2 i hi
 | @flow x k p c hx h1 i1 =>
   intro hok hf i hi;rcases List.mem_append.1 hi with hi | hi
   · exact i1 hok.2.2.1 (one hf).2.1 i hi
   · rw [List.mem_singleton] at hi; rw [hi]; exact j28
 | @block x k p c hx h1 i1 =>
   intro hok hf i hi;exact i1 hok.2.2.1 (one hf).2.1 i hi
 | @store x k p c s hx s0 s1 h1 i1 =>
   intro hok hf i hi;rcases List.mem_append.1 hi with hi | hi
   · exact i1 hok.2.2.1 (one hf).2.1 i hi
   · rw [List.mem_singleton] at hi; rw [hi]; exact j27 _ s0 s1
 | @load x p s hx s0 s1 =>
   intro hok hf i hi;rw [List.mem_singleton] at hi; rw [hi]; exact j26 _ s0 s1
 | @lone x k p c hx h1 i1 =>
   intro hok hf i hi;rcases List.mem_append.1 hi with hi | hi
   · exact i1 hok.2.2.1 (one hf).2.1 i hi
   · rw [List.mem_singleton] at hi; rw [hi]; exact gok_lone hok hx (one hf).1
 | @if2 x a ka b kb p c d hx h1 h2 i1 i2 =>
   intro hok hf i hi;have hf2 := (one hf).2.1;simp only [List.mem_append, List.mem_cons] at hi;rcases hi with hi | rfl | hi
   · exact i1 (one_ok hok.2.2.1) (solo hf2) i hi
   · exact j2 _
   · exact i2 (one_ok hok.2.2.1.2.2.2) (solo (one hf2).2.2) i hi
 | @if3 x a ka b kb f kf p c d g hx h1 h2 h3 i1 i2 i3 =>
   intro hok hf i hi;have hf2 := (one hf).2.1;simp only [List.mem_append, List.mem_cons] at hi;rcases hi with hi | rfl | hi | rfl | hi
   · exact i1 (one_ok hok.2.2.1) (solo hf2) i hi
   · exact j2 _
   · exact i2 (one_ok hok.2.2.1.2.2.2) (solo (one hf2).2.2) i hi
   · exact j1 _
   · exact i3 (one_ok hok.2.2.1.2.2.2.2.2.2) (solo (one (one hf2).2.2).2.2) i hi
 | @loop x a ka b kb p c d hx h1 h2 i1 i2 =>
   intro hok hf i hi;have hf2 := (one hf).2.1;simp only [List.mem_append, List.mem_cons, List.not_mem_nil, or_false] at hi;rcases hi with hi | rfl | hi | rfl
   · exact i1 (one_ok hok.2.2.1) (solo hf2) i hi
   · exact j2 _
   · exact i2 (one_ok hok.2.2.1.2.2.2) (solo (one hf2).2.2) i hi
   · exact j1 _
 | @either x a ka b kb p c d hx h1 h2 i1 i2 =>
   intro hok hf i hi;have hf2 := (one hf).2.1;simp only [List.mem_append, List.mem_cons, List.not_mem_nil, or_false] at hi;rcases hi with hi | rfl | hi | rfl
   · exact i1 (one_ok hok.2.2.1) (solo hf2) i hi
   · rcases hx with hx | hx
     · rw [hx]; exact j3 _
     · rw [hx]; exact j4 _
   · exact i2 (one_ok hok.2.2.1.2.2.2) (solo (one hf2).2.2) i hi
   · exact j5
 | @fork x a ka p c hx h1 i1 =>
   intro hok hf i hi;have hf2 := (one hf).2.1;simp only [List.mem_append, List.mem_cons, List.not_mem_nil, or_false] at hi;rcases hi with rfl | rfl | hi | rfl
   · exact j53 _
   · exact j1 _
   · exact i1 (one_ok hok.2.2.1) (solo hf2) i hi
   · exact j28
end Go.Proofs.YtefijbpbenmbgaaDoor
