/- The law CheckSlots: the slots of a flow's twigs are the document's; written over, they are told as before. No condition. -/
import Derived.Test.YtnghfjlmmmjekaaCkZ2
import Derived.Test.YtnghfjlmmmjekaaCkW2
import Derived.Test.YtnghfjlmmmjekaaROpen
namespace Go.Proofs.Ytnghfjlmmmjekaa
open Go.RowKit Go.Shelf

theorem fs_kids : ∀ (F : Fs), F.ok → ∀ x ∈ F.flat, 0 ≤ x.kids ∧ x.kids ≤ (F.flat.length : Int)
  | .nil, _, _, h => by cases h
  | .cons y k r, ⟨_, hn, hk, hr⟩, x, hx => by
    have hlen := flat_len y k r
    have hx' : x ∈ y :: (k.flat ++ r.flat) := hx
    rcases List.mem_cons.1 hx' with rfl | h
    · have := fs_lens k
      exact ⟨by omega, by omega⟩
    · rcases List.mem_append.1 h with h | h
      · have := fs_kids k hk x h
        exact ⟨this.1, by omega⟩
      · have := fs_kids r hr x h
        exact ⟨this.1, by omega⟩
theorem refSlots_any {v : Value} {ts : List Tw} (w : World) (hT : TwIn w v ts) (hf : ∀ x ∈ ts, FitT x) {r : List Int × Int × Int} (hr : SlotsIs ts r) :
    Calls Try.prog 9 #[v] w (SlotsP r w) := by
  rcases id hr with ⟨hb, _⟩ | ⟨hg, hn, x, K, hok, hx, rfl⟩
  · exact refSlots_bad w hT hf hr (fun _ _ _ h => absurd h hb)
  · by_cases h1 : x.op = 1
    · refine refSlots_good w hT hf hg hn (fun y hy => ?_) hok hx h1
      have hfl : (Fs.cons x K .nil).flat = ts := by rw [hx]; show x :: (K.flat ++ []) = _; rw [List.append_nil]
      have := fs_kids _ hok y (by rw [hfl]; exact hy)
      rw [hfl] at this
      exact ⟨this.1, by omega⟩
    · refine refSlots_bad w hT hf hr (fun y L e _ => ?_)
      rw [hx] at e
      injection e with e _
      rw [← e]
      exact h1
theorem IntsAt.set {w : World} {base gl n cl : Nat} {ns : List Int} (h : IntsAt w base (.slice (some ⟨gl, 0, none⟩) n cl) ns) (hlen : ns.length = n) (i : Nat) (x : Int) :
    IntsAt (w.setCell ⟨gl, i, none⟩ (.int .i64 x)) base (.slice (some ⟨gl, 0, none⟩) n cl) (ns.set i x) ∧ Only (fun k => k = gl) w (w.setCell ⟨gl, i, none⟩ (.int .i64 x)) := by
  refine ⟨?_, (Only.refl (fun k => k = gl) w).setCell (p := ⟨gl, i, none⟩) (.inl rfl) _⟩
  unfold IntsAt at h ⊢
  have h2 := (World.ownsRow.stored (by rw [hlen] at h; exact h) i (.int .i64 x)).1
  rw [List.length_set, hlen, List.map_set]
  exact h2
theorem IntsAt.at {w : World} {base gl n cl : Nat} {ns : List Int} (h : IntsAt w base (.slice (some ⟨gl, 0, none⟩) n cl) ns) (hlen : ns.length = n) {i : Nat} (hi : i < n) : w.frozen? ⟨gl, i, none⟩ = false ∧ ∃ x, w.cell? ⟨gl, i, none⟩ = some (.int .i64 x) := by
  unfold IntsAt at h
  rw [hlen] at h
  refine ⟨World.ownsRow.frozenAt h i, ?_⟩
  have hc := World.ownsRow.cellAt h i (by omega)
  rw [List.getElem?_map, List.getElem?_eq_getElem (by omega)] at hc
  exact ⟨_, hc⟩
set_option maxRecDepth 20000 in
set_option maxHeartbeats 4000000 in
theorem checkSlots_walk (v : Value) (w : World) (h : TwsIn w v) :
    Calls Try.prog 4 #[v] w fun e w' => e = .returned (.bool true) ∧ Below w.heap.size w w' := by
  obtain ⟨ts, hT, hf, _⟩ := h
  have hWk := Lib.hid wakes11_any
  obtain ⟨r, hr⟩ := slots_is ts
  have kS := Lib.hid (fun (W : World) (hb : Below w.heap.size w W) => Slots_any W (hT.below hb) hf hr)
  have kR := Lib.hid (fun (W : World) (hb : Below w.heap.size w W) => refSlots_any W (hT.below hb) hf hr)
  obtain ⟨l, at_, er⟩ := r
  unfold SlotsP at kS kR
  dsimp only at kS kR
  obtain ⟨a, cap, rfl, hlc, hcm, _⟩ := hT
  clear hf hr
  by_cases h5 : 5000 < ts.length
  · have h5i : (5000 : Int) < (ts.length : Int) := by omega
    clear kS kR
    go_enter Try.func4, Try.ntmps4
    go_wp2_with fail
    refine (hWk.out _).mono ?_
    rintro e w2 ⟨rfl, hb⟩
    go_wp2_with fail
    go_ret
    exact ⟨rfl, hb⟩
  · have h5i : ¬ (5000 : Int) < (ts.length : Int) := by omega
    have q1 : (at_ != at_) = false := by simp
    have q2 : (er != er) = false := by simp
    clear h5
    go_enter Try.func4, Try.ntmps4
    go_wp2_with fail
    refine (kS.out w (Below.refl _ _)).mono ?_
    rintro e' w1 ⟨lv, rfl, hl, hb1⟩
    obtain ⟨la, lc, rfl, hlc2, _⟩ := id hl.shape
    have hz1 := hb1.size
    replace hb1 := Lib.hid hb1
    go_wp2_with fail
    refine (kR.out w1 hb1.out).mono ?_
    rintro e' w2 ⟨lw, rfl, hl2, hb2⟩
    obtain ⟨ma, mc, rfl, _, _⟩ := id hl2.shape
    have hlB := Lib.hid (hl.below hb2)
    have hb3 := Lib.hid (below_next hb1.out hb2)
    have kI := Lib.hid (fun (W : World) (h1 : IntsR W (.slice la l.length lc) l) (h2 : IntsR W (.slice ma l.length mc) l) => ints_true h1 h2)
    have kJ := Lib.hid (fun (W : World) (u : Value) (h1 : IntsR W u l) (h2 : IntsR W (.slice ma l.length mc) l) => ints_true h1 h2)
    have hlo : Hid (∀ g, (Value.slice la l.length lc).ownBlock = some g → w.heap.size ≤ g ∧ g < w1.heap.size) := Lib.hid (fun g hg => ⟨(hl.block hg).1, (hl.block hg).2.1⟩)
    have hlo2 : Hid (∀ g, (Value.slice ma l.length mc).ownBlock = some g → w1.heap.size ≤ g) := Lib.hid (fun g hg => (hl2.block hg).1)
    replace hl2 := Lib.hid hl2
    clear hl hb2
    go_wp2_with fail
    refine (kI.out w2 hlB.out.read hl2.out.read).mono ?_
    rintro e' w3 ⟨rfl, hb4⟩
    have hlC := Lib.hid (hlB.out.below hb4)
    have hl3 := Lib.hid (hl2.out.below hb4)
    have hb5 := Lib.hid (below_next hb3.out hb4)
    clear hlB hl2 hb3 hb4 kI
    go_wp2_with fail
    go_loopw [9] (fun t9 wr => ∃ (j : Nat) (ns : List Int), t9 = .int .i64 j ∧ j ≤ l.length ∧ Hid (ns.length = l.length) ∧ Hid (IntsAt wr w.heap.size (.slice la l.length lc) ns) ∧ Hid (Only (fun k => (Value.slice la l.length lc).ownBlock = some k) w3 wr)) (fun t9 _ => l.length - (intOf t9).toNat)
    case atStart => exact ⟨0, l, rfl, Nat.zero_le _, Lib.hid rfl, hlC, Lib.hid (Only.refl _ _)⟩
    case round =>
      obtain ⟨j, ns, rfl, hj, hln, hns, ho⟩ := hrel
      rcases Nat.lt_or_ge j l.length with hlt | hge
      · have hlti : (j : Int) < (l.length : Int) := by omega
        obtain ⟨gl, cl, e, _⟩ := ownsRow_head hns.out (by rw [hln.out]; omega)
        rw [hln.out] at e
        injection e with e1 e2 e3
        subst e1 e3
        obtain ⟨c1, x, c2⟩ := hns.out.at hln.out hlt
        obtain ⟨s1, s2⟩ := hns.out.set hln.out j (-9)
        have hns2 := Lib.hid s1
        have ho2 := Lib.hid (ho.out.trans s2 (K := fun k => (Value.slice (some ⟨gl, 0, none⟩) l.length lc).ownBlock = some k) (fun k _ e => e) (fun k _ e => by rw [e]; rfl))
        have hln2 : Hid ((ns.set j (-9)).length = l.length) := Lib.hid (by rw [List.length_set]; exact hln.out)
        clear s1 s2 ho hns hln
        go_wp2_with fail
        go_roundw
        case rel => exact ⟨j + 1, ns.set j (-9), by go_num, by omega, hln2, hns2, ho2⟩
        case measure => simp [intOf]; omega
      · obtain rfl : j = l.length := by omega
        have hlti : ¬ ((l.length : Int) < (l.length : Int)) := by omega
        have hbr := Lib.hid (hb5.out.trans (ho.out.below hb5.out.size (fun k hk e => by have := (hlo.out k e).1; omega)))
        have hlD : IntsAt wr w1.heap.size (.slice ma l.length mc) l := ownsRow_only hl3.out ho.out (fun g hg e => by have := (hlo.out g e).2; have := hlo2.out g hg; omega)
        replace hlD := Lib.hid hlD
        clear hns hln ho hlC hl3
        go_wp2_with fail
        refine (kS.out wr hbr.out).mono ?_
        rintro e' w5 ⟨lx, rfl, hl5, hb6⟩
        obtain ⟨xa, xc, rfl, _, _⟩ := id hl5.shape
        have hlE := Lib.hid (hlD.out.below hb6)
        have hb7 := Lib.hid (below_next hbr.out hb6)
        replace hl5 := Lib.hid hl5
        clear hlD hb6
        go_wp2_with fail
        refine (kJ.out w5 _ hl5.out.read hlE.out.read).mono ?_
        rintro e' w6 ⟨rfl, hb8⟩
        have hb9 := Lib.hid (below_next hb7.out hb8)
        go_wp2_with fail
        refine (hWk.out _).mono ?_
        rintro e w7 ⟨rfl, hb10⟩
        go_wp2_with fail
        go_ret
        exact ⟨rfl, below_next hb9.out hb10⟩
end Go.Proofs.Ytnghfjlmmmjekaa
