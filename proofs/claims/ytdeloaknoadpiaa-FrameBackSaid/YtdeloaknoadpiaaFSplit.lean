/- Split (layer 6), walked. -/
import Derived.Test.YtdeloaknoadpiaaFRound
namespace Go.Proofs.Ytdeloaknoadpiaa
open Go.RowKit Go.Shelf Crc
attribute [local go_sem] Oper.semAt_some

theorem frames_call (F : Fence) (n : Nat) (hF : F.fn 32) (hro : F.round = none) (a : Option Addr) (len cap : Nat) (w : World) :
    CallsIn F n Try.prog 32 #[.slice a len cap] w fun e w' => e = .returned (.func (.func 35) #[] #[.pointer (some ⟨w.heap.size, 0, none⟩)]) ∧ w' = w.alloc (.cells #[.slice a len cap] 22) := by
  refine callsIn_of_wp Try.func32 rfl hF ?_ hro
  simp only [Try.ntmps32, List.size_toArray, List.length_cons, List.length_nil, Nat.reduceAdd, Nat.reduceSub, Array.replicate_succ, Array.replicate_zero, List.push_toArray, List.append_toArray, List.nil_append, List.cons_append]
  gi_wp2
  go_ret
  exact ⟨rfl, rfl⟩

theorem KpF.t {n₀ B : Nat} {X Y Z : World} (h : KpF n₀ B X Y) (k : KpF n₀ B Y Z) : KpF n₀ B X Z := ⟨h.1.trans k.1, k.2.trans h.2⟩
/-- What frame.frames hands back. -/
theorem frames_seq (B n₀ : Nat) (w0 : World) (bs : List Nat) (u0 : Value) (hn0 : n₀ ≤ w0.heap.size) (hB0 : n₀ ≤ B) (w : World) (hw0 : Below n₀ w0 w) (hBx : Boxed w B 22 u0) (hb0 : Bs w u0 bs) (hu0 : ∀ k, RowOf u0 k → 0 < bs.length → k < n₀) (hbl : bs.length ≤ 1000000) :
    SeqBox Fence.wide 5 Try.prog 35 #[.pointer (some ⟨B, 0, none⟩)] (fun x : Fx n₀ w0 => #[x.1.1, .int .i64 (x.1.2.code : Int)]) (KpF n₀ B) B (fun xs => frOf xs = came bs) (fun pre => ∃ z, frOf pre ++ z = came bs) (bs.length + 1) w := by
  intro l J Jx W hW hJ _ hJB hY h0
  have hsz : n₀ ≤ w.heap.size := Nat.le_trans hn0 hw0.size
  exact frames1_in l B n₀ w0 W bs u0 J Jx (hw0.trans (hW.mono hsz)) (Nat.le_trans hsz hW.size) hn0 hB0 ((hW.block B hBx.lt).trans hBx) (hb0.below hW) hu0 hbl hJ hJB hY h0

/-- Where Split's four boxes and its bodies are. -/
def SpI (s : Nat) (w : World) (q : List Fr) (c : Nat) (W : World) : Prop :=
  (∃ v, Boxed W s 29 v ∧ Bods W (s + 4) v (q.map (·.body))) ∧ Boxed W (s + 1) 3 (.int .i64 (lensL q : Nat)) ∧ Boxed W (s + 1 + 1) 23 (.int .i64 (c : Int)) ∧ Below s w W ∧ s + 4 ≤ W.heap.size

theorem SpI.own {β : Type} (s : Nat) (w : World) (q : β → List Fr) (c : β → Nat) (hs : s ≤ w.heap.size) : OwnFrom (s + 4) (fun (b : β) W => SpI s w (q b) (c b) W) := by
  rintro b W W' row ⟨⟨v, h1, h2⟩, h3, h4, h5, h6⟩ hg hr
  have hk : ∀ g cs t fr, W.heap[g]? = some (Obj.cells cs t fr) → W'.heap[g]? = some (Obj.cells cs t fr) := fun g cs t fr hgc => by
    refine (hg.block g (Array.getElem?_eq_some_iff.1 hgc).1 ?_).trans hgc
    intro e
    obtain ⟨_, o, ho, hc⟩ := hr g e.symm
    rw [hgc] at ho
    cases ho
    cases hc
  exact ⟨⟨v, hk _ _ _ _ h1, h2.kept (fun g cs t fr _ h => hk g cs t fr h)⟩, hk _ _ _ _ h3, hk _ _ _ _ h4, h5.grown hg (Nat.le_trans hs h5.size) (fun k e => by have := (hr k e).1; omega), Nat.le_trans h6 hg.size⟩
theorem SpI.box {s : Nat} {w W : World} {q : List Fr} {c : Nat} (h : SpI s w q c W) (hs : s ≤ w.heap.size) (u : Value) : SpI s w q c (W.setCell ⟨s + 1 + 1 + 1, 0, none⟩ u) := by
  obtain ⟨⟨v, h1, h2⟩, h3, h4, h5, h6⟩ := h
  exact ⟨⟨v, h1.other (by omega) u, h2.kept (cellsKept_set (by omega))⟩, h3.other (by omega) u, h4.other (by omega) u, h5.setCell (p := ⟨s + 1 + 1 + 1, 0, none⟩) (by show s ≤ s + 1 + 1 + 1; omega) u, by simpa [World.setCell] using h6⟩

theorem SpI.told {s : Nat} {w W : World} {q : List Fr} {c : Nat} {v : Value} (h1 : Boxed W s 29 v) (h2 : Bods W (s + 4) v (q.map (·.body))) (h3 : Boxed W (s + 1) 3 (.int .i64 (lensL q : Nat))) (h4 : Boxed W (s + 1 + 1) 23 (.int .i64 (c : Int)))
    (h5 : Below s w W) (h6 : s + 4 ≤ W.heap.size) (c' : Nat) :
    SpI s w q c' (((W.setCell ⟨s, 0, none⟩ v).setCell ⟨s + 1, 0, none⟩ (.int .i64 (lensL q : Nat))).setCell ⟨s + 1 + 1, 0, none⟩ (.int .i64 (c' : Int))).drew ∧
    KeepsOthers W (((W.setCell ⟨s, 0, none⟩ v).setCell ⟨s + 1, 0, none⟩ (.int .i64 (lensL q : Nat))).setCell ⟨s + 1 + 1, 0, none⟩ (.int .i64 (c' : Int))).drew := by
  refine ⟨⟨⟨v, ((h1.set v).other (by omega) _).other (by omega) _, ((h2.kept (cellsKept_set (by omega))).kept (cellsKept_set (by omega))).kept (cellsKept_set (by omega))⟩, ((h3.other (by omega) _).set _).other (by omega) _, ((h4.other (by omega) _).other (by omega) _).set _,
    below_drewN (((h5.setCell (p := ⟨s, 0, none⟩) (Nat.le_refl _) _).setCell (p := ⟨s + 1, 0, none⟩) (by show s ≤ s + 1; omega) _).setCell (p := ⟨s + 1 + 1, 0, none⟩) (by show s ≤ s + 1 + 1; omega) _) 1, by simp [World.setCell]; omega⟩,
    (((KeepsOthers.setCell _ _ _).trans (KeepsOthers.setCell _ _ _)).trans (KeepsOthers.setCell _ _ _)).trans (KeepsOthers.drew _)⟩
theorem SpI.put {s : Nat} {w W : World} {q : List Fr} {c D : Nat} {o o' : Obj} (h : SpI s w q c W) (hs : s ≤ w.heap.size) (hD : s + 4 ≤ D) (ho : W.heap[D]? = some o) (hc : o.isCells = false) : SpI s w q c (W.putObj D o') :=
  (SpI.own s w (fun _ : Unit => q) (fun _ => c) hs).putObj o' (s := ()) h hD ho hc

theorem Bods.lift {w : World} {base b2 : Nat} {v : Value} {ls : List (List Nat)} (h : Bods w base v ls) (hb : b2 ≤ base) : Bods w b2 v ls := by
  obtain ⟨vs, h1, h2, h3⟩ := h
  refine ⟨vs, h1, ownsRow_base h2 (fun g hg => Nat.le_trans hb (h2.lt g hg).1), fun i hi => ?_⟩
  obtain ⟨u, hu, hB⟩ := h3 i hi
  exact ⟨u, hu, hB.lift (fun g hg => Nat.le_trans hb (hB.base_ g hg).1)⟩
theorem came_ends : ∀ {bs : List Nat} {q : List Fr} {x : Fr} {z : List Fr}, (q ++ [x]) ++ z = came bs → x.code ≠ 0 → came bs = q ++ [x] ∧ z = [] := by
  intro bs
  induction hn : bs.length using Nat.strongRecOn generalizing bs with
  | ind n ih =>
    intro q x z h hc
    by_cases h0 : bs = []
    · subst h0; rw [came_nil] at h; simp at h
    by_cases hc0 : (readL bs).code = 0
    · have hr := read_le hc0
      rw [came_step h0 hc0] at h ⊢
      cases q with
      | nil =>
        simp only [List.nil_append, List.cons_append, List.cons.injEq] at h
        rw [h.1] at hc
        exact absurd hc0 hc
      | cons y q =>
        simp only [List.cons_append, List.cons.injEq] at h
        obtain ⟨e1, e2⟩ := ih (bs.drop (readL bs).n).length (by rw [List.length_drop]; omega) rfl h.2 hc
        exact ⟨by rw [e1, ← h.1]; rfl, e2⟩
    · rw [came_stop h0 hc0] at h ⊢
      cases q with
      | nil =>
        simp only [List.nil_append, List.cons_append, List.cons.injEq] at h
        exact ⟨by rw [← h.1]; rfl, h.2⟩
      | cons y q => simp at h
set_option maxRecDepth 100000 in
set_option maxHeartbeats 1000000 in
theorem Split_any {w : World} {v : Value} {bs : List Nat} (h : Bs w v bs) (hl : bs.length ≤ 1000000) (hv : ∀ k, RowOf v k → 0 < bs.length → k < w.heap.size) :
    Calls Try.prog 20 #[v] w fun e w' => ∃ v', e = .returned (.tuple #[v', .int .i64 (splitL bs).at_, .int .i64 (splitL bs).code]) ∧ Bods w' w.heap.size v' (splitL bs).bodies ∧ Below w.heap.size w w' := by
  have hbs := h
  obtain ⟨a, cap, rfl, _, _, _, _⟩ := h
  refine (callsIn_wide (n := 6)).1 ?_
  refine callsIn_of_wp_marks Try.func20 rfl trivial ?_ rfl
  simp only [Try.ntmps20, List.size_toArray, List.length_cons, List.length_nil, Nat.reduceAdd, Nat.reduceSub, Array.replicate_succ, Array.replicate_zero, List.push_toArray, List.append_toArray, List.nil_append, List.cons_append]
  gi_wp2_with (refine ⟨trivial, ?_⟩; gi_at_call 32; refine (frames_call Fence.wide _ trivial rfl _ _ _ _).mono ?_; rintro e w' ⟨rfl, rfl⟩)
  have hBe : ∃ W0, ((((w.alloc (.cells #[.slice none 0 0] 29)).alloc (.cells #[.int .i64 0] 3)).alloc (.cells #[.int .i64 0] 23)).alloc (.cells #[.slice a bs.length cap] 22)) = W0 := ⟨_, rfl⟩
  obtain ⟨W0, hW0⟩ := hBe
  have b0 : Boxed W0 w.heap.size 29 (.slice none 0 0) := by rw [← hW0]; exact (((Boxed.new w _ _).alloc _).alloc _).alloc _
  have b1 : Boxed W0 (w.heap.size + 1) 3 (.int .i64 0) := by
    rw [← hW0]
    have := Boxed.new (w.alloc (.cells #[.slice none 0 0] 29)) 3 (.int .i64 0)
    rw [World.size_alloc] at this
    exact (this.alloc _).alloc _
  have b2 : Boxed W0 (w.heap.size + 1 + 1) 23 (.int .i64 0) := by
    rw [← hW0]
    have := Boxed.new ((w.alloc (.cells #[.slice none 0 0] 29)).alloc (.cells #[.int .i64 0] 3)) 23 (.int .i64 0)
    rw [World.size_alloc, World.size_alloc] at this
    exact this.alloc _
  have b3 : Boxed W0 (w.heap.size + 1 + 1 + 1) 22 (.slice a bs.length cap) := by
    rw [← hW0]
    have := Boxed.new (((w.alloc (.cells #[.slice none 0 0] 29)).alloc (.cells #[.int .i64 0] 3)).alloc (.cells #[.int .i64 0] 23)) 22 (.slice a bs.length cap)
    rw [World.size_alloc, World.size_alloc, World.size_alloc] at this
    exact this
  have hB0 : Below w.heap.size w W0 := by
    rw [← hW0]
    exact ((((Below.refl _ w).alloc (Nat.le_refl _) _).alloc (by simp) _).alloc (by simp; omega) _).alloc (by simp; omega) _
  have hsz : W0.heap.size = w.heap.size + 4 := by rw [← hW0]; simp
  rw [hW0]
  clear hW0
  have hseq := frames_seq (w.heap.size + 1 + 1 + 1) w.heap.size w bs (.slice a bs.length cap) (Nat.le_refl _) (by omega) W0 hB0 b3 (hbs.below hB0) hv hl
  have hI0 : SpI w.heap.size w [] 0 W0 := ⟨⟨_, b0, Bods.nil _ _⟩, b1, b2, hB0, by omega⟩
  refine wpIn_rangeFunc_box rfl (by omega) (gf := 35) (lb := #[.pointer (some ⟨w.heap.size + 1 + 1 + 1, 0, none⟩)]) rfl trivial (enters_of Try.func35 (by kernel_rfl) rfl)
    hseq (fun h k => h.t k) (fun W l o o' hl2 hlo _ _ => ⟨(Below.refl _ W).grown (grownBy_putObj' W l o') (by have := (Array.getElem?_eq_some_iff.1 hlo).1; omega) (fun k e => by cases e; omega), World.putObj_heap_other (by omega)⟩) (Below.refl _ _) (fun _ => rfl)
    (fun pre W => ((∀ y ∈ frOf pre, y.code = 0) ∧ lensL (frOf pre) ≤ pre.length * 1000012) ∧ SpI w.heap.size w (frOf pre) 0 W)
    (fun pre W => ∃ q x, pre = q ++ [x] ∧ x.1.2.code ≠ 0 ∧ SpI w.heap.size w (frOf q) x.1.2.code W)
    ?hI ?hIx ?hIB ⟨⟨fun y hy => by simp [frOf] at hy, by simp [frOf, lensL]⟩, hI0⟩
    (fun x => { tmps := #[.slice a bs.length cap, undef, .pointer (some ⟨w.heap.size, 0, none⟩), .pointer (some ⟨w.heap.size + 1, 0, none⟩), .pointer (some ⟨w.heap.size + 1 + 1, 0, none⟩), x.1.1, .int .i64 (x.1.2.code : Int), .slice a bs.length cap, .func (.func 35) #[] #[.pointer (some ⟨w.heap.size + 1 + 1 + 1, 0, none⟩)], x.1.1, .int .i64 (x.1.2.code : Int), undef, undef, undef, undef, undef, undef, undef, undef, undef, undef, undef, undef, undef, undef, undef, undef, undef], defers := [] }) ?assign ?body ?done ?stop
  case hI =>
    rw [hsz]
    exact fun s A B' row hs hg hr => ⟨hs.1, SpI.own w.heap.size w (fun pre : List (Fx w.heap.size w) => frOf pre) (fun _ => 0) (Nat.le_refl _) s A B' row hs.2 hg hr⟩
  case hIx =>
    rw [hsz]
    rintro s A B' row ⟨q, x, e, hc, hs⟩ hg hr
    exact ⟨q, x, e, hc, SpI.own w.heap.size w (fun _ : Unit => frOf q) (fun _ => x.1.2.code) (Nat.le_refl _) () A B' row hs hg hr⟩
  case hIB => exact fun pre A u hs _ => ⟨hs.1, hs.2.box (Nat.le_refl _) u⟩
  case assign =>
    intro l x W K hK
    gi_wp2
    exact hK
  case body =>
    rintro l pre x W ⟨⟨hall, hlens⟩, ⟨⟨vb, q0, qB⟩, q1, q2, hBW, hszW⟩⟩ hlen
    by_cases hc : x.1.2.code = 0
    · have hbx := x.2.1 W hBW
      have hxn := x.2.2.2 hc
      have hxl := x.2.2.1
      obtain ⟨⟨xv, R⟩, hxp⟩ := x
      simp only at hc hbx hxn hxl
      have hCl := Lib.hid (Clone_any (w := W.drew) (v := xv) (l := R.body) hbx (by omega))
      have hc0 : ((R.code : Int) != 0) = false := by rw [hc]; rfl
      obtain ⟨vs, hv1, hv2, hv3⟩ := qB
      obtain ⟨av, capv, rfl, _, _⟩ := ownsRow_shape hv2
      obtain ⟨xa, xcap, rfl, _, _, _, _⟩ := hbx
      have c0 := q0.cell
      have c1 := q1.cell
      have hlenq : ((frOf pre).map (·.body)).length ≤ 1000001 := by simp [frOf]; omega
      have hmx : Try.prog.follows .mixedOrders = true := by kernel_rfl
      have hend : Hid (∀ W', (KeepsFrom (w.heap.size + 4) W W' ∧ KpF w.heap.size (w.heap.size + 1 + 1 + 1) W W' ∧ (∃ v, Boxed W' w.heap.size 29 v ∧ Bods W' (w.heap.size + 4) v ((frOf pre).map (·.body) ++ [R.body])) ∧
          Boxed W' (w.heap.size + 1) 3 (.int .i64 ((lensL (frOf pre) : Nat) + (12 + (R.body.length : Int)))) ∧ Boxed W' (w.heap.size + 1 + 1) 23 (.int .i64 ((0 : Nat) : Int)) ∧ Below w.heap.size w W' ∧ w.heap.size + 4 ≤ W'.heap.size) →
          KeepsFrom W0.heap.size W W' ∧ KpF w.heap.size (w.heap.size + 1 + 1 + 1) W W' ∧ ((∀ y ∈ frOf (pre ++ [(⟨(.slice xa R.body.length xcap, R), hxp⟩ : Fx w.heap.size w)]), y.code = 0) ∧ lensL (frOf (pre ++ [(⟨(.slice xa R.body.length xcap, R), hxp⟩ : Fx w.heap.size w)])) ≤ (pre ++ [(⟨(.slice xa R.body.length xcap, R), hxp⟩ : Fx w.heap.size w)]).length * 1000012) ∧
            SpI w.heap.size w (frOf (pre ++ [(⟨(.slice xa R.body.length xcap, R), hxp⟩ : Fx w.heap.size w)])) 0 W') := by
        rintro W' ⟨k1, k2, ⟨v, k3, k4⟩, k5, k6, k7, k8⟩
        rw [frOf_snoc, lensL_snoc, hsz, List.length_append, List.length_singleton]
        refine ⟨k1, k2, ⟨fun y hy => ?_, ?_⟩, ⟨v, k3, by rw [List.map_append]; exact k4⟩, ?_, k6, k7, k8⟩
        · rcases List.mem_append.1 hy with h | h
          · exact hall y h
          · simp at h; rw [h]; exact hc
        · show lensL (frOf pre) + R.n ≤ _
          rw [hxn, Nat.add_mul]; omega
        · rw [lensL_snoc]
          show Boxed W' _ _ (.int .i64 ((lensL (frOf pre) + R.n : Nat) : Int))
          rw [hxn, show ((lensL (frOf pre) + (R.body.length + 12) : Nat) : Int) = (lensL (frOf pre) : Nat) + (12 + (R.body.length : Int)) by omega]
          exact k5
      have hb1' : (lensL (frOf pre) : Int) ≤ 1000012000012 := by omega
      have hb2' : (R.body.length : Int) ≤ 1000000 := by omega
      gi_wp2
      refine wpIn_region_any hmx ?_
      change wpAnyIn _ _ _ _ _ _ _ _ _ (World.drew _)
      -- the orders (tools/mksplit.py)  --ORDERS--
      refine wpAnyIn_ready (rs := [0, 1]) (by kernel_rfl) (by simp) ?_
      refine AllReadyIn.cons rfl (fun K hK => ?_) (AllReadyIn.cons rfl (fun K hK => ?_) AllReadyIn.nil)
      · skip
        go_simp
        refine hK _ _ ?_
        clear hK K
        refine wpAnyIn_ready (rs := [1]) (by kernel_rfl) (by simp) ?_
        refine AllReadyIn.cons rfl (fun K hK => ?_) AllReadyIn.nil
        go_simp
        refine hK _ _ ?_
        clear hK K
        refine wpAnyIn_ready (rs := [2]) (by kernel_rfl) (by simp) ?_
        refine AllReadyIn.cons rfl (fun K hK => ?_) AllReadyIn.nil
        go_simp
        refine ⟨trivial, (CallsIn.inRound l (callsIn_wide.2 hCl.out)).mono ?_⟩
        rintro e W2 ⟨u, rfl, hu, hg2⟩
        have hg2' : Below W.heap.size W W2 := below_drew hg2
        have p0 := boxed_below q0 hg2'
        have c02 := p0.cell
        have c03 := (p0.alloc (.cells #[u] 22)).cell
        obtain ⟨ua, ucap, rfl, _, _⟩ := ownsRow_shape hu
        refine hK _ _ ?_
        clear hK K
        refine wpAnyIn_ready (rs := [3]) (by kernel_rfl) (by simp) ?_
        refine AllReadyIn.cons rfl (fun K hK => ?_) AllReadyIn.nil
        go_simp
        refine hK _ _ ?_
        clear hK K
        refine wpAnyIn_ready (rs := [4]) (by kernel_rfl) (by simp) ?_
        refine AllReadyIn.cons rfl (fun K hK => ?_) AllReadyIn.nil
        rw [if_pos (by simp [Region.wanted])]
        have hvk := ownsRow_kept (ownsRow_kept hv2 (cellsKept_below hg2')) (cellsKept_below ((Below.refl _ W2).alloc (Nat.le_refl _) (.cells #[.slice ua R.body.length ucap] 22)))
        rw [List.length_map] at hvk
        refine wpIn_append_row (base := w.heap.size + 4) (v := .slice av (frOf pre).length capv) (k := (frOf pre).length) (.tmp 16) (.tmp 19) rfl rfl hvk rfl (heap_alloc_new W2 _) rfl (by have := hlenq; rw [List.length_map] at this; omega) (by have := hg2'.size; simp; omega) ?_
        intro g' cap' w1 hown hgr
        obtain ⟨⟨hb0, hb1⟩, hfin⟩ := split_round (ls := (frOf pre).map (·.body)) (Nat.le_refl _) q0 hv1 hv2 hv3 q1 q2 hBW hszW hg2' hu (by rw [List.length_map]; exact hown) (by rw [List.length_map]; exact hgr)
        have d0 := hb0.cell
        have e0 := hb0.frozen
        have d1 := hb1.cell
        have e1 := hb1.frozen
        refine hK _ _ ?_
        clear hK K
        refine wpAnyIn_ready (rs := [5]) (by kernel_rfl) (by simp) ?_
        refine AllReadyIn.cons rfl (fun K hK => ?_) AllReadyIn.nil
        go_simp
        refine hK _ _ ?_
        clear hK K
        refine wpAnyIn_done (by kernel_rfl) ?_ _
        gi_wp2
        exact hend.out _ (hfin _)
      · skip
        go_simp
        refine hK _ _ ?_
        clear hK K
        refine wpAnyIn_ready (rs := [0, 2]) (by kernel_rfl) (by simp) ?_
        refine AllReadyIn.cons rfl (fun K hK => ?_) (AllReadyIn.cons rfl (fun K hK => ?_) AllReadyIn.nil)
        · skip
          go_simp
          refine hK _ _ ?_
          clear hK K
          refine wpAnyIn_ready (rs := [2]) (by kernel_rfl) (by simp) ?_
          refine AllReadyIn.cons rfl (fun K hK => ?_) AllReadyIn.nil
          go_simp
          refine ⟨trivial, (CallsIn.inRound l (callsIn_wide.2 hCl.out)).mono ?_⟩
          rintro e W2 ⟨u, rfl, hu, hg2⟩
          have hg2' : Below W.heap.size W W2 := below_drew hg2
          have p0 := boxed_below q0 hg2'
          have c02 := p0.cell
          have c03 := (p0.alloc (.cells #[u] 22)).cell
          obtain ⟨ua, ucap, rfl, _, _⟩ := ownsRow_shape hu
          refine hK _ _ ?_
          clear hK K
          refine wpAnyIn_ready (rs := [3]) (by kernel_rfl) (by simp) ?_
          refine AllReadyIn.cons rfl (fun K hK => ?_) AllReadyIn.nil
          go_simp
          refine hK _ _ ?_
          clear hK K
          refine wpAnyIn_ready (rs := [4]) (by kernel_rfl) (by simp) ?_
          refine AllReadyIn.cons rfl (fun K hK => ?_) AllReadyIn.nil
          rw [if_pos (by simp [Region.wanted])]
          have hvk := ownsRow_kept (ownsRow_kept hv2 (cellsKept_below hg2')) (cellsKept_below ((Below.refl _ W2).alloc (Nat.le_refl _) (.cells #[.slice ua R.body.length ucap] 22)))
          rw [List.length_map] at hvk
          refine wpIn_append_row (base := w.heap.size + 4) (v := .slice av (frOf pre).length capv) (k := (frOf pre).length) (.tmp 16) (.tmp 19) rfl rfl hvk rfl (heap_alloc_new W2 _) rfl (by have := hlenq; rw [List.length_map] at this; omega) (by have := hg2'.size; simp; omega) ?_
          intro g' cap' w1 hown hgr
          obtain ⟨⟨hb0, hb1⟩, hfin⟩ := split_round (ls := (frOf pre).map (·.body)) (Nat.le_refl _) q0 hv1 hv2 hv3 q1 q2 hBW hszW hg2' hu (by rw [List.length_map]; exact hown) (by rw [List.length_map]; exact hgr)
          have d0 := hb0.cell
          have e0 := hb0.frozen
          have d1 := hb1.cell
          have e1 := hb1.frozen
          refine hK _ _ ?_
          clear hK K
          refine wpAnyIn_ready (rs := [5]) (by kernel_rfl) (by simp) ?_
          refine AllReadyIn.cons rfl (fun K hK => ?_) AllReadyIn.nil
          go_simp
          refine hK _ _ ?_
          clear hK K
          refine wpAnyIn_done (by kernel_rfl) ?_ _
          gi_wp2
          exact hend.out _ (hfin _)
        · skip
          go_simp
          refine ⟨trivial, (CallsIn.inRound l (callsIn_wide.2 hCl.out)).mono ?_⟩
          rintro e W2 ⟨u, rfl, hu, hg2⟩
          have hg2' : Below W.heap.size W W2 := below_drew hg2
          have p0 := boxed_below q0 hg2'
          have c02 := p0.cell
          have c03 := (p0.alloc (.cells #[u] 22)).cell
          obtain ⟨ua, ucap, rfl, _, _⟩ := ownsRow_shape hu
          refine hK _ _ ?_
          clear hK K
          refine wpAnyIn_ready (rs := [0, 3]) (by kernel_rfl) (by simp) ?_
          refine AllReadyIn.cons rfl (fun K hK => ?_) (AllReadyIn.cons rfl (fun K hK => ?_) AllReadyIn.nil)
          · skip
            go_simp
            refine hK _ _ ?_
            clear hK K
            refine wpAnyIn_ready (rs := [3]) (by kernel_rfl) (by simp) ?_
            refine AllReadyIn.cons rfl (fun K hK => ?_) AllReadyIn.nil
            go_simp
            refine hK _ _ ?_
            clear hK K
            refine wpAnyIn_ready (rs := [4]) (by kernel_rfl) (by simp) ?_
            refine AllReadyIn.cons rfl (fun K hK => ?_) AllReadyIn.nil
            rw [if_pos (by simp [Region.wanted])]
            have hvk := ownsRow_kept (ownsRow_kept hv2 (cellsKept_below hg2')) (cellsKept_below ((Below.refl _ W2).alloc (Nat.le_refl _) (.cells #[.slice ua R.body.length ucap] 22)))
            rw [List.length_map] at hvk
            refine wpIn_append_row (base := w.heap.size + 4) (v := .slice av (frOf pre).length capv) (k := (frOf pre).length) (.tmp 16) (.tmp 19) rfl rfl hvk rfl (heap_alloc_new W2 _) rfl (by have := hlenq; rw [List.length_map] at this; omega) (by have := hg2'.size; simp; omega) ?_
            intro g' cap' w1 hown hgr
            obtain ⟨⟨hb0, hb1⟩, hfin⟩ := split_round (ls := (frOf pre).map (·.body)) (Nat.le_refl _) q0 hv1 hv2 hv3 q1 q2 hBW hszW hg2' hu (by rw [List.length_map]; exact hown) (by rw [List.length_map]; exact hgr)
            have d0 := hb0.cell
            have e0 := hb0.frozen
            have d1 := hb1.cell
            have e1 := hb1.frozen
            refine hK _ _ ?_
            clear hK K
            refine wpAnyIn_ready (rs := [5]) (by kernel_rfl) (by simp) ?_
            refine AllReadyIn.cons rfl (fun K hK => ?_) AllReadyIn.nil
            go_simp
            refine hK _ _ ?_
            clear hK K
            refine wpAnyIn_done (by kernel_rfl) ?_ _
            gi_wp2
            exact hend.out _ (hfin _)
          · skip
            go_simp
            refine hK _ _ ?_
            clear hK K
            refine wpAnyIn_ready (rs := [0]) (by kernel_rfl) (by simp) ?_
            refine AllReadyIn.cons rfl (fun K hK => ?_) AllReadyIn.nil
            go_simp
            refine hK _ _ ?_
            clear hK K
            refine wpAnyIn_ready (rs := [4]) (by kernel_rfl) (by simp) ?_
            refine AllReadyIn.cons rfl (fun K hK => ?_) AllReadyIn.nil
            rw [if_pos (by simp [Region.wanted])]
            have hvk := ownsRow_kept (ownsRow_kept hv2 (cellsKept_below hg2')) (cellsKept_below ((Below.refl _ W2).alloc (Nat.le_refl _) (.cells #[.slice ua R.body.length ucap] 22)))
            rw [List.length_map] at hvk
            refine wpIn_append_row (base := w.heap.size + 4) (v := .slice av (frOf pre).length capv) (k := (frOf pre).length) (.tmp 16) (.tmp 19) rfl rfl hvk rfl (heap_alloc_new W2 _) rfl (by have := hlenq; rw [List.length_map] at this; omega) (by have := hg2'.size; simp; omega) ?_
            intro g' cap' w1 hown hgr
            obtain ⟨⟨hb0, hb1⟩, hfin⟩ := split_round (ls := (frOf pre).map (·.body)) (Nat.le_refl _) q0 hv1 hv2 hv3 q1 q2 hBW hszW hg2' hu (by rw [List.length_map]; exact hown) (by rw [List.length_map]; exact hgr)
            have d0 := hb0.cell
            have e0 := hb0.frozen
            have d1 := hb1.cell
            have e1 := hb1.frozen
            refine hK _ _ ?_
            clear hK K
            refine wpAnyIn_ready (rs := [5]) (by kernel_rfl) (by simp) ?_
            refine AllReadyIn.cons rfl (fun K hK => ?_) AllReadyIn.nil
            go_simp
            refine hK _ _ ?_
            clear hK K
            refine wpAnyIn_done (by kernel_rfl) ?_ _
            gi_wp2
            exact hend.out _ (hfin _)
      -- --SREDRO--
    · have hc1 : ((x.1.2.code : Int) != 0) = true := by simp; omega
      have c0 := q0.cell
      have f0 := q0.frozen
      have c1 := q1.cell
      have f1 := q1.frozen
      have f2 := q2.frozen
      have c2 := q2.cell
      obtain ⟨av, capv, rfl, _, _⟩ := ownsRow_shape qB.choose_spec.2.1
      rw [List.length_map] at qB q0
      have hT := SpI.told q0 qB q1 q2 hBW hszW x.1.2.code
      replace hT := Lib.hid hT
      gi_wp2
      gi_region
      all_goals
        gi_wp2
        refine ⟨?_, rfl, pre, x, rfl, hc, ?_⟩
        · exact hT.out.2.from _
        · exact hT.out.1
  case done =>
    rintro D ys W hD hys ⟨⟨hall, _⟩, hS⟩ hK
    rw [hys] at hall hS
    clear hys
    obtain ⟨⟨vb, q0, qB⟩, q1, q2, hBW, hszW⟩ := hS
    have e2 := (came_split bs.length bs (Nat.le_refl _)).1 hall
    clear hall
    generalize came bs = q at *
    obtain ⟨av, capv, rfl, _, _⟩ := ownsRow_shape qB.choose_spec.2.1
    rw [List.length_map] at qB q0
    have hT := SpI.told q0 qB q1 q2 hBW hszW 0
    have z0 : ((0 : Nat) : Int) = 0 := rfl
    rw [z0] at hT
    have c0 := q0.cell
    have f0 := q0.frozen
    have c1 := q1.cell
    have f1 := q1.frozen
    have c2 := q2.cell
    have f2 := q2.frozen
    replace hT := Lib.hid hT
    replace e2 := Lib.hid e2
    gi_wp2
    gi_region
    all_goals
      gi_wp2
      have hK' := hT.out.2.same D _ hK rfl
      refine ⟨by simp, .inl ⟨_, _, rfl, run_takeDeferred hK', ?_⟩⟩
      obtain ⟨⟨v', p0, pB⟩, p1, p2, p3, _⟩ := hT.out.1.put (Nat.le_refl _) (by omega) hK' rfl (o' := .deferred none)
      obtain ⟨bv, bcap, rfl, _, _⟩ := ownsRow_shape pB.choose_spec.2.1
      have r0 := p0.cell
      have r1 := p1.cell
      have r2 := p2.cell
      refine ⟨.tuple #[.slice bv (q.map (·.body)).length bcap, .int .i64 (lensL q : Nat), .int .i64 0], ?_, .slice bv (q.map (·.body)).length bcap, ?_, ?_, p3⟩
      · simp [results, Try.f20, go_sem, r0, r1, r2]
      · rw [e2.out]; rfl
      · rw [e2.out]; exact pB.lift (by omega)
  case stop =>
    rintro D pre W hD ⟨z, hz⟩ ⟨q, x, rfl, hc, hS⟩ hK
    have hq : came bs = frOf q ++ [x.1.2] ∧ z = [] := by
      rw [frOf_snoc] at hz
      exact came_ends hz hc
    obtain ⟨e2, _⟩ := (came_split bs.length bs (Nat.le_refl _)).2 _ _ hq.1 hc
    gi_wp2
    refine ⟨by simp, .inl ⟨_, _, rfl, run_takeDeferred hK, ?_⟩⟩
    obtain ⟨⟨v', p0, pB⟩, p1, p2, p3, _⟩ := hS.put (Nat.le_refl _) (by omega) hK rfl (o' := .deferred none)
    obtain ⟨bv, bcap, rfl, _, _⟩ := ownsRow_shape pB.choose_spec.2.1
    have r0 := p0.cell
    have r1 := p1.cell
    have r2 := p2.cell
    refine ⟨.tuple #[.slice bv ((frOf q).map (·.body)).length bcap, .int .i64 (lensL (frOf q) : Nat), .int .i64 (x.1.2.code : Int)], ?_, .slice bv ((frOf q).map (·.body)).length bcap, ?_, ?_, p3⟩
    · simp [results, Try.f20, go_sem, r0, r1, r2]
    · rw [e2]
    · rw [e2]; exact pB.lift (by omega)
end Go.Proofs.Ytdeloaknoadpiaa
