/- check's Asks (layer 11), walked. No condition. -/
import Derived.Test.YtnghfjlmmmjekaaAskR
import Derived.Test.YtnghfjlmmmjekaaAskN
import Derived.Test.YtnghfjlmmmjekaaCkM
import Derived.Test.YtnghfjlmmmjekaaCkU
namespace Go.Proofs.Ytnghfjlmmmjekaa
open Go.RowKit Go.Shelf

/-- Two rows lie in blocks of their own. -/
def ApartV (v u : Value) : Prop := ∀ g, v.ownBlock = some g → u.ownBlock ≠ some g
def asksF (er : Int) (op : Nat) (ts : List Tw) : List (List UInt8) := if er = 0 then insAll (namesOp op ts) [] else []
def AsksP (er : Int) (ts : List Tw) (w : World) (e : Ending) (w' : World) : Prop := ∃ a b c, e = .returned (.tuple #[a, b, c, .int .i64 er]) ∧ NamesAt w' w.heap.size a (asksF er 50 ts) ∧ NamesAt w' w.heap.size b (asksF er 51 ts) ∧ NamesAt w' w.heap.size c (asksF er 56 ts) ∧ ApartV a b ∧ Below w.heap.size w w'
theorem NamesAt.only {w W : World} {base : Nat} {v : Value} {ns : List (List UInt8)} {F : Nat → Prop} (h : NamesAt w base v ns) (ho : Only F w W) (hF : ∀ g, v.ownBlock = some g → ¬ F g) : NamesAt W base v ns :=
  ownsRow_only h ho (fun g hg e => hF g hg e)
/-- append of one name: which block the row is in behind it. -/
theorem wpList_append_nameB {w : World} {base : Nat} {v : Value} {ns : List (List UInt8)} {n : List UInt8} {ops : Array Oper} {rest : List Oper} {o : Oper} {a : Act} {Q : Exit → Act → World → Prop} (hgd : o.guard = none) (s x : Operand)
    (ho : o.op = .call { callee := .builtin .append, args := #[s, x], argTypes := #[34, 34] })
    (hs : a.eval s = v) (hown : NamesAt w base v ns) {G : Nat} (hx : a.eval x = .slice (some ⟨G, 0, none⟩) 1 1) (hc : w.cell? ⟨G, 0, none⟩ = some (strV n))
    (hk : ns.length ≤ 1000000000) (hbase : base ≤ w.heap.size)
    (h : ∀ a' cap w', NamesAt w' base (.slice a' (ns.length + 1) cap) (ns ++ [n]) → Only (fun k => v.ownBlock = some k) w w' → ((Value.slice a' (ns.length + 1) cap).ownBlock = v.ownBlock ∨ (Value.slice a' (ns.length + 1) cap).ownBlock = some w.heap.size) → wpList Try.prog ops Q rest (a.put o.dst (.slice a' (ns.length + 1) cap)) w') : wpList Try.prog ops Q (o :: rest) a w :=
  wpList_append_names hgd s x ho hs hown hx (.inr ⟨⟨G, 0, none⟩, 1, rfl, fun j y hj => by
    match j, hj with
    | 0, hj =>
      simp at hj
      subst hj
      simpa [Addr.add] using hc⟩) hk (by simp) hbase h
theorem ApartV.symm {v u : Value} (h : ApartV v u) : ApartV u v := fun g h1 h2 => h g h2 h1
theorem apart_new {v v' u : Value} {n : Nat} (h : ApartV v u) (hb : v'.ownBlock = v.ownBlock ∨ v'.ownBlock = some n) (hu : ∀ g, u.ownBlock = some g → g < n) : ApartV v' u := by
  intro g h1 h2
  rcases hb with e | e
  · exact h g (e ▸ h1) h2
  · rw [e] at h1
    injection h1 with h1
    have := hu g h2
    omega
theorem results_4 {fn : Func} {t u v x : Tmp} (h : fn.results = #[.tmp t, .tmp u, .tmp v, .tmp x]) (tmps : Array Value) (P : Program) (w : World) :
    (results fn tmps).run P w = .ok (.tuple #[tmps.getD t undef, tmps.getD u undef, tmps.getD v undef, tmps.getD x undef]) w := by
  simp [results, h]
set_option maxRecDepth 20000 in
set_option maxHeartbeats 4000000 in
theorem Asks_any {v : Value} {ts : List Tw} (w : World) (hT : TwIn w v ts) (hf : ∀ x ∈ ts, FitT x) {r : List Int × Int × Int} (hr : SlotsIs ts r) (hl : r.2.2 = 0 → ts.length ≤ 2048) :
    Calls Try.prog 13 #[v] w (AsksP r.2.2 ts w) := by
  have kN := Lib.hid (Names_any w hT hf hr)
  obtain ⟨l, at_, er⟩ := r
  dsimp only at kN hl ⊢
  obtain ⟨a, cap, rfl, hlc, hcm, h3⟩ := hT
  replace h3 := Lib.hid h3
  clear hf hr
  by_cases he : er = 0
  · subst he
    have hl2 := hl rfl
    clear hl
    go_enter Try.func13, Try.ntmps13
    go_wp2_with fail
    refine kN.out.mono ?_
    rintro e' w1 ⟨rfl, hb1⟩
    have hz1 := hb1.size
    replace hb1 := Lib.hid hb1
    go_wp2_with fail
    go_loopw [2, 3, 4, 7, 18] (fun t2 t3 t4 _ t18 wr => ∃ i : Nat, i ≤ ts.length ∧ t18 = .int .i64 i ∧ Hid (NamesAt wr w.heap.size t2 (namesOp 50 (ts.take i))) ∧ Hid (NamesAt wr w.heap.size t3 (namesOp 51 (ts.take i))) ∧ Hid (NamesAt wr w.heap.size t4 (namesOp 56 (ts.take i))) ∧ Hid (ApartV t2 t3 ∧ ApartV t2 t4 ∧ ApartV t3 t4) ∧ Hid (Below w.heap.size w wr)) (fun _ _ _ _ t18 _ => ts.length - (intOf t18).toNat)
    case atStart => exact ⟨0, Nat.zero_le _, rfl, Lib.hid (World.ownsRow_nil _ _ _ _), Lib.hid (World.ownsRow_nil _ _ _ _), Lib.hid (World.ownsRow_nil _ _ _ _), Lib.hid ⟨fun g h => (by cases h), fun g h => (by cases h), fun g h => (by cases h)⟩, hb1⟩
    case round =>
      obtain ⟨i, hi, rfl, hA, hB, hC, hap, hb⟩ := hrel
      rcases Nat.lt_or_ge i ts.length with hlt | hge
      · have hlti : (i : Int) < (ts.length : Int) := by omega
        obtain ⟨g, off, rfl, hg, hc⟩ := h3.out (by omega)
        have hY : ∀ c, c < 4 → wr.cell? ⟨g, off + i * 4 + c, none⟩ = (twC ts[i])[c]? := fun c hc4 => (hb.out.cell (p := ⟨g, off + i * 4 + c, none⟩) hg).trans (hc i hlt c hc4)
        have y0 := hY 0 (by omega); have y1 := hY 1 (by omega); have y2 := hY 2 (by omega); have y3 := hY 3 (by omega)
        have hTA := namesOp_take (op := 50) hlt
        have hTB := namesOp_take (op := 51) hlt
        have hTC := namesOp_take (op := 56) hlt
        have hbz := hb.out.size
        have hfew : ∀ op, (namesOp op (ts.take i)).length ≤ 5000 := by
          intro op
          have h2 := namesOp_len op (ts.take i)
          have h4 : (ts.take i).length ≤ ts.length := List.length_take_le' ..
          omega
        have hfA := hfew 50; have hfB := hfew 51; have hfC := hfew 56
        generalize ts[i] = x at *
        obtain ⟨xop, kids, num, text⟩ := x
        simp only [twC, List.getElem?_cons_zero, List.getElem?_cons_succ, Nat.add_zero] at y0 y1 y2 y3
        dsimp only at hTA hTB hTC
        obtain ⟨aa, ac, rfl, _, _⟩ := id hA.out.shape
        obtain ⟨ba, bc, rfl, _, _⟩ := id hB.out.shape
        obtain ⟨ca, cc, rfl, _, _⟩ := id hC.out.shape
        generalize namesOp 50 (ts.take i) = NA at *
        generalize namesOp 51 (ts.take i) = NB at *
        generalize namesOp 56 (ts.take i) = NC at *
        have hal := (Below.refl wr.heap.size wr).alloc (Nat.le_refl _) (.cells #[.int .u8 xop, .int .i64 kids, .int .i64 num, .string ⟨text.toArray⟩] 49)
        have hN := heap_alloc_new wr (.cells #[.int .u8 xop, .int .i64 kids, .int .i64 num, .string ⟨text.toArray⟩] 49 (0, 0))
        have n0 := cellC hN 0; have n3 := cellC hN 3
        simp only [List.getElem?_toArray, List.getElem?_cons_succ, List.getElem?_cons_zero] at n0 n3
        clear hY hc hfew
        by_cases h50 : xop = 50
        · subst h50
          rw [if_pos rfl] at hTA
          rw [if_neg (by decide), List.append_nil] at hTB
          rw [if_neg (by decide), List.append_nil] at hTC
          have hal2 := (Below.refl (wr.alloc (.cells #[.int .u8 ((50 : Nat) : Int), .int .i64 kids, .int .i64 num, .string ⟨text.toArray⟩] 49)).heap.size (wr.alloc (.cells #[.int .u8 ((50 : Nat) : Int), .int .i64 kids, .int .i64 num, .string ⟨text.toArray⟩] 49))).alloc (Nat.le_refl _) (.cells #[.string ⟨text.toArray⟩] 9)
          have hb3 := hb.out.trans ((hal.trans (hal2.mono hal.size)).mono hbz)
          have hA3 := Lib.hid ((hA.out.below hal).below hal2); have hB3 := Lib.hid ((hB.out.below hal).below hal2); have hC3 := Lib.hid ((hC.out.below hal).below hal2)
          have hz3 := hb3.size
          replace hb3 := Lib.hid hb3
          have hcA : ((wr.alloc (.cells #[.int .u8 ((50 : Nat) : Int), .int .i64 kids, .int .i64 num, .string ⟨text.toArray⟩] 49)).alloc (.cells #[.string ⟨text.toArray⟩] 9)).cell? ⟨wr.heap.size + 1, 0, none⟩ = some (strV text) := by rw [show wr.heap.size + 1 = (wr.alloc (.cells #[.int .u8 ((50 : Nat) : Int), .int .i64 kids, .int .i64 num, .string ⟨text.toArray⟩] 49)).heap.size by simp]; exact one_cell _ _ _ 0
          have hlow : Hid (∀ v, (v = Value.slice aa NA.length ac ∨ v = Value.slice ba NB.length bc ∨ v = Value.slice ca NC.length cc) → ∀ g, v.ownBlock = some g → g < ((wr.alloc (.cells #[.int .u8 ((50 : Nat) : Int), .int .i64 kids, .int .i64 num, .string ⟨text.toArray⟩] 49)).alloc (.cells #[.string ⟨text.toArray⟩] 9)).heap.size) := Lib.hid (by
            rintro v (rfl | rfl | rfl) g hg
            · exact (hA3.out.block hg).2.1
            · exact (hB3.out.block hg).2.1
            · exact (hC3.out.block hg).2.1)
          replace hTA := Lib.hid hTA; replace hTB := Lib.hid hTB; replace hTC := Lib.hid hTC
          clear hA hB hC hb hN hal hal2
          go_wp2_with (at_builtin; refine wpList_append_nameB (ns := NA) rfl _ _ rfl rfl hA3.out rfl hcA (by omega) hz3 ?_
                       intro a9 c9 w9 h9 o9 b9
                       obtain ⟨p1, p2, p3⟩ := hap.out
                       have hB4 := hB3.out.only o9 (fun g hg e => p1 g e hg)
                       have hC4 := hC3.out.only o9 (fun g hg e => p2 g e hg)
                       have hb4 := Lib.hid (hb3.out.trans (o9.below hz3 (fun k hk e => by have := (hA3.out.block e).1; omega)))
                       have hA5 : Hid (NamesAt w9 w.heap.size (.slice a9 (NA.length + 1) c9) (namesOp 50 (ts.take (i + 1)))) := Lib.hid (by rw [hTA.out]; exact h9)
                       have hB5 : Hid (NamesAt w9 w.heap.size (.slice ba NB.length bc) (namesOp 51 (ts.take (i + 1)))) := Lib.hid (by rw [hTB.out]; exact hB4)
                       have hC5 : Hid (NamesAt w9 w.heap.size (.slice ca NC.length cc) (namesOp 56 (ts.take (i + 1)))) := Lib.hid (by rw [hTC.out]; exact hC4)
                       have hap5 : Hid (ApartV (Value.slice a9 (NA.length + 1) c9) (Value.slice ba NB.length bc) ∧ ApartV (Value.slice a9 (NA.length + 1) c9) (Value.slice ca NC.length cc) ∧ ApartV (Value.slice ba NB.length bc) (Value.slice ca NC.length cc)) := Lib.hid (by
                         exact ⟨apart_new p1 b9 (fun g hg => hlow.out _ (.inr (.inl rfl)) g hg), apart_new p2 b9 (fun g hg => hlow.out _ (.inr (.inr rfl)) g hg), p3⟩)
                       clear h9 o9 b9 hb3 hA3 hB3 hC3 hlow p1 p2 p3 hB4 hC4)
          go_roundw
          case rel => exact ⟨i + 1, by omega, by go_num, hA5, hB5, hC5, hap5, hb4⟩
          case measure => simp [intOf]; omega
        · have q50 : ((xop : Int) == 50) = false := beq_eq_false_iff_ne.2 (by omega)
          by_cases h51 : xop = 51
          · subst h51
            rw [if_neg (by decide), List.append_nil] at hTA
            rw [if_pos rfl] at hTB
            rw [if_neg (by decide), List.append_nil] at hTC
            have hal2 := (Below.refl (wr.alloc (.cells #[.int .u8 ((51 : Nat) : Int), .int .i64 kids, .int .i64 num, .string ⟨text.toArray⟩] 49)).heap.size (wr.alloc (.cells #[.int .u8 ((51 : Nat) : Int), .int .i64 kids, .int .i64 num, .string ⟨text.toArray⟩] 49))).alloc (Nat.le_refl _) (.cells #[.string ⟨text.toArray⟩] 9)
            have hb3 := hb.out.trans ((hal.trans (hal2.mono hal.size)).mono hbz)
            have hA3 := Lib.hid ((hA.out.below hal).below hal2); have hB3 := Lib.hid ((hB.out.below hal).below hal2); have hC3 := Lib.hid ((hC.out.below hal).below hal2)
            have hz3 := hb3.size
            replace hb3 := Lib.hid hb3
            have hcA : ((wr.alloc (.cells #[.int .u8 ((51 : Nat) : Int), .int .i64 kids, .int .i64 num, .string ⟨text.toArray⟩] 49)).alloc (.cells #[.string ⟨text.toArray⟩] 9)).cell? ⟨wr.heap.size + 1, 0, none⟩ = some (strV text) := by rw [show wr.heap.size + 1 = (wr.alloc (.cells #[.int .u8 ((51 : Nat) : Int), .int .i64 kids, .int .i64 num, .string ⟨text.toArray⟩] 49)).heap.size by simp]; exact one_cell _ _ _ 0
            have hlow : Hid (∀ v, (v = Value.slice aa NA.length ac ∨ v = Value.slice ba NB.length bc ∨ v = Value.slice ca NC.length cc) → ∀ g, v.ownBlock = some g → g < ((wr.alloc (.cells #[.int .u8 ((51 : Nat) : Int), .int .i64 kids, .int .i64 num, .string ⟨text.toArray⟩] 49)).alloc (.cells #[.string ⟨text.toArray⟩] 9)).heap.size) := Lib.hid (by
              rintro v (rfl | rfl | rfl) g hg
              · exact (hA3.out.block hg).2.1
              · exact (hB3.out.block hg).2.1
              · exact (hC3.out.block hg).2.1)
            replace hTA := Lib.hid hTA; replace hTB := Lib.hid hTB; replace hTC := Lib.hid hTC
            clear hA hB hC hb hN hal hal2
            go_wp2_with (at_builtin; refine wpList_append_nameB (ns := NB) rfl _ _ rfl rfl hB3.out rfl hcA (by omega) hz3 ?_
                         intro a9 c9 w9 h9 o9 b9
                         obtain ⟨p1, p2, p3⟩ := hap.out
                         have hA4 := hA3.out.only o9 (fun g hg e => p1 g hg e)
                         have hC4 := hC3.out.only o9 (fun g hg e => p3 g e hg)
                         have hb4 := Lib.hid (hb3.out.trans (o9.below hz3 (fun k hk e => by have := (hB3.out.block e).1; omega)))
                         have hA5 : Hid (NamesAt w9 w.heap.size (.slice aa NA.length ac) (namesOp 50 (ts.take (i + 1)))) := Lib.hid (by rw [hTA.out]; exact hA4)
                         have hB5 : Hid (NamesAt w9 w.heap.size (.slice a9 (NB.length + 1) c9) (namesOp 51 (ts.take (i + 1)))) := Lib.hid (by rw [hTB.out]; exact h9)
                         have hC5 : Hid (NamesAt w9 w.heap.size (.slice ca NC.length cc) (namesOp 56 (ts.take (i + 1)))) := Lib.hid (by rw [hTC.out]; exact hC4)
                         have hap5 : Hid (ApartV (Value.slice aa NA.length ac) (Value.slice a9 (NB.length + 1) c9) ∧ ApartV (Value.slice aa NA.length ac) (Value.slice ca NC.length cc) ∧ ApartV (Value.slice a9 (NB.length + 1) c9) (Value.slice ca NC.length cc)) := Lib.hid (by
                           exact ⟨(apart_new p1.symm b9 (fun g hg => hlow.out _ (.inl rfl) g hg)).symm, p2, apart_new p3 b9 (fun g hg => hlow.out _ (.inr (.inr rfl)) g hg)⟩)
                         clear h9 o9 b9 hb3 hA3 hB3 hC3 hlow p1 p2 p3 hA4 hC4)
            go_roundw
            case rel => exact ⟨i + 1, by omega, by go_num, hA5, hB5, hC5, hap5, hb4⟩
            case measure => simp [intOf]; omega
          · have q51 : ((xop : Int) == 51) = false := beq_eq_false_iff_ne.2 (by omega)
            by_cases h56 : xop = 56
            · subst h56
              rw [if_neg (by decide), List.append_nil] at hTA
              rw [if_neg (by decide), List.append_nil] at hTB
              rw [if_pos rfl] at hTC
              have hal2 := (Below.refl (wr.alloc (.cells #[.int .u8 ((56 : Nat) : Int), .int .i64 kids, .int .i64 num, .string ⟨text.toArray⟩] 49)).heap.size (wr.alloc (.cells #[.int .u8 ((56 : Nat) : Int), .int .i64 kids, .int .i64 num, .string ⟨text.toArray⟩] 49))).alloc (Nat.le_refl _) (.cells #[.string ⟨text.toArray⟩] 9)
              have hb3 := hb.out.trans ((hal.trans (hal2.mono hal.size)).mono hbz)
              have hA3 := Lib.hid ((hA.out.below hal).below hal2); have hB3 := Lib.hid ((hB.out.below hal).below hal2); have hC3 := Lib.hid ((hC.out.below hal).below hal2)
              have hz3 := hb3.size
              replace hb3 := Lib.hid hb3
              have hcA : ((wr.alloc (.cells #[.int .u8 ((56 : Nat) : Int), .int .i64 kids, .int .i64 num, .string ⟨text.toArray⟩] 49)).alloc (.cells #[.string ⟨text.toArray⟩] 9)).cell? ⟨wr.heap.size + 1, 0, none⟩ = some (strV text) := by rw [show wr.heap.size + 1 = (wr.alloc (.cells #[.int .u8 ((56 : Nat) : Int), .int .i64 kids, .int .i64 num, .string ⟨text.toArray⟩] 49)).heap.size by simp]; exact one_cell _ _ _ 0
              have hlow : Hid (∀ v, (v = Value.slice aa NA.length ac ∨ v = Value.slice ba NB.length bc ∨ v = Value.slice ca NC.length cc) → ∀ g, v.ownBlock = some g → g < ((wr.alloc (.cells #[.int .u8 ((56 : Nat) : Int), .int .i64 kids, .int .i64 num, .string ⟨text.toArray⟩] 49)).alloc (.cells #[.string ⟨text.toArray⟩] 9)).heap.size) := Lib.hid (by
                rintro v (rfl | rfl | rfl) g hg
                · exact (hA3.out.block hg).2.1
                · exact (hB3.out.block hg).2.1
                · exact (hC3.out.block hg).2.1)
              replace hTA := Lib.hid hTA; replace hTB := Lib.hid hTB; replace hTC := Lib.hid hTC
              clear hA hB hC hb hN hal hal2
              go_wp2_with (at_builtin; refine wpList_append_nameB (ns := NC) rfl _ _ rfl rfl hC3.out rfl hcA (by omega) hz3 ?_
                           intro a9 c9 w9 h9 o9 b9
                           obtain ⟨p1, p2, p3⟩ := hap.out
                           have hA4 := hA3.out.only o9 (fun g hg e => p2 g hg e)
                           have hB4 := hB3.out.only o9 (fun g hg e => p3 g hg e)
                           have hb4 := Lib.hid (hb3.out.trans (o9.below hz3 (fun k hk e => by have := (hC3.out.block e).1; omega)))
                           have hA5 : Hid (NamesAt w9 w.heap.size (.slice aa NA.length ac) (namesOp 50 (ts.take (i + 1)))) := Lib.hid (by rw [hTA.out]; exact hA4)
                           have hB5 : Hid (NamesAt w9 w.heap.size (.slice ba NB.length bc) (namesOp 51 (ts.take (i + 1)))) := Lib.hid (by rw [hTB.out]; exact hB4)
                           have hC5 : Hid (NamesAt w9 w.heap.size (.slice a9 (NC.length + 1) c9) (namesOp 56 (ts.take (i + 1)))) := Lib.hid (by rw [hTC.out]; exact h9)
                           have hap5 : Hid (ApartV (Value.slice aa NA.length ac) (Value.slice ba NB.length bc) ∧ ApartV (Value.slice aa NA.length ac) (Value.slice a9 (NC.length + 1) c9) ∧ ApartV (Value.slice ba NB.length bc) (Value.slice a9 (NC.length + 1) c9)) := Lib.hid (by
                             exact ⟨p1, (apart_new p2.symm b9 (fun g hg => hlow.out _ (.inl rfl) g hg)).symm, (apart_new p3.symm b9 (fun g hg => hlow.out _ (.inr (.inl rfl)) g hg)).symm⟩)
                           clear h9 o9 b9 hb3 hA3 hB3 hC3 hlow p1 p2 p3 hA4 hB4)
              go_roundw
              case rel => exact ⟨i + 1, by omega, by go_num, hA5, hB5, hC5, hap5, hb4⟩
              case measure => simp [intOf]; omega
            · have q56 : ((xop : Int) == 56) = false := beq_eq_false_iff_ne.2 (by omega)
              rw [if_neg h50, List.append_nil] at hTA
              rw [if_neg h51, List.append_nil] at hTB
              rw [if_neg h56, List.append_nil] at hTC
              have hA2 : Hid (NamesAt (wr.alloc (.cells #[.int .u8 xop, .int .i64 kids, .int .i64 num, .string ⟨text.toArray⟩] 49)) w.heap.size (.slice aa NA.length ac) (namesOp 50 (ts.take (i + 1)))) := Lib.hid (by rw [hTA]; exact hA.out.below hal)
              have hB2 : Hid (NamesAt (wr.alloc (.cells #[.int .u8 xop, .int .i64 kids, .int .i64 num, .string ⟨text.toArray⟩] 49)) w.heap.size (.slice ba NB.length bc) (namesOp 51 (ts.take (i + 1)))) := Lib.hid (by rw [hTB]; exact hB.out.below hal)
              have hC2 : Hid (NamesAt (wr.alloc (.cells #[.int .u8 xop, .int .i64 kids, .int .i64 num, .string ⟨text.toArray⟩] 49)) w.heap.size (.slice ca NC.length cc) (namesOp 56 (ts.take (i + 1)))) := Lib.hid (by rw [hTC]; exact hC.out.below hal)
              have hb2 := Lib.hid (hb.out.trans (hal.mono hbz))
              replace hTA := Lib.hid hTA; replace hTB := Lib.hid hTB; replace hTC := Lib.hid hTC
              clear hA hB hC hb hN hal
              go_wp2_with fail
              go_roundw
              case rel => exact ⟨i + 1, by omega, by go_num, hA2, hB2, hC2, hap, hb2⟩
              case measure => simp [intOf]; omega
      · obtain rfl : i = ts.length := by omega
        have hlti : ¬ ((ts.length : Int) < (ts.length : Int)) := by omega
        rw [List.take_length] at hA hB hC
        have hfA := namesOp_len 50 ts; have hfB := namesOp_len 51 ts; have hfC := namesOp_len 56 ts
        obtain ⟨aa, ac, rfl, _, _⟩ := id hA.out.shape
        obtain ⟨ba, bc, rfl, _, _⟩ := id hB.out.shape
        obtain ⟨ca, cc, rfl, _, _⟩ := id hC.out.shape
        have rA := ris_is (namesOp 50 ts); have rB := ris_is (namesOp 51 ts); have rC := ris_is (namesOp 56 ts)
        have eA : asksF 0 50 ts = risF (namesOp 50 ts) := by unfold asksF; rw [if_pos rfl, rA]
        have eB : asksF 0 51 ts = risF (namesOp 51 ts) := by unfold asksF; rw [if_pos rfl, rB]
        have eC : asksF 0 56 ts = risF (namesOp 56 ts) := by unfold asksF; rw [if_pos rfl, rC]
        replace eA := Lib.hid eA; replace eB := Lib.hid eB; replace eC := Lib.hid eC
        clear rA rB rC
        generalize namesOp 50 ts = NA at *
        generalize namesOp 51 ts = NB at *
        generalize namesOp 56 ts = NC at *
        obtain ⟨p1, p2, p3⟩ := hap.out
        have kA := Lib.hid (rising_any hA.out (by omega))
        go_wp2_with fail
        refine kA.out.mono ?_
        rintro e' wa ⟨va, rfl, hA2, sA, oA⟩
        have hB2 := hB.out.only oA (fun g hg e => p1 g e hg)
        have hC2 := hC.out.only oA (fun g hg e => p2 g e hg)
        have hwz := hb.out.size
        have hbA := Lib.hid (hb.out.trans (oA.below hwz (fun k hk e => by have := (hA.out.block e).1; omega)))
        have kB := Lib.hid (rising_any hB2 (by omega))
        replace hA2 := Lib.hid hA2; replace hC2 := Lib.hid hC2; replace hB2 := Lib.hid hB2
        have hsA := Lib.hid sA
        clear hA hB hC hb kA oA sA
        go_wp2_with fail
        refine kB.out.mono ?_
        rintro e' wb ⟨vb, rfl, hB3, sB, oB⟩
        have hA3 := hA2.out.only oB (fun g hg e => p1 g (hsA.out g hg) e)
        have hC3 := hC2.out.only oB (fun g hg e => p3 g e hg)
        have hwz2 := hbA.out.size
        have hbB := Lib.hid (hbA.out.trans (oB.below hwz2 (fun k hk e => by have := (hB2.out.block e).1; omega)))
        have kC := Lib.hid (rising_any hC3 (by omega))
        replace hA3 := Lib.hid hA3; replace hC3 := Lib.hid hC3; replace hB3 := Lib.hid hB3
        have hsB := Lib.hid sB
        clear hA2 hB2 hC2 hbA kB oB sB
        go_wp2_with fail
        refine kC.out.mono ?_
        rintro e' wc ⟨vc, rfl, hC4, sC, oC⟩
        have hA4 := hA3.out.only oC (fun g hg e => p2 g (hsA.out g hg) e)
        have hB4 := hB3.out.only oC (fun g hg e => p3 g (hsB.out g hg) e)
        have hwz3 := hbB.out.size
        have hbC := Lib.hid (hbB.out.trans (oC.below hwz3 (fun k hk e => by have := (hC3.out.block e).1; omega)))
        have hap2 : Hid (ApartV va vb) := Lib.hid (fun g h1 h2 => p1 g (hsA.out g h1) (hsB.out g h2))
        have fA : Hid (NamesAt wc w.heap.size va (asksF 0 50 ts)) := Lib.hid (by rw [eA.out]; exact hA4)
        have fB : Hid (NamesAt wc w.heap.size vb (asksF 0 51 ts)) := Lib.hid (by rw [eB.out]; exact hB4)
        have fC : Hid (NamesAt wc w.heap.size vc (asksF 0 56 ts)) := Lib.hid (by rw [eC.out]; exact hC4)
        clear hA3 hB3 hC3 hbB kC oC sC hA4 hB4 hC4
        go_wp2_with fail
        refine bodyPost_ret (results_4 rfl _ _ _) rfl ?_
        exact ⟨_, _, _, rfl, fA.out, fB.out, fC.out, hap2.out, hbC.out⟩
  · have hq : (er != 0) = true := bne_iff_ne.2 he
    have hnil : ∀ op W, NamesAt W w.heap.size (.slice none 0 0) (asksF er op ts) := by
      intro op W
      unfold asksF
      rw [if_neg he]
      exact World.ownsRow_nil _ _ _ _
    replace hnil := Lib.hid hnil
    clear hl he
    go_enter Try.func13, Try.ntmps13
    go_wp2_with fail
    refine kN.out.mono ?_
    rintro e' w1 ⟨rfl, hb1⟩
    replace hb1 := Lib.hid hb1
    go_wp2_with fail
    refine bodyPost_ret (results_4 rfl _ _ _) rfl ?_
    exact ⟨_, _, _, rfl, hnil.out 50 _, hnil.out 51 _, hnil.out 56 _, fun g h => (by cases h), hb1.out⟩
end Go.Proofs.Ytnghfjlmmmjekaa
