/- A part of the proof: TDoc7, TDoc8, TDoc2, TDocS, TDocT. No condition. -/
import Derived.Test.YtngbekhegnmfaaaGreatDoorQ04
import Derived.Test.YtngbekhegnmfaaaGreatDoorQ05
import Derived.Test.YtngbekhegnmfaaaGreatDoorQ21
import Derived.Test.YtngbekhegnmfaaaGreatDoorQ22
set_option linter.unusedVariables false
set_option linter.unusedSimpArgs false
namespace Go.Proofs.YtngbekhegnmfaaaGreatDoor
open Go.RowKit Tok
namespace Tok
def hexR : Nat → List UInt8 → Nat → Nat → Item
 | 0, _, n, x => .ok x.toUInt8 n
 | _ + 1, [], n, _ => .bad n 4
 | j + 1, c :: l, n, x => match hexV c with
   | none => .bad n 9
   | some d => hexR j l (n + 1) (16 * x + d)
theorem hexT_R (r : List UInt8) : hexT r = hexR 2 r 2 0 := by
 match r with
 | [] => rfl
 | [e] => simp only [hexT, hexR]; cases hexV e <;> rfl
 | e :: f :: l =>
   simp only [hexT, hexR];cases hexV e with
   | none => rfl
   | some x => cases hexV f <;> simp
theorem hexV_lt {c : UInt8} {d : Nat} (h : hexV c = some d) : d < 16 := by
 unfold hexV digC at h;split at h
 · rename_i h1
   have h2 := of_decide_eq_true h1;cases h; omega
 · split at h
   · cases h; omega
   · cases h
theorem itemT_esc (r : List UInt8) : itemT 92 r = match r with
   | [] => .bad 1 4
   | d :: r => if d.toNat = 34 ∨ d.toNat = 92 then .ok d 2 else if d.toNat = 110 then .ok 10 2 else if d.toNat = 120 then hexR 2 r 2 0 else .bad 1 9 := by
 unfold itemT;rw [if_neg (by decide), if_neg (by decide)];cases r with
 | nil => rfl
 | cons d r => simp only [hexT_R]
end Tok
def hexI (c : UInt8) : Int := match hexV c with | none => -1 | some d => d
set_option maxHeartbeats 1000000 in
theorem refHex_any (c : UInt8) (w : World) : Calls Tryz.prog 158 #[.int .u8 (c.toNat : Int)] w fun e w' => e = .returned (.int .i64 (hexI c)) ∧ w' = w := by
 obtain ⟨V, hV⟩ := exHid (hexI c);rw [hV.out];have hv := hV.out;unfold hexI hexV at hv;rcases hd : digC c with _ | _
 · rw [hd] at hv
   have k := Lib.hid (calls_at (refDig_any c w) hd);by_cases h1 : 97 ≤ c.toNat ∧ c.toNat ≤ 102
   · rw [if_neg (by simp), if_pos h1] at hv
     simp only at hv;have i1 : (97 : Int) ≤ (c.toNat : Int) := by omega
     have i2 : (c.toNat : Int) ≤ 102 := by omega
     replace hv := Lib.hid hv;clear hd h1 hV;go_enter Tryz.func158, Tryz.ntmps158
     go_wp2_with fail
     refine k.out.mono ?_;rintro e w2 ⟨rfl, rfl⟩;go_wp2
     go_ret
     exact ⟨ret_int (by rw [← hv.out]; omega), rfl⟩
   · rw [if_neg (by simp), if_neg h1] at hv
     simp only at hv;replace hv := Lib.hid hv;have i3 : ¬ (97 : Int) ≤ (c.toNat : Int) ∨ ((97 : Int) ≤ (c.toNat : Int) ∧ ¬ (c.toNat : Int) ≤ 102) := by omega
     clear hd h1 hV;rcases i3 with i1 | ⟨i1, i2⟩
     all_goals
       go_enter Tryz.func158, Tryz.ntmps158
       go_wp2_with fail
       refine k.out.mono ?_;rintro e w2 ⟨rfl, rfl⟩;go_wp2
       go_ret
       exact ⟨ret_int (by rw [← hv.out]), rfl⟩
 · rw [hd, if_pos rfl] at hv
   simp only at hv;have k := Lib.hid (calls_at (refDig_any c w) hd);have i1 := of_decide_eq_true hd;replace hv := Lib.hid hv;clear hd hV;go_enter Tryz.func158, Tryz.ntmps158
   go_wp2_with fail
   refine k.out.mono ?_;rintro e w2 ⟨rfl, rfl⟩;go_wp2
   go_ret
   exact ⟨ret_int (by rw [← hv.out]; omega), rfl⟩
def escV (p : Nat) : Tok.Item → Value
 | .ok b n => .tuple #[.int .u8 b.toNat, .int .i64 ((p + n : Nat) : Int), .int .i64 0, .int .i64 0]
 | .bad n e => .tuple #[.int .u8 0, .int .i64 0, .int .i64 ((p + n : Nat) : Int), .int .i64 e]
theorem results_four {fn : Func} {t u v x : Tmp} (h : fn.results = #[.tmp t, .tmp u, .tmp v, .tmp x]) (tmps : Array Value) (P : Program) (w : World) :
   (results fn tmps).run P w = .ok (.tuple #[tmps.getD t undef, tmps.getD u undef, tmps.getD v undef, tmps.getD x undef]) w := by
 simp [results, h]
theorem hexI_some {c : UInt8} {d : Nat} (h : hexV c = some d) : hexI c = (d : Int) := by unfold hexI; rw [h]
theorem hexI_none {c : UInt8} (h : hexV c = none) : hexI c = -1 := by unfold hexI; rw [h]
theorem hex_call {c : UInt8} {v : Int} (h : hexI c = v) (w : World) : Calls Tryz.prog 158 #[.int .u8 (c.toNat : Int)] w fun e w' => e = .returned (.int .i64 v) ∧ w' = w := by
 have := refHex_any c w
 rwa [h] at this
set_option maxRecDepth 20000 in
set_option maxHeartbeats 4000000 in
theorem refEscape_any (s : ByteArray) (p : Nat) (w : World) (hs : s.size ≤ 1000000) (hp : p + 1 ≤ s.size) :
   Calls Tryz.prog 141 #[.string s, .int .i64 ((p + 1 : Nat) : Int)] w fun e w' => e = .returned (escV p (itemT 92 (s.data.toList.drop (p + 1)))) ∧ w' = w := by
 obtain ⟨V, hV⟩ := exHid (escV p (itemT 92 (s.data.toList.drop (p + 1))));rw [hV.out];have hv := hV.out;rw [itemT_esc] at hv;clear hV;generalize hq : p + 1 = q at *;rcases Nat.lt_or_ge q s.size with hlt | hge
 · have hlti : ¬ (s.size : Int) ≤ (q : Int) := by omega
   rw [at_drop hlt] at hv;simp only at hv;by_cases h1 : s[q].toNat = 34 ∨ s[q].toNat = 92
   · rw [if_pos h1] at hv
     have h12 : (((s[q].toNat : Int) == 34) = true) ∨ (((s[q].toNat : Int) == 34) = false ∧ ((s[q].toNat : Int) == 92) = true) := by
       rcases h1 with h1 | h1
       · left; rw [h1]; rfl
       · right; rw [h1]; exact ⟨rfl, rfl⟩
     replace hv := Lib.hid hv;clear h1;rcases h12 with q1 | ⟨q1, q2⟩
     all_goals
       go_enter Tryz.func141, Tryz.ntmps141
       go_wp2
       refine bodyPost_ret (results_four rfl _ _ _) rfl ?_;exact ⟨by rw [← hv.out]; simp [escV]; omega, rfl⟩
   · rw [if_neg h1] at hv
     have n1 : ((s[q].toNat : Int) == 34) = false := beq_eq_false_iff_ne.2 (by omega);have n2 : ((s[q].toNat : Int) == 92) = false := beq_eq_false_iff_ne.2 (by omega);by_cases h3 : s[q].toNat = 110
     · rw [if_pos h3] at hv
       have q3 : ((s[q].toNat : Int) == 110) = true := by rw [h3]; rfl
       replace hv := Lib.hid hv;clear h1;replace h3 := Lib.hid h3;go_enter Tryz.func141, Tryz.ntmps141
       go_wp2
       refine bodyPost_ret (results_four rfl _ _ _) rfl ?_;exact ⟨by rw [← hv.out]; simp [escV]; omega, rfl⟩
     · rw [if_neg h3] at hv
       have n3 : ((s[q].toNat : Int) == 110) = false := beq_eq_false_iff_ne.2 (by omega);by_cases h4 : s[q].toNat = 120
       · rw [if_pos h4] at hv
         have q4 : ((s[q].toNat : Int) != 120) = false := by rw [h4]; rfl
         replace hv := Lib.hid hv;clear h1 h3;replace h4 := Lib.hid h4;go_enter Tryz.func141, Tryz.ntmps141
         go_wp2
         go_loop [9, 10, 11] (fun t9 t10 _ => ∃ (j x : Nat), j ≤ 2 ∧ q + 1 + j ≤ s.size ∧ x < 256 ∧ (j ≤ 1 → x < 16) ∧ (j = 0 → x = 0) ∧ t10 = .int .i64 ((q + 1 + j : Nat) : Int) ∧ t9 = .int .i64 x ∧ Hid (escV p (hexR (2 - j) (s.data.toList.drop (q + 1 + j)) (2 + j) x) = V)) (fun _ t10 _ => q + 10 - (intOf t10).toNat)
         case atStart => exact ⟨0, 0, by omega, by omega, by omega, by omega, by omega, rfl, rfl, hv⟩
         case round =>
           obtain ⟨j, x, hj, hqj, hx, hx1, hx0, rfl, rfl, hR⟩ := hrel;rcases Nat.lt_or_ge j 2 with hj2 | hj2
           · have hji : ((q + 1 + j : Nat) : Int) < (q : Int) + 3 := by omega
             rcases Nat.lt_or_ge (q + 1 + j) s.size with hz | hz
             · have hzi : ¬ (s.size : Int) ≤ ((q + 1 + j : Nat) : Int) := by omega
               have hR2 := hR.out;rw [at_drop hz, show 2 - j = (1 - j) + 1 by omega] at hR2;unfold hexR at hR2;rcases hd : hexV s[q + 1 + j] with _ | d
               · rw [hd] at hR2
                 simp only at hR2;have k := Lib.hid (fun W => hex_call (hexI_none hd) W);replace hR2 := Lib.hid hR2;clear hd hR;have hpj : p + (2 + j) = q + 1 + j := by omega
                 rw [show escV p (.bad (2 + j) 9) = .tuple #[.int .u8 0, .int .i64 0, .int .i64 ((p + (2 + j) : Nat) : Int), .int .i64 (9 : Nat)] from rfl, hpj] at hR2;generalize q + 1 + j = m at *;go_wp2_with fail
                 refine (k.out _).mono ?_;rintro e w2 ⟨rfl, rfl⟩;go_wp2
                 refine bodyPost_ret (results_four rfl _ _ _) rfl ?_;exact ⟨by rw [← hR2.out]; rfl, rfl⟩
               · rw [hd] at hR2
                 simp only at hR2;have hd16 := hexV_lt hd;have k := Lib.hid (fun W => hex_call (hexI_some hd) W);rw [show 1 - j = 2 - (j + 1) by omega, show 2 + j + 1 = 2 + (j + 1) by omega, show q + 1 + j + 1 = q + 1 + (j + 1) by omega] at hR2;replace hR2 := Lib.hid hR2;clear hd hR;generalize hm : q + 1 + j = m at *;go_wp2_with fail
                 refine (k.out _).mono ?_;rintro e w2 ⟨rfl, rfl⟩;go_wp2
                 go_round
                 case rel => exact ⟨j + 1, 16 * x + d, by omega, by omega, by omega, by omega, by omega, by rw [show q + 1 + (j + 1) = m + 1 by omega]; go_num, by go_num, hR2⟩
                 case measure => simp [intOf]; omega
             · have hzi : (s.size : Int) ≤ ((q + 1 + j : Nat) : Int) := by omega
               have hR2 := hR.out;rw [no_drop hz, show 2 - j = (1 - j) + 1 by omega] at hR2;unfold hexR at hR2;have hsz : q + 1 + j = s.size := by omega
               rw [show escV p (.bad (2 + j) 4) = .tuple #[.int .u8 0, .int .i64 0, .int .i64 ((p + (2 + j) : Nat) : Int), .int .i64 (4 : Nat)] from rfl, show p + (2 + j) = s.size by omega] at hR2;replace hR2 := Lib.hid hR2;clear hR;generalize q + 1 + j = m at *;go_wp2
               refine bodyPost_ret (results_four rfl _ _ _) rfl ?_;exact ⟨by rw [← hR2.out]; rfl, rfl⟩
           · obtain rfl : j = 2 := by omega
             have hji : ¬ ((q + 1 + 2 : Nat) : Int) < (q : Int) + 3 := by omega
             have hc8 : IntKind.u8.wrap (x : Int) = (x : Int) := by rw [IntKind.wrap_u8']; omega
             have hR2 := hR.out;rw [show 2 - 2 = 0 by omega] at hR2;unfold hexR at hR2;rw [show escV p (.ok x.toUInt8 (2 + 2)) = .tuple #[.int .u8 (x.toUInt8.toNat : Nat), .int .i64 ((p + (2 + 2) : Nat) : Int), .int .i64 0, .int .i64 0] from rfl, show x.toUInt8.toNat = x by simp; omega, show p + (2 + 2) = q + 3 by omega] at hR2;replace hR2 := Lib.hid hR2;clear hR;go_wp2
             refine bodyPost_ret (results_four rfl _ _ _) rfl ?_;exact ⟨by rw [← hR2.out]; simp, rfl⟩
       · rw [if_neg h4] at hv
         have q4 : ((s[q].toNat : Int) != 120) = true := by simp; omega
         replace hv := Lib.hid hv;clear h1 h3;go_enter Tryz.func141, Tryz.ntmps141
         go_wp2
         refine bodyPost_ret (results_four rfl _ _ _) rfl ?_;exact ⟨by rw [← hv.out]; simp [escV]; omega, rfl⟩
 · have hlti : (s.size : Int) ≤ (q : Int) := by omega
   rw [no_drop hge] at hv;simp only at hv;replace hv := Lib.hid hv;go_enter Tryz.func141, Tryz.ntmps141
   go_wp2
   refine bodyPost_ret (results_four rfl _ _ _) rfl ?_;exact ⟨by rw [← hv.out]; simp [escV]; omega, rfl⟩
end Go.Proofs.YtngbekhegnmfaaaGreatDoor
namespace Go.Proofs.YtngbekhegnmfaaaGreatDoor
open Go.RowKit Tok
def Told0 (w : World) (b : Nat) : Prop := w.heap[b]? = some (.cells #[.int .u8 0, .string ⟨#[]⟩, .int .i64 0, .int .i64 0, .int .i64 0, .int .i64 0, .int .i64 0] 107 (0, 0))
theorem Told0.cell {w : World} {b : Nat} (h : Told0 w b) (j : Nat) : w.cell? ⟨b, j, none⟩ = (#[.int .u8 0, .string ⟨#[]⟩, .int .i64 0, .int .i64 0, .int .i64 0, .int .i64 0, .int .i64 0] : Array Value)[j]? ∧ w.frozen? ⟨b, j, none⟩ = false := by
 unfold Told0 at h;simp [World.cell?, World.frozen?, h]
theorem Told0.alloc {w : World} {b : Nat} (h : Told0 w b) (o : Obj) : Told0 (w.alloc o) b := by
 have hlt : b < w.heap.size := (Array.getElem?_eq_some_iff.1 h).1;exact (((Below.refl w.heap.size w).alloc (Nat.le_refl _) o).block b hlt).trans h
theorem Told0.below {w W : World} {b B : Nat} (h : Told0 w b) (hb : Below B w W) (hB : b < B) : Told0 W b := (hb.block b hB).trans h
theorem told0_cells {w : World} {b : Nat} (h : Told0 w b) : w.cell? ⟨b, 0, none⟩ = some (.int .u8 0) ∧ w.cell? ⟨b, 1, none⟩ = some (.string ⟨#[]⟩) ∧ w.cell? ⟨b, 2, none⟩ = some (.int .i64 0) ∧ w.cell? ⟨b, 3, none⟩ = some (.int .i64 0) ∧ w.cell? ⟨b, 4, none⟩ = some (.int .i64 0) ∧ w.cell? ⟨b, 5, none⟩ = some (.int .i64 0) ∧ w.cell? ⟨b, 6, none⟩ = some (.int .i64 0) :=
 ⟨(h.cell 0).1, (h.cell 1).1, (h.cell 2).1, (h.cell 3).1, (h.cell 4).1, (h.cell 5).1, (h.cell 6).1⟩
theorem told0_frozen {w : World} {b : Nat} (h : Told0 w b) : w.frozen? ⟨b, 0, none⟩ = false ∧ w.frozen? ⟨b, 1, none⟩ = false ∧ w.frozen? ⟨b, 2, none⟩ = false ∧ w.frozen? ⟨b, 3, none⟩ = false ∧ w.frozen? ⟨b, 4, none⟩ = false ∧ w.frozen? ⟨b, 5, none⟩ = false ∧ w.frozen? ⟨b, 6, none⟩ = false :=
 ⟨(h.cell 0).2, (h.cell 1).2, (h.cell 2).2, (h.cell 3).2, (h.cell 4).2, (h.cell 5).2, (h.cell 6).2⟩
theorem told_set7 {w : World} {b : Nat} (h : Told0 w b) (v0 v1 v2 v3 v4 v5 v6 : Value) : (((((((w.setCell ⟨b, 0, none⟩ v0).setCell ⟨b, 1, none⟩ v1).setCell ⟨b, 2, none⟩ v2).setCell ⟨b, 3, none⟩ v3).setCell ⟨b, 4, none⟩ v4).setCell ⟨b, 5, none⟩ v5).setCell ⟨b, 6, none⟩ v6).heap[b]? = some (.cells #[v0, v1, v2, v3, v4, v5, v6] 107 (0, 0)) := by
 have h1 := heap_setCell_same _ _ 0 _ _ v0 h;have h2 := heap_setCell_same _ _ 1 _ _ v1 h1;have h3 := heap_setCell_same _ _ 2 _ _ v2 h2;have h4 := heap_setCell_same _ _ 3 _ _ v3 h3;have h5 := heap_setCell_same _ _ 4 _ _ v4 h4;have h6 := heap_setCell_same _ _ 5 _ _ v5 h5;have h7 := heap_setCell_same _ _ 6 _ _ v6 h6
 simpa using h7
theorem below_set7 {w W : World} {B b : Nat} (hb : Below B w W) (h : B ≤ b) (v0 v1 v2 v3 v4 v5 v6 : Value) : Below B w (((((((W.setCell ⟨b, 0, none⟩ v0).setCell ⟨b, 1, none⟩ v1).setCell ⟨b, 2, none⟩ v2).setCell ⟨b, 3, none⟩ v3).setCell ⟨b, 4, none⟩ v4).setCell ⟨b, 5, none⟩ v5).setCell ⟨b, 6, none⟩ v6) :=
 ((((((hb.setCell (p := ⟨b, 0, none⟩) h v0).setCell (p := ⟨b, 1, none⟩) h v1).setCell (p := ⟨b, 2, none⟩) h v2).setCell (p := ⟨b, 3, none⟩) h v3).setCell (p := ⟨b, 4, none⟩) h v4).setCell (p := ⟨b, 5, none⟩) h v5).setCell (p := ⟨b, 6, none⟩) h v6
theorem plain_w (c : UInt8) : (plainC c = false ∧ (c.toNat : Int) < 32) ∨ (plainC c = false ∧ ¬ (c.toNat : Int) < 32 ∧ (126 : Int) < (c.toNat : Int)) ∨ (plainC c = true ∧ ¬ (c.toNat : Int) < 32 ∧ ¬ (126 : Int) < (c.toNat : Int)) := by
 unfold plainC;simp only [decide_eq_false_iff_not, decide_eq_true_eq];omega
theorem itemT_not {c : UInt8} {r : List UInt8} (h : plainC c = false) : itemT c r = .bad 0 9 := by unfold itemT; rw [if_pos h]
theorem itemT_one {c : UInt8} {r : List UInt8} (h : plainC c = true) (h2 : c.toNat ≠ 92) : itemT c r = .ok c 1 := by unfold itemT; rw [if_neg (by rw [h]; simp), if_pos h2]
theorem itemT_92 {c : UInt8} {r : List UInt8} (h2 : c.toNat = 92) : itemT c r = itemT 92 r := by
 have hc : c = 92 := UInt8.toNat.inj h2;rw [hc]
theorem esc_call {s : ByteArray} {p : Nat} {I : Tok.Item} (hI : itemT 92 (s.data.toList.drop (p + 1)) = I) (hs : s.size ≤ 1000000) (hp : p + 1 ≤ s.size) (w : World) :
   Calls Tryz.prog 141 #[.string s, .int .i64 ((p : Int) + 1)] w fun e w' => e = .returned (escV p I) ∧ w' = w := by
 have := refEscape_any s p w hs hp;rw [hI] at this
 rwa [show ((p + 1 : Nat) : Int) = (p : Int) + 1 by omega] at this
set_option maxRecDepth 20000 in
set_option maxHeartbeats 4000000 in
theorem refText_any (s : ByteArray) (i : Nat) (w : World) (hs : s.size ≤ 1000000) (hi : i < s.size) :
   Calls Tryz.prog 115 #[.string s, .int .i64 i] w fun e w' => e = .returned (resT i (textT (s.data.toList.drop i))) ∧ Below w.heap.size w w' := by
 have hT0 : textT (s.data.toList.drop i) = textR (s.data.toList.drop (i + 1)) [] 1 := by unfold textT; rw [List.drop_drop]
 rw [hT0];obtain ⟨V, hV⟩ := exHid (resT i (textR (s.data.toList.drop (i + 1)) [] 1));rw [hV.out];clear hT0;have hb0 := Lib.hid ((Below.refl w.heap.size w).alloc (Nat.le_refl _) (.cells #[.int .u8 0, .string ⟨#[]⟩, .int .i64 0, .int .i64 0, .int .i64 0, .int .i64 0, .int .i64 0] 107));have hk0 : Hid (Told0 (w.alloc (.cells #[.int .u8 0, .string ⟨#[]⟩, .int .i64 0, .int .i64 0, .int .i64 0, .int .i64 0, .int .i64 0] 107)) w.heap.size) := heap_alloc_new w _;go_enter Tryz.func115, Tryz.ntmps115
 go_wp2
 go_loopw [5, 6, 7, 8, 9, 10, 11, 12] (fun t5 t6 _ _ _ _ _ _ wr => ∃ (n : Nat) (acc : List UInt8), i + 1 ≤ n ∧ n ≤ s.size ∧ t6 = .int .i64 n ∧ acc.length ≤ 4095 ∧ Hid (BufU wr (w.heap.size + 1) t5 acc) ∧ Hid (Below w.heap.size w wr) ∧ Hid (Told0 wr w.heap.size) ∧ Hid (resT i (textR (s.data.toList.drop n) acc (n - i)) = V)) (fun _ t6 _ _ _ _ _ _ _ => s.size - (intOf t6).toNat)
 case atStart => exact ⟨i + 1, [], by omega, by omega, by go_num, by simp, World.ownsRow_nil _ _ _ _, hb0, hk0, by rw [show i + 1 - i = 1 by omega]; exact hV⟩
 case round =>
   obtain ⟨n, acc, hn1, hn, rfl, hacc, hB, hb, hk, hT⟩ := hrel;obtain ⟨a5, c5, rfl, _, _⟩ := hB.out.shape;have hsz := hb.out.size;have hlt0 : w.heap.size < wr.heap.size := (Array.getElem?_eq_some_iff.1 hk.out).1;rcases Nat.lt_or_ge n s.size with hlt | hge
   · have hlti : (n : Int) < (s.size : Int) := by omega
     have hT' := hT.out;rw [at_drop hlt] at hT';by_cases c34 : s[n].toNat = 34
     · have q1 : (((s[n].toNat : Nat) : Int) != 34) = false := by rw [c34]; rfl
       rw [textR_end _ _ _ c34] at hT';have hstr := hB.out.string;obtain ⟨x0, x1, x2, x3, x4, x5, x6⟩ := told0_cells hk.out;obtain ⟨y0, y1, y2, y3, y4, y5, y6⟩ := told0_frozen hk.out;replace hT' := Lib.hid hT';replace c34 := Lib.hid c34;clear hT;go_wp2
       refine bodyPost_ret (results_cell_row rfl _ _ w.heap.size _ _ (0, 0) _ rfl (told_set7 hk.out _ _ _ _ _ _ _) Tryz.underlying107 rfl (by kernel_rfl)) rfl ⟨?_, below_set7 hb.out (Nat.le_refl _) _ _ _ _ _ _ _⟩;rw [← hT'.out];simp [resT, toldV]
       omega
     · have q1 : (((s[n].toNat : Nat) : Int) != 34) = true := by simp; omega
       rcases plain_w s[n] with ⟨hp, i32⟩ | ⟨hp, i32, i126⟩ | ⟨hp, i32, i126⟩
       case inl | inr.inl =>
         rw [textR_bad _ _ c34 (itemT_not hp)] at hT';replace hT' := Lib.hid hT';replace hp := Lib.hid hp;clear hT;go_wp2_with (go_at_call 140; refine (refWrong_any n 9 _).mono ?_; rintro e w' ⟨rfl, hw⟩; have hk2 : Told0 w' w.heap.size := (by rw [hw]; exact hk.out.alloc _); have hb2 : Below w.heap.size w w' := (by rw [hw]; exact hb.out.alloc hsz _); replace hw := Lib.hid hw; obtain ⟨x0, x1, x2, x3, x4, x5, x6⟩ := told0_cells hk2; obtain ⟨y0, y1, y2, y3, y4, y5, y6⟩ := told0_frozen hk2)
         refine bodyPost_ret (results_cell_row rfl _ _ w.heap.size _ _ (0, 0) _ rfl (told_set7 hk2 _ _ _ _ _ _ _) Tryz.underlying107 rfl (by kernel_rfl)) rfl ⟨?_, below_set7 hb2 (Nat.le_refl _) _ _ _ _ _ _ _⟩;rw [← hT'.out];simp [resT, toldV]
         omega
       by_cases c92 : s[n].toNat = 92
       · have q92 : (((s[n].toNat : Nat) : Int) == 92) = true := by rw [c92]; rfl
         have hIe : itemT s[n] (s.data.toList.drop (n + 1)) = itemT 92 (s.data.toList.drop (n + 1)) := itemT_92 c92;rcases hi2 : itemT 92 (s.data.toList.drop (n + 1)) with ⟨b, k⟩ | ⟨k, e⟩
         · have k1 := Lib.hid (fun W => esc_call hi2 hs hlt W)
           unfold escV at k1;dsimp only at k1;rw [hi2] at hIe;have hkp := itemT_pos hIe;have hkl := itemT_le hIe;rw [List.length_drop, size_list] at hkl;by_cases hl : acc.length = 4095
           · rw [textR_long _ c34 hIe hl] at hT'
             have q3 : ((acc.length : Int) == 4095) = true := by rw [hl]; rfl
             replace hT' := Lib.hid hT';replace hl := Lib.hid hl;clear hT hIe hi2;go_wp2_with fail
             refine (k1.out _).mono ?_;rintro e w2 ⟨rfl, rfl⟩;go_wp2_with (go_at_call 140; refine (refWrong_any i 2 _).mono ?_; rintro e w' ⟨rfl, hw⟩; have hk2 : Told0 w' w.heap.size := (by rw [hw]; exact hk.out.alloc _); have hb2 : Below w.heap.size w w' := (by rw [hw]; exact hb.out.alloc hsz _); replace hw := Lib.hid hw; obtain ⟨x0, x1, x2, x3, x4, x5, x6⟩ := told0_cells hk2; obtain ⟨y0, y1, y2, y3, y4, y5, y6⟩ := told0_frozen hk2)
             refine bodyPost_ret (results_cell_row rfl _ _ w.heap.size _ _ (0, 0) _ rfl (told_set7 hk2 _ _ _ _ _ _ _) Tryz.underlying107 rfl (by kernel_rfl)) rfl ⟨?_, below_set7 hb2 (Nat.le_refl _) _ _ _ _ _ _ _⟩;rw [← hT'.out];simp [resT, toldV]
             try omega
           · rw [textR_more _ c34 hIe hl, ← at_drop hlt, List.drop_drop] at hT'
             have q3 : ((acc.length : Int) == 4095) = false := beq_eq_false_iff_ne.2 (by omega);have hB2 := Lib.hid (BufU.below hB.out ((Below.refl wr.heap.size wr).alloc (Nat.le_refl _) (.cells #[.int .u8 (b.toNat : Int)] 5)));have hk2 := Lib.hid (hk.out.alloc (.cells #[.int .u8 (b.toNat : Int)] 5));have hb2 := Lib.hid (hb.out.alloc hsz (.cells #[.int .u8 (b.toNat : Int)] 5));replace hT' := Lib.hid hT';replace hp := Lib.hid hp;clear hT hIe hi2;go_wp2_with fail
             refine (k1.out _).mono ?_;rintro e w2 ⟨rfl, rfl⟩;go_wp2_with (at_builtin; (refine wpList_append_u8 rfl _ _ _ Tryz.underlying62 rfl rfl hB2.out rfl rfl (by omega) (by simp; omega) ?_; intro a' cap' w3 hB3 hO3))
             go_roundw
             case rel => exact ⟨n + k, acc ++ [b], by omega, by omega, by go_num, by simp; omega, hB3, hb2.out.trans (hO3.mono (by omega)), hk2.out.below hO3 (by omega), by rw [show n + k - i = n - i + k by omega]; exact hT'.out⟩
             case measure => simp [intOf]; omega
         · have k1 := Lib.hid (fun W => esc_call hi2 hs hlt W)
           unfold escV at k1;dsimp only at k1;rw [hi2] at hIe;rw [textR_bad _ _ c34 hIe] at hT';obtain ⟨hc1, hc2⟩ := itemT_code hIe;have q4 : ((e : Int) != 0) = true := by simp; omega
           replace hT' := Lib.hid hT';clear hT hIe hi2;go_wp2_with fail
           refine (k1.out _).mono ?_;rintro e' w2 ⟨rfl, rfl⟩;go_wp2_with (go_at_call 140; refine (refWrong_any (n + k) e _).mono ?_; rintro e' w' ⟨rfl, hw⟩; have hk2 : Told0 w' w.heap.size := (by rw [hw]; exact hk.out.alloc _); have hb2 : Below w.heap.size w w' := (by rw [hw]; exact hb.out.alloc hsz _); replace hw := Lib.hid hw; obtain ⟨x0, x1, x2, x3, x4, x5, x6⟩ := told0_cells hk2; obtain ⟨y0, y1, y2, y3, y4, y5, y6⟩ := told0_frozen hk2)
           refine bodyPost_ret (results_cell_row rfl _ _ w.heap.size _ _ (0, 0) _ rfl (told_set7 hk2 _ _ _ _ _ _ _) Tryz.underlying107 rfl (by kernel_rfl)) rfl ⟨?_, below_set7 hb2 (Nat.le_refl _) _ _ _ _ _ _ _⟩;rw [← hT'.out];simp [resT, toldV]
           try omega
       · have q92 : (((s[n].toNat : Nat) : Int) == 92) = false := beq_eq_false_iff_ne.2 (by omega)
         have hIe : itemT s[n] (s.data.toList.drop (n + 1)) = .ok s[n] 1 := itemT_one hp c92;by_cases hl : acc.length = 4095
         · rw [textR_long _ c34 hIe hl] at hT'
           have q3 : ((acc.length : Int) == 4095) = true := by rw [hl]; rfl
           replace hT' := Lib.hid hT';replace hl := Lib.hid hl;replace hp := Lib.hid hp;clear hT hIe;go_wp2_with (go_at_call 140; refine (refWrong_any i 2 _).mono ?_; rintro e w' ⟨rfl, hw⟩; have hk2 : Told0 w' w.heap.size := (by rw [hw]; exact hk.out.alloc _); have hb2 : Below w.heap.size w w' := (by rw [hw]; exact hb.out.alloc hsz _); replace hw := Lib.hid hw; obtain ⟨x0, x1, x2, x3, x4, x5, x6⟩ := told0_cells hk2; obtain ⟨y0, y1, y2, y3, y4, y5, y6⟩ := told0_frozen hk2)
           refine bodyPost_ret (results_cell_row rfl _ _ w.heap.size _ _ (0, 0) _ rfl (told_set7 hk2 _ _ _ _ _ _ _) Tryz.underlying107 rfl (by kernel_rfl)) rfl ⟨?_, below_set7 hb2 (Nat.le_refl _) _ _ _ _ _ _ _⟩;rw [← hT'.out];simp [resT, toldV]
           try omega
         · rw [textR_more _ c34 hIe hl, ← at_drop hlt, List.drop_drop] at hT'
           have q3 : ((acc.length : Int) == 4095) = false := beq_eq_false_iff_ne.2 (by omega);have hB2 := Lib.hid (BufU.below hB.out ((Below.refl wr.heap.size wr).alloc (Nat.le_refl _) (.cells #[.int .u8 (s[n].toNat : Int)] 5)));have hk2 := Lib.hid (hk.out.alloc (.cells #[.int .u8 (s[n].toNat : Int)] 5));have hb2 := Lib.hid (hb.out.alloc hsz (.cells #[.int .u8 (s[n].toNat : Int)] 5));replace hT' := Lib.hid hT';replace hp := Lib.hid hp;clear hT hIe;go_wp2_with (at_builtin; (refine wpList_append_u8 rfl _ _ _ Tryz.underlying62 rfl rfl hB2.out rfl rfl (by omega) (by simp; omega) ?_; intro a' cap' w3 hB3 hO3))
           go_roundw
           case rel => exact ⟨n + 1, acc ++ [s[n]], by omega, by omega, by go_num, by simp; omega, hB3, hb2.out.trans (hO3.mono (by omega)), hk2.out.below hO3 (by omega), by rw [show n + 1 - i = n - i + 1 by omega]; exact hT'.out⟩
           case measure => simp [intOf]; omega
   · obtain rfl : n = s.size := by omega
     have hlti : ¬ ((s.size : Int) < (s.size : Int)) := by omega
     have hT' := hT.out;rw [no_drop (Nat.le_refl _), textR_nil] at hT';replace hT' := Lib.hid hT';clear hT;go_wp2_with (go_at_call 140; refine (refWrong_any s.size 4 _).mono ?_; rintro e w' ⟨rfl, hw⟩; have hk2 : Told0 w' w.heap.size := (by rw [hw]; exact hk.out.alloc _); have hb2 : Below w.heap.size w w' := (by rw [hw]; exact hb.out.alloc hsz _); replace hw := Lib.hid hw; obtain ⟨x0, x1, x2, x3, x4, x5, x6⟩ := told0_cells hk2; obtain ⟨y0, y1, y2, y3, y4, y5, y6⟩ := told0_frozen hk2)
     refine bodyPost_ret (results_cell_row rfl _ _ w.heap.size _ _ (0, 0) _ rfl (told_set7 hk2 _ _ _ _ _ _ _) Tryz.underlying107 rfl (by kernel_rfl)) rfl ⟨?_, below_set7 hb2 (Nat.le_refl _) _ _ _ _ _ _ _⟩;rw [← hT'.out];simp [resT, toldV]
     omega
end Go.Proofs.YtngbekhegnmfaaaGreatDoor
namespace Go.Proofs.YtngbekhegnmfaaaGreatDoor
open Go.RowKit Tok
def Txts (w : World) (a : Option Addr) (f : Nat → ByteArray) (n : Nat) : Prop :=
 0 < n → ∃ b off, a = some ⟨b, off, none⟩ ∧ b < w.heap.size ∧ ∀ j, j < n → w.cell? ⟨b, off + j, none⟩ = some (.string (f j))
theorem Txts.below {w W : World} {a : Option Addr} {f : Nat → ByteArray} {n : Nat} (h : Txts w a f n) (hb : Below w.heap.size w W) : Txts W a f n := by
 intro h0;obtain ⟨b, off, rfl, hl, hc⟩ := h h0;exact ⟨b, off, rfl, Nat.lt_of_lt_of_le hl hb.size, fun j hj => (hb.cell (p := ⟨b, off + j, none⟩) hl).trans (hc j hj)⟩
def sgAt (i : Nat) : ByteArray := ⟨(signs.getD i []).toArray⟩
theorem txts_signs (w : World) (cs : Array Value) (t : TypeId) (h : cs = ((List.range 17).map fun j => Value.string (sgAt j)).toArray) : Txts (w.alloc (.cells cs t)) (some ⟨w.heap.size, 0, none⟩) sgAt 17 := by
 subst h;refine fun _ => ⟨_, 0, rfl, by simp, fun j hj => ?_⟩
 rw [Nat.zero_add];simp only [World.cell?, heap_alloc_new];simp [List.getElem?_range hj]
set_option maxRecDepth 20000 in
theorem refSigns_any (w : World) :
   Calls Tryz.prog 142 #[] w fun e w' => ∃ b, e = .returned (.slice (some ⟨b, 0, none⟩) 17 17) ∧ Txts w' (some ⟨b, 0, none⟩) sgAt 17 ∧ Below w.heap.size w w' := by
 go_enter Tryz.func142, Tryz.ntmps142
 go_wp2
 go_ret
 exact ⟨_, rfl, txts_signs w _ _ (by rfl), (Below.refl _ w).alloc (Nat.le_refl _) _⟩
end Go.Proofs.YtngbekhegnmfaaaGreatDoor
namespace Go.Proofs.YtngbekhegnmfaaaGreatDoor
open Go.RowKit Tok
theorem prefix_at {s : ByteArray} {i : Nat} {T : List UInt8} (hi : i ≤ s.size) : T.isPrefixOf (s.data.toList.drop i) = true ↔ (i + T.length ≤ s.size ∧ (s.data.toList.drop i).take T.length = T) := by
 have hl : (s.data.toList.drop i).length = s.size - i := by rw [List.length_drop, size_list]
 rw [List.isPrefixOf_iff_prefix, List.prefix_iff_eq_take]
 constructor
 · intro h
   refine ⟨?_, h.symm⟩;have := congrArg List.length h;rw [List.length_take] at this;omega
 · rintro ⟨_, h⟩
   exact h.symm
set_option maxRecDepth 20000 in
set_option maxHeartbeats 2000000 in
theorem refSkip_any (s : ByteArray) (i : Nat) (w : World) (hs : s.size ≤ 1000000) (hi : i ≤ s.size) :
   Calls Tryz.prog 82 #[.string s, .int .i64 i] w fun e w' => ∃ j : Nat, e = .returned (.int .i64 j) ∧ i ≤ j ∧ j ≤ s.size ∧ (∀ ts, allR (s.data.toList.drop i) i ts = allR (s.data.toList.drop j) j ts) ∧ (∀ h : j < s.size, s[j].toNat ≠ 32 ∧ s[j].toNat ≠ 10 ∧ s[j].toNat ≠ 35) ∧ w' = w := by
 go_enter Tryz.func82, Tryz.ntmps82
 go_wp2
 go_loop [1, 5] (fun t1 t5 => ∃ (j : Nat) (r : Bool), i ≤ j ∧ j ≤ s.size ∧ t1 = .int .i64 j ∧ t5 = .bool r ∧ Hid (if r = true then ∀ ts, allR (s.data.toList.drop i) i ts = allR (toLine (s.data.toList.drop j)) (j + ((s.size - j) - (toLine (s.data.toList.drop j)).length)) ts else ∀ ts, allR (s.data.toList.drop i) i ts = allR (s.data.toList.drop j) j ts)) (fun t1 _ => s.size - (intOf t1).toNat)
 case atStart => exact ⟨i, false, by omega, hi, rfl, rfl, fun _ => rfl⟩
 case round =>
   obtain ⟨j, r, hij, hj, rfl, rfl, hR⟩ := hrel;rcases Nat.lt_or_ge j s.size with hlt | hge
   · have hlti : (j : Int) < (s.size : Int) := by omega
     have hd := at_drop hlt;have hdl : (s.data.toList.drop (j + 1)).length = s.size - (j + 1) := by rw [List.length_drop, size_list]
     have htl := toLine_le (s.data.toList.drop (j + 1));by_cases c10 : s[j].toNat = 10
     · have q10 : ((s[j].toNat : Int) == 10) = true := by rw [c10]; rfl
       have hnx : Hid (∀ ts, allR (s.data.toList.drop i) i ts = allR (s.data.toList.drop (j + 1)) (j + 1) ts) := by
         intro ts;have hR2 := hR.out;cases r
         · rw [if_neg (by simp)] at hR2
           rw [hR2 ts, hd, allR_blank _ _ _ (.inr c10)]
         · rw [if_pos rfl] at hR2
           have e : toLine (s.data.toList.drop j) = s.data.toList.drop j := by rw [hd]; exact if_pos c10
           rw [hR2 ts, e, List.length_drop, size_list, Nat.sub_self, Nat.add_zero, hd, allR_blank _ _ _ (.inr c10)]
       replace c10 := Lib.hid c10;clear hR;go_wp2
       go_round
       case rel => exact ⟨j + 1, false, by omega, by omega, by go_num, rfl, hnx⟩
       case measure => simp [intOf]; omega
     · have q10 : ((s[j].toNat : Int) == 10) = false := beq_eq_false_iff_ne.2 (by omega)
       have hline : toLine (s.data.toList.drop j) = toLine (s.data.toList.drop (j + 1)) := toLine_next hlt c10;by_cases c35 : s[j].toNat = 35
       · have q35 : ((s[j].toNat : Int) == 35) = true := by rw [c35]; rfl
         have hnx : Hid (if true = true then ∀ ts, allR (s.data.toList.drop i) i ts = allR (toLine (s.data.toList.drop (j + 1))) (j + 1 + ((s.size - (j + 1)) - (toLine (s.data.toList.drop (j + 1))).length)) ts else ∀ ts, allR (s.data.toList.drop i) i ts = allR (s.data.toList.drop (j + 1)) (j + 1) ts) := by
           show if true = true then _ else _
           rw [if_pos rfl];intro ts;have hR2 := hR.out;cases r
           · rw [if_neg (by simp)] at hR2
             rw [hR2 ts, hd, allR_remark _ _ _ c35, hdl]
           · rw [if_pos rfl, hline] at hR2
             rw [hR2 ts]
             congr 1
             omega
         replace c35 := Lib.hid c35;clear hR;go_wp2
         go_round
         case rel => exact ⟨j + 1, true, by omega, by omega, by go_num, rfl, hnx⟩
         case measure => simp [intOf]; omega
       · have q35 : ((s[j].toNat : Int) == 35) = false := beq_eq_false_iff_ne.2 (by omega)
         cases r
         · have hR2 := hR.out
           rw [if_neg (by simp)] at hR2;by_cases c32 : s[j].toNat = 32
           · have q32 : ((s[j].toNat : Int) != 32) = false := by rw [c32]; rfl
             have hnx : Hid (if false = true then ∀ ts, allR (s.data.toList.drop i) i ts = allR (toLine (s.data.toList.drop (j + 1))) (j + 1 + ((s.size - (j + 1)) - (toLine (s.data.toList.drop (j + 1))).length)) ts else ∀ ts, allR (s.data.toList.drop i) i ts = allR (s.data.toList.drop (j + 1)) (j + 1) ts) := by
               show if false = true then _ else _
               rw [if_neg (by simp)];intro ts;rw [hR2 ts, hd, allR_blank _ _ _ (.inl c32)]
             replace c32 := Lib.hid c32;clear hR hR2;go_wp2
             go_round
             case rel => exact ⟨j + 1, false, by omega, by omega, by go_num, rfl, hnx⟩
             case measure => simp [intOf]; omega
           · have q32 : ((s[j].toNat : Int) != 32) = true := by simp; omega
             replace hR2 := Lib.hid hR2;clear hR;go_wp2
             go_ret
             exact ⟨j, rfl, hij, by omega, hR2.out, fun _ => ⟨c32, c10, c35⟩, rfl⟩
         · have hnx : Hid (if true = true then ∀ ts, allR (s.data.toList.drop i) i ts = allR (toLine (s.data.toList.drop (j + 1))) (j + 1 + ((s.size - (j + 1)) - (toLine (s.data.toList.drop (j + 1))).length)) ts else ∀ ts, allR (s.data.toList.drop i) i ts = allR (s.data.toList.drop (j + 1)) (j + 1) ts) := by
             show if true = true then _ else _
             rw [if_pos rfl];intro ts;have hR2 := hR.out;rw [if_pos rfl, hline] at hR2;rw [hR2 ts]
             congr 1
             omega
           clear hR;go_wp2
           go_round
           case rel => exact ⟨j + 1, true, by omega, by omega, by go_num, rfl, hnx⟩
           case measure => simp [intOf]; omega
   · obtain rfl : j = s.size := by omega
     have hlti : ¬ ((s.size : Int) < (s.size : Int)) := by omega
     have hfin : ∀ ts, allR (s.data.toList.drop i) i ts = allR (s.data.toList.drop s.size) s.size ts := by
       intro ts;have hR2 := hR.out;cases r
       · rw [if_neg (by simp)] at hR2
         exact hR2 ts
       · rw [if_pos rfl, no_drop (Nat.le_refl _)] at hR2
         rw [hR2 ts, no_drop (Nat.le_refl _)];rfl
     replace hfin := Lib.hid hfin;clear hR;go_wp2
     go_ret
     exact ⟨s.size, rfl, hij, by omega, hfin.out, fun h => by omega, rfl⟩
end Go.Proofs.YtngbekhegnmfaaaGreatDoor
namespace Go.Proofs.YtngbekhegnmfaaaGreatDoor
open Go.RowKit Tok
theorem Told0.drewN {w : World} {b : Nat} (h : Told0 w b) (n : Nat) : Told0 (w.drewN n) b := h
theorem sign_w {s : ByteArray} {i : Nat} (hi : i ≤ s.size) (T : List UInt8) :
   (T.isPrefixOf (s.data.toList.drop i) = true ∧ (i : Int) + (T.length : Int) ≤ (s.size : Int) ∧ s.extract i (i + T.length) = ⟨T.toArray⟩) ∨
   (T.isPrefixOf (s.data.toList.drop i) = false ∧ (i : Int) + (T.length : Int) ≤ (s.size : Int) ∧ ∃ U, s.extract i (i + T.length) = ⟨U.toArray⟩ ∧ (U == T) = false) ∨
   (T.isPrefixOf (s.data.toList.drop i) = false ∧ ¬ (i : Int) + (T.length : Int) ≤ (s.size : Int)) := by
 have hp := prefix_at (T := T) hi;by_cases h1 : i + T.length ≤ s.size
 · by_cases h2 : (s.data.toList.drop i).take T.length = T
   · left
     exact ⟨hp.2 ⟨h1, h2⟩, by omega, by rw [extract_piece, h2]⟩
   · right; left
     refine ⟨?_, by omega, _, extract_piece s i T.length, beq_eq_false_iff_ne.2 h2⟩;cases hh : T.isPrefixOf (s.data.toList.drop i) with
     | false => rfl
     | true => exact absurd (hp.1 hh).2 h2
 · right; right
   refine ⟨?_, by omega⟩;cases hh : T.isPrefixOf (s.data.toList.drop i) with
   | false => rfl
   | true => exact absurd (hp.1 hh).1 h1
set_option maxRecDepth 20000 in
set_option maxHeartbeats 4000000 in
theorem refSign_any (s : ByteArray) (i : Nat) (w : World) (hs : s.size ≤ 1000000) (hi : i < s.size) :
   Calls Tryz.prog 116 #[.string s, .int .i64 i] w fun e w' => e = .returned (resT i (signT (s.data.toList.drop i))) ∧ Below w.heap.size w w' := by
 obtain ⟨V, hV⟩ := exHid (resT i (signT (s.data.toList.drop i)));rw [hV.out];have hb0 := Lib.hid ((Below.refl w.heap.size w).alloc (Nat.le_refl _) (.cells #[.int .u8 0, .string ⟨#[]⟩, .int .i64 0, .int .i64 0, .int .i64 0, .int .i64 0, .int .i64 0] 107));have hk0 : Hid (Told0 (w.alloc (.cells #[.int .u8 0, .string ⟨#[]⟩, .int .i64 0, .int .i64 0, .int .i64 0, .int .i64 0, .int .i64 0] 107)) w.heap.size) := heap_alloc_new w _;go_enter Tryz.func116, Tryz.ntmps116
 go_wp2_with fail
 refine (refSigns_any _).mono ?_;rintro e w1 ⟨b, rfl, hT1, hb1⟩;have hlt0 : w.heap.size < w1.heap.size := Nat.lt_of_lt_of_le (by simp) hb1.size;have hk1 := Lib.hid (hk0.out.below hb1 (by simp));have hbw1 := Lib.hid (hb0.out.trans (hb1.mono (by simp)));replace hT1 := Lib.hid hT1;replace hb1 := Lib.hid hb1;go_wp2
 go_loopw [6, 7] (fun t6 _ wr => ∃ j : Nat, j ≤ 17 ∧ t6 = .int .i64 j ∧ Hid (Below w1.heap.size w1 wr) ∧ Hid (resT i (signGo (signs.drop j) (s.data.toList.drop i)) = V)) (fun t6 _ _ => 17 - (intOf t6).toNat)
 case atStart => exact ⟨0, by omega, rfl, Below.refl _ _, hV⟩
 case round =>
   obtain ⟨j, hj, rfl, hbr, hR⟩ := hrel;have hk := hk1.out.below hbr.out hlt0;have hbwr := Lib.hid (hbw1.out.trans (hbr.out.mono (Nat.le_of_lt hlt0)));have hsz := hbwr.out.size;rcases Nat.lt_or_ge j 17 with hlt | hge
   · obtain ⟨b', off, he, hl, hc⟩ := (hT1.out.below hbr.out) (by omega)
     cases he
     have x := hc j hlt;rw [Nat.zero_add] at x;have x' := fun n => (below_drewN (Below.refl wr.heap.size wr) n).cell (p := ⟨b, j, none⟩) hl |>.trans x
     have hlti : (j : Int) < 17 := by omega
     obtain ⟨hS2, hst⟩ := sign_step hlt (s.data.toList.drop i);have hR2 := hR.out;rw [hst] at hR2;have hsw := sign_w (Nat.le_of_lt hi) (signs.getD j []);unfold sgAt at x x';generalize signs.getD j [] = T at *;have bw : (i : Int) + (T.length : Int) ≤ 9223372036854775807 := by omega
     have bw0 : -9223372036854775808 ≤ (i : Int) + (T.length : Int) := by omega
     clear hc hst;rcases hsw with ⟨p1, p2, p3⟩ | ⟨p1, p2, U, p3, p4⟩ | ⟨p1, p2⟩
     · rw [if_pos p1] at hR2
       have hkd := fun n => told0_cells (hk.drewN n)
       have hfd := fun n => told0_frozen (hk.drewN n)
       replace hk := Lib.hid hk;replace hR2 := Lib.hid hR2;clear p1 hR;go_wp2
       go_quiet (fail)
       obtain ⟨x0, x1, x2, x3, x4, x5, x6⟩ := hkd nq;obtain ⟨y0, y1, y2, y3, y4, y5, y6⟩ := hfd nq;go_wp2
       refine bodyPost_ret (results_cell_row rfl _ _ w.heap.size _ _ (0, 0) _ rfl (told_set7 (hk.out.drewN nq) _ _ _ _ _ _ _) Tryz.underlying107 rfl (by kernel_rfl)) rfl ⟨?_, below_set7 (below_drewN hbwr.out nq) (Nat.le_refl _) _ _ _ _ _ _ _⟩;rw [← hR2.out];simp [resT, toldV]
     · rw [if_neg (by rw [p1]; simp)] at hR2
       replace hR2 := Lib.hid hR2;clear p1 hR;go_wp2
       go_quiet (fail)
       go_wp2
       go_roundw
       case rel => exact ⟨j + 1, by omega, by go_num, below_drewN hbr.out _, hR2⟩
       case measure => simp [intOf]; omega
     · rw [if_neg (by rw [p1]; simp)] at hR2
       replace hR2 := Lib.hid hR2;clear p1 hR;go_wp2
       have hwr : IntKind.i64.wrap ((i : Int) + (T.length : Int)) = (i : Int) + (T.length : Int) := by rw [IntKind.wrap_i64]; omega
       have p5 : ((i : Int) + (T.length : Int) ≤ (s.size : Int)) = False := eq_false (by omega);have p6 : decide (IntKind.i64.wrap ((i : Int) + (T.length : Int)) ≤ (s.size : Int)) = false := by rw [hwr]; exact decide_eq_false (by omega)
       have p7 : decide ((i : Int) + (T.length : Int) ≤ (s.size : Int)) = false := decide_eq_false (by omega);go_quiet (fail)
       go_wp2
       go_roundw
       case rel => exact ⟨j + 1, by omega, by go_num, below_drewN hbr.out _, hR2⟩
       case measure => simp [intOf]; omega
   · obtain rfl : j = 17 := by omega
     have hlti : ¬ ((17 : Nat) : Int) < 17 := by omega
     have hR2 := hR.out;rw [at_drop hi] at hR2;have e : signGo (signs.drop 17) (s[i] :: s.data.toList.drop (i + 1)) = noneT (s[i] :: s.data.toList.drop (i + 1)) := rfl;rw [e] at hR2;clear hR e;replace hk := Lib.hid hk;by_cases c33 : s[i].toNat = 33
     · have q33 : ((s[i].toNat : Int) != 33) = false := by rw [c33]; rfl
       rcases Nat.lt_or_ge (i + 1) s.size with hz | hz
       · have hze : ((i : Int) + 1 == (s.size : Int)) = false := beq_eq_false_iff_ne.2 (by omega)
         have hv : V = toldV 0 [] 0 0 0 (i + 1) 9 := by
           rw [← hR2, at_drop hz];simp [noneT, c33, resT]
         replace hv := Lib.hid hv;replace c33 := Lib.hid c33;clear hR2;go_wp2_with (go_at_call 140; refine (refWrong_any (i + 1) 9 _).mono ?_; rintro e' w' ⟨rfl, hw⟩; have hk2 : Told0 w' w.heap.size := (by rw [hw]; exact hk.out.alloc _); have hb2 : Below w.heap.size w w' := (by rw [hw]; exact hbwr.out.alloc hsz _); replace hw := Lib.hid hw; obtain ⟨x0, x1, x2, x3, x4, x5, x6⟩ := told0_cells hk2; obtain ⟨y0, y1, y2, y3, y4, y5, y6⟩ := told0_frozen hk2)
         refine bodyPost_ret (results_cell_row rfl _ _ w.heap.size _ _ (0, 0) _ rfl (told_set7 hk2 _ _ _ _ _ _ _) Tryz.underlying107 rfl (by kernel_rfl)) rfl ⟨?_, below_set7 hb2 (Nat.le_refl _) _ _ _ _ _ _ _⟩;rw [hv.out];simp [resT, toldV]
       · have hze : ((i : Int) + 1 == (s.size : Int)) = true := beq_iff_eq.2 (by omega)
         have hv : V = toldV 0 [] 0 0 0 (i + 1) 4 := by
           rw [← hR2, no_drop hz];simp [noneT, c33, resT]
         replace hv := Lib.hid hv;replace c33 := Lib.hid c33;clear hR2;go_wp2_with (go_at_call 140; refine (refWrong_any (i + 1) 4 _).mono ?_; rintro e' w' ⟨rfl, hw⟩; have hk2 : Told0 w' w.heap.size := (by rw [hw]; exact hk.out.alloc _); have hb2 : Below w.heap.size w w' := (by rw [hw]; exact hbwr.out.alloc hsz _); replace hw := Lib.hid hw; obtain ⟨x0, x1, x2, x3, x4, x5, x6⟩ := told0_cells hk2; obtain ⟨y0, y1, y2, y3, y4, y5, y6⟩ := told0_frozen hk2)
         refine bodyPost_ret (results_cell_row rfl _ _ w.heap.size _ _ (0, 0) _ rfl (told_set7 hk2 _ _ _ _ _ _ _) Tryz.underlying107 rfl (by kernel_rfl)) rfl ⟨?_, below_set7 hb2 (Nat.le_refl _) _ _ _ _ _ _ _⟩;rw [hv.out];simp [resT, toldV]
     · have q33 : ((s[i].toNat : Int) != 33) = true := by simp; omega
       have hv : V = toldV 0 [] 0 0 0 i 9 := by
         rw [← hR2];simp [noneT, c33, resT]
       replace hv := Lib.hid hv;clear hR2;go_wp2_with (go_at_call 140; refine (refWrong_any i 9 _).mono ?_; rintro e' w' ⟨rfl, hw⟩; have hk2 : Told0 w' w.heap.size := (by rw [hw]; exact hk.out.alloc _); have hb2 : Below w.heap.size w w' := (by rw [hw]; exact hbwr.out.alloc hsz _); replace hw := Lib.hid hw; obtain ⟨x0, x1, x2, x3, x4, x5, x6⟩ := told0_cells hk2; obtain ⟨y0, y1, y2, y3, y4, y5, y6⟩ := told0_frozen hk2)
       refine bodyPost_ret (results_cell_row rfl _ _ w.heap.size _ _ (0, 0) _ rfl (told_set7 hk2 _ _ _ _ _ _ _) Tryz.underlying107 rfl (by kernel_rfl)) rfl ⟨?_, below_set7 hb2 (Nat.le_refl _) _ _ _ _ _ _ _⟩;rw [hv.out];simp [resT, toldV]
end Go.Proofs.YtngbekhegnmfaaaGreatDoor
