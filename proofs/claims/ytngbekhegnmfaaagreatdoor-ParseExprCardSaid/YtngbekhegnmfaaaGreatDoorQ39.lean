/- A part of the proof: PWake, PNode, PShape, RAlike, TLaid, PLaid, PRightP. No condition. -/
import Derived.Stop.LaidErr
import Derived.Lib.LaidTab
import Derived.ChangeSame
import Derived.Lib.AppendStr
import Derived.Lib.ItoaLen
import Derived.Lib.ItoaMem
import Derived.Test.YtngbekhegnmfaaaGreatDoorQ03
import Derived.Test.YtngbekhegnmfaaaGreatDoorQ07
import Derived.Test.YtngbekhegnmfaaaGreatDoorQ09
import Derived.Test.YtngbekhegnmfaaaGreatDoorQ21
import Derived.Test.YtngbekhegnmfaaaGreatDoorQ22
import Derived.Test.YtngbekhegnmfaaaGreatDoorQ38
set_option linter.unusedVariables false
set_option linter.unusedSimpArgs false
namespace Go.Proofs.YtngbekhegnmfaaaGreatDoor
open Go.RowKit Go.Shelf Tok
theorem tws_cells {W : World} {base : Nat} {v : Value} {ts : List Tw} (h : TwsAt W base v ts) (h0 : 0 < ts.length) :
   ∃ g cap, v = .slice (some ⟨g, 0, none⟩) ts.length cap ∧ ts.length ≤ cap ∧ cap ≤ 9223372036854775807 ∧ base ≤ g ∧ g < W.heap.size ∧ ∀ i (hi : i < ts.length) (c : Nat), c < 4 → W.cell? ⟨g, i * 4 + c, none⟩ = (twC ts[i])[c]? := by
 have hh := h;rcases h.2 with ⟨hv, h1⟩ | ⟨g, cap, cur, hv, hb, hg, hnc, hcm, hsz, ht⟩
 · omega
 · refine ⟨g, cap, hv, hnc, by unfold maxLen at hcm; omega, hb, (Array.getElem?_eq_some_iff.1 hg).1, fun i hi c hc => ?_⟩
   unfold TwsAt at hh;rw [hv] at hh;have := World.ownsRow.cellAt (g := g) (cap := cap) hh (i * 4 + c) (by omega);rw [this];exact rowOf_get twC_len ts i c hi hc
def wakeL9 : List Tw := [⟨37, 2, 0, []⟩, ⟨37, 2, 0, []⟩, ⟨23, 0, 1, []⟩, ⟨23, 0, 2, []⟩, ⟨23, 0, 3, []⟩]
theorem wake_read : readR [49, 32, 45, 32, 50, 32, 45, 32, 51] .expr = (wakeL9, 0, 0) := by decide +kernel
set_option maxRecDepth 20000 in
set_option maxHeartbeats 1000000 in
theorem wakes9_any (w : World) (hE : ErrR w) (hS : SignsOK w) (hM : MakesOK w) :
   Calls Tryz.prog 10 #[] w fun e w' => e = .returned (.bool true) ∧ Below w.heap.size w w' := by
 have k := Expr_any ⟨#[49, 32, 45, 32, 50, 32, 45, 32, 51]⟩ w (by decide) hE hS hM;have e1 : readR (⟨#[49, 32, 45, 32, 50, 32, 45, 32, 51]⟩ : ByteArray).data.toList .expr = (wakeL9, 0, 0) := wake_read;rw [e1] at k;replace k := Lib.hid k;clear hE hS hM e1;go_enter Tryz.func10, Tryz.ntmps10
 go_wp2_with fail
 refine k.out.mono ?_;rintro e' w1 ⟨v, rfl, hv, hb⟩;obtain ⟨g, cap, rfl, hc, hcm, _, _, hcell⟩ := tws_cells hv (by decide);have y1 : w1.cell? ⟨g, 4, none⟩ = some (.int .u8 37) := hcell 1 (by decide) 0 (by decide);have y2 : w1.cell? ⟨g, 18, none⟩ = some (.int .i64 3) := hcell 4 (by decide) 2 (by decide);have hl5 : (wakeL9.length : Int) = 5 := rfl;have hc5 : 5 ≤ cap := hc;clear k hcell hv;go_wp2_with fail
 go_ret
 exact ⟨ret_bool (by simp), hb⟩
end Go.Proofs.YtngbekhegnmfaaaGreatDoor
namespace Go.Proofs.YtngbekhegnmfaaaGreatDoor
open Go.RowKit Go.Shelf Tok
theorem fine_many {op n : Nat} (ho : op = 3 ∨ op = 25) (hn : n ≤ 2048) : fineB ⟨op, (n : Int), ((0 : Nat) : Int), []⟩ = true := by
 rcases ho with rfl | rfl <;> simp [fineB, exprB, stmtB, namedB, leastN, mostN, textOK] <;> omega
theorem fine_named {op n : Nat} {nm : List UInt8} (ho : op = 50 ∨ op = 51) (hn : n ≤ 2048) (h : textOK 1 nm = true) : fineB ⟨op, (n : Int), ((0 : Nat) : Int), nm⟩ = true := by
 rcases ho with rfl | rfl <;> simp [fineB, exprB, stmtB, namedB, leastN, mostN, h] <;> omega
theorem fine_flow {n : Nat} {nm : List UInt8} (h1 : 1 ≤ n) (hn : n ≤ 2048) (h : textOK 1 nm = true) : fineB ⟨1, (n : Int), ((0 : Nat) : Int), nm⟩ = true := by
 simp [fineB, exprB, stmtB, namedB, leastN, mostN, h]
 omega
theorem fine_set {op : Nat} {nm : List UInt8} (ho : op = 4 ∨ op = 5) (h : textOK 1 nm = true) : fineB ⟨op, 1, ((0 : Nat) : Int), nm⟩ = true := by
 rcases ho with rfl | rfl <;> simp [fineB, exprB, stmtB, namedB, leastN, mostN, h]
theorem fine_leaf {op : Nat} {nm : List UInt8} (ho : op = 2 ∨ op = 26 ∨ op = 56) (h : textOK 1 nm = true) : fineB ⟨op, 0, ((0 : Nat) : Int), nm⟩ = true := by
 rcases ho with rfl | rfl | rfl <;> simp [fineB, exprB, stmtB, namedB, leastN, mostN, h]
theorem fine_int (n : Nat) : fineB ⟨23, 0, (n : Int), []⟩ = true := by
 simp [fineB, exprB, stmtB, namedB, leastN, mostN, textOK]
theorem fine_text {t : List UInt8} (h : textOK 2 t = true) : fineB ⟨24, 0, ((0 : Nat) : Int), t⟩ = true := by
 simp [fineB, exprB, stmtB, namedB, leastN, mostN, h]
theorem leaf_ok {op num : Nat} {text : List UInt8} (h : fineB ⟨op, 0, (num : Int), text⟩ = true) : Trees (Ch.none.under op num text) (fun l => l = [op]) := by
 refine Trees.none.under ?_;rintro l rfl;exact ⟨fun _ => h, fun k hk => by simp at hk⟩
theorem leaf_expr {op num : Nat} {text : List UInt8} (h : fineB ⟨op, 0, (num : Int), text⟩ = true) (he : exprB op = true) : Trees (Ch.none.under op num text) oneE := (leaf_ok h).mono (by rintro l rfl; exact ⟨op, rfl, he⟩)
theorem over_ok {c : Ch} (hc : Trees c oneE) {op : Nat} {text : List UInt8} (h0 : fineB ⟨op, 1, ((0 : Nat) : Int), text⟩ = true) (h1 : op ≠ 1 ∧ op ≠ 3 ∧ op ≠ 6 ∧ op ≠ 7 ∧ op ≠ 53) : Trees (c.under op 0 text) (fun l => l = [op]) := by
 refine hc.under ?_;rintro l ⟨o, rfl, ho⟩;refine ⟨fun _ => h0, fun k hk => ?_⟩;simp only [List.length_cons, List.length_nil] at hk;obtain rfl : k = 0 := by omega
 exact part_expr h1.1 h1.2.1 h1.2.2.1 h1.2.2.2.1 h1.2.2.2.2 _ _ o ho
theorem over_expr {c : Ch} (hc : Trees c oneE) {op : Nat} (h0 : fineB ⟨op, 1, ((0 : Nat) : Int), []⟩ = true) (h1 : op ≠ 1 ∧ op ≠ 3 ∧ op ≠ 6 ∧ op ≠ 7 ∧ op ≠ 53) (he : exprB op = true) : Trees (c.under op 0 []) oneE := (over_ok hc h0 h1).mono (by rintro l rfl; exact ⟨op, rfl, he⟩)
theorem over_stmt {c : Ch} (hc : Trees c oneE) {op : Nat} {text : List UInt8} (h0 : fineB ⟨op, 1, ((0 : Nat) : Int), text⟩ = true) (h1 : op ≠ 1 ∧ op ≠ 3 ∧ op ≠ 6 ∧ op ≠ 7 ∧ op ≠ 53) (he : stmtB op = true) : Trees (c.under op 0 text) oneS := (over_ok hc h0 h1).mono (by rintro l rfl; exact ⟨op, rfl, he⟩)
theorem block_ok {c : Ch} (hc : Trees c allS) : Trees (c.under 3 0 []) (fun l => l = [3]) := by
 refine hc.under (fun l hl => ⟨fun hn => fine_many (.inl rfl) hn, fun k hk => ?_⟩);unfold partR;rw [if_neg (by decide), if_pos rfl];exact hl _ (List.getElem_mem hk)
theorem many_ok {c : Ch} (hc : Trees c allE) {op : Nat} {nm : List UInt8} (ho : (op = 25 ∧ nm = []) ∨ ((op = 50 ∨ op = 51) ∧ textOK 1 nm = true)) : Trees (c.under op 0 nm) oneE := by
 refine (hc.under (fun l hl => ⟨fun hn => ?_, fun k hk => ?_⟩)).mono (Q := oneE) ?_
 · rcases ho with ⟨rfl, rfl⟩ | ⟨ho, h⟩
   · exact fine_many (.inr rfl) hn
   · exact fine_named ho hn h
 · exact part_expr (by omega) (by omega) (by omega) (by omega) (by omega) _ _ _ (hl _ (List.getElem_mem hk))
 · rintro l rfl
   exact ⟨op, rfl, by rcases ho with ⟨rfl, _⟩ | ⟨rfl | rfl, _⟩ <;> decide⟩
theorem flow_ok {ps b : Ch} (hp : Trees ps allP) (hb : Trees b (fun l => l = [3])) {nm : List UInt8} (h : textOK 1 nm = true) : Trees ((ps.then b).under 1 0 nm) (fun l => l = [1]) := by
 refine (hp.then hb (R := fun l => ∃ a, l = a ++ [3] ∧ allP a) (fun a b h1 h2 => ⟨a, by rw [h2], h1⟩)).under ?_;rintro l ⟨a, rfl, ha⟩;refine ⟨fun hn => fine_flow (by simp) hn h, fun k hk => ?_⟩;rw [List.length_append, List.length_singleton] at hk;unfold partR;rw [if_pos rfl];rcases Nat.lt_or_ge k a.length with hlt | hge
 · rw [if_neg (by rw [List.length_append, List.length_singleton]; omega), List.getElem_append_left hlt, ha _ (List.getElem_mem hlt)]
   rfl
 · obtain rfl : k = a.length := by omega
   rw [if_pos (by rw [List.length_append, List.length_singleton]; omega), List.getElem_append_right (Nat.le_refl _)];simp
theorem cond_part {op : Nat} (ho : op = 6 ∨ op = 7) {l : List Nat} {o : Nat} (he : exprB o = true) (hl : l = [o, 3] ∨ l = [o, 3, 3]) (k : Nat) (hk : k < l.length) : partR op (k : Int) (l.length : Int) l[k] = true := by
 have h0 : partR op ((0 : Nat) : Int) (l.length : Int) o = true := by
   unfold partR;rcases ho with rfl | rfl <;> simp [he]
 have h1 : ∀ j : Nat, 0 < j → partR op (j : Int) (l.length : Int) 3 = true := by
   intro j hj;unfold partR;rcases ho with rfl | rfl <;> simp [hj]
 rcases hl with rfl | rfl
 · simp only [List.length_cons, List.length_nil] at hk
   rcases (show k = 0 ∨ k = 1 by omega) with rfl | rfl
   · exact h0
   · exact h1 1 (by omega)
 · simp only [List.length_cons, List.length_nil] at hk
   rcases (show k = 0 ∨ k = 1 ∨ k = 2 by omega) with rfl | rfl | rfl
   · exact h0
   · exact h1 1 (by omega)
   · exact h1 2 (by omega)
theorem cond_two {c b : Ch} (hc : Trees c oneE) (hb : Trees b (fun l => l = [3])) {op : Nat} (ho : op = 6 ∨ op = 7) : Trees ((c.then b).under op 0 []) oneS := by
 refine ((hc.then hb (R := fun l => ∃ o, l = [o, 3] ∧ exprB o = true) ?_).under ?_).mono (Q := oneS) ?_
 · rintro x y ⟨o, rfl, h⟩ rfl
   exact ⟨o, rfl, h⟩
 · rintro l ⟨o, rfl, h⟩
   have h2 : fineB ⟨op, 2, 0, []⟩ = true := by rcases ho with rfl | rfl <;> decide
   exact ⟨fun _ => h2, fun k hk => cond_part ho h (.inl rfl) k hk⟩
 · rintro l rfl
   exact ⟨op, rfl, by rcases ho with rfl | rfl <;> decide⟩
theorem cond_three {c b d : Ch} (hc : Trees c oneE) (hb : Trees b (fun l => l = [3])) (hd : Trees d (fun l => l = [3])) : Trees (((c.then b).then d).under 6 0 []) oneS := by
 refine (((hc.then hb (R := fun l => ∃ o, l = [o, 3] ∧ exprB o = true) ?_).then hd (R := fun l => ∃ o, l = [o, 3, 3] ∧ exprB o = true) ?_).under ?_).mono (Q := oneS) ?_
 · rintro x y ⟨o, rfl, h⟩ rfl
   exact ⟨o, rfl, h⟩
 · rintro x y ⟨o, rfl, h⟩ rfl
   exact ⟨o, rfl, h⟩
 · rintro l ⟨o, rfl, h⟩
   have h2 : fineB ⟨6, 3, 0, []⟩ = true := by decide
   exact ⟨fun _ => h2, fun k hk => cond_part (.inl rfl) h (.inr rfl) k hk⟩
 · rintro l rfl
   exact ⟨6, rfl, by decide⟩
theorem fork_ok {b : Ch} (hb : Trees b (fun l => l = [3])) : Trees (b.under 53 0 []) oneE := by
 refine (hb.under ?_).mono (Q := oneE) ?_
 · rintro l rfl
   refine ⟨fun _ => by decide, fun k hk => ?_⟩;simp only [List.length_cons, List.length_nil] at hk;obtain rfl : k = 0 := by omega
   rfl
 · rintro l rfl
   exact ⟨53, rfl, by decide⟩
theorem num_ok {c : Ch} (hc : Trees c (fun l => ∃ o p, l = [o, p] ∧ exprB o = true ∧ exprB p = true)) : Trees (c.under 41 0 []) oneE :=
 (hc.under (node_two (two_fine 41 (by omega) (by omega)) (fun i o ho => part_expr (by omega) (by omega) (by omega) (by omega) (by omega) i 2 o ho))).mono (by rintro l rfl; exact ⟨41, rfl, by decide⟩)
theorem at_ok {a c : Ch} (ha : Trees a oneE) (hc : Trees c oneE) : Trees ((a.then c).under 42 0 []) oneE := two_ok ha hc (by omega) (by omega)
end Go.Proofs.YtngbekhegnmfaaaGreatDoor
namespace Go.Proofs.YtngbekhegnmfaaaGreatDoor
open Go.RowKit Go.Shelf Tok
theorem opOf_row {m : List UInt8} (h : m ∈ [B.or] ∨ m ∈ [B.and] ∨ m ∈ addS ∨ m ∈ mulS) : 30 ≤ opOfT m ∧ opOfT m ≤ 40 := by
 have hh : ∀ m, m ∈ [B.or, B.and] ++ addS ++ mulS → 30 ≤ opOfT m ∧ opOfT m ≤ 40 := by decide
 apply hh
 simp only [List.mem_append];rcases h with h | h | h | h
 · exact .inl (.inl (by simp at h; simp [h]))
 · exact .inl (.inl (by simp at h; simp [h]))
 · exact .inl (.inr h)
 · exact .inr h
theorem gM_trees {ks : List Tk} (hk : ∀ x ∈ ks, TokOK x) {G : NT → Nat → St Ch} (hG : ∀ q i c j, q.wf → q.bears → G q i = .ok c j → Trees c q.shape) {m : List UInt8} {i : Nat} {c : Ch} {j : Nat} (h : gM ks G m i = .ok c j) : Trees c oneE := by
 unfold gM at h;split at h
 · obtain ⟨a, k, h1, h2⟩ := and_ok h
   rw [← ok_inj h2];exact many_ok (hG (.list B.lsq .expr B.rsq) _ _ _ ⟨by decide, by decide, .inr rfl⟩ trivial h1) (.inl ⟨rfl, rfl⟩)
 split at h
 · exact hG (.between B.opn .expr B.cls) _ _ _ ⟨by decide, by decide, .inr (.inl rfl)⟩ trivial h
 split at h
 · rename_i hm
   obtain ⟨a, k, h1, h2⟩ := and_ok h;rw [← ok_inj h2];rcases hm with rfl | rfl | rfl | rfl <;> exact leaf_expr (by decide) (by decide)
 split at h
 · rename_i hm
   obtain ⟨_, k, _, h⟩ := and_ok h;obtain ⟨a, k, h1, h2⟩ := and_ok h;rw [← ok_inj h2];have ha := hG (.between B.opn .expr B.cls) _ _ _ ⟨by decide, by decide, .inr (.inl rfl)⟩ trivial h1;rcases hm with rfl | rfl | rfl | rfl | rfl <;> exact over_expr ha (by decide) (by decide) (by decide)
 split at h
 · obtain ⟨_, k, _, h⟩ := and_ok h
   obtain ⟨a, k, h1, h2⟩ := and_ok h;rw [← ok_inj h2];exact num_ok (hG (.between B.opn .two B.cls) _ _ _ ⟨by decide, by decide, .inr (.inr rfl)⟩ trivial h1)
 split at h
 · rename_i hm
   obtain ⟨_, k, _, h⟩ := and_ok h;obtain ⟨nm, k, h0, h⟩ := and_ok h;obtain ⟨a, k, h1, h2⟩ := and_ok h;rw [← ok_inj h2];exact many_ok (hG (.list B.opn .expr B.cls) _ _ _ ⟨by decide, by decide, .inr rfl⟩ trivial h1) (.inr ⟨by rcases hm with rfl | rfl <;> decide, own_txt hk h0⟩)
 split at h
 · obtain ⟨_, k, _, h⟩ := and_ok h
   obtain ⟨a, k, h1, h2⟩ := and_ok h;rw [← ok_inj h2];exact fork_ok (hG .block _ _ _ trivial trivial h1)
 split at h
 · obtain ⟨_, k, _, h⟩ := and_ok h
   obtain ⟨nm, k, h0, h2⟩ := and_ok h;rw [← ok_inj h2];exact leaf_expr (fine_leaf (.inr (.inr rfl)) (own_txt hk h0)) (by decide)
 · obtain ⟨nm, k, h0, h2⟩ := and_ok h
   rw [← ok_inj h2];exact leaf_expr (fine_leaf (.inr (.inl rfl)) (own_txt hk h0)) (by decide)
theorem gP_trees {ks : List Tk} (hk : ∀ x ∈ ks, TokOK x) : ∀ f q i c j, q.wf → q.bears → gP ks f q i = .ok c j → Trees c q.shape
 | 0, q, i, c, j, _, _, h => by cases h
 | f + 1, q, i, c, j, hw, hb, h => by
   have ih := gP_trees hk f;cases q with
   | flow =>
     obtain ⟨_, k, _, h⟩ := and_ok h;obtain ⟨nm, k, h0, h⟩ := and_ok h;obtain ⟨ps, k, h1, h⟩ := and_ok h;obtain ⟨b, k, h2, h⟩ := and_ok h;rw [← ok_inj h];exact flow_ok (ih (.list B.opn .param B.cls) _ _ _ ⟨by decide, by decide, .inl rfl⟩ trivial h1) (ih .block _ _ _ trivial trivial h2) (own_txt hk h0)
   | param =>
     obtain ⟨nm, k, h0, h⟩ := and_ok h;rw [← ok_inj h];exact leaf_ok (fine_leaf (.inl rfl) (own_txt hk h0))
   | block =>
     obtain ⟨a, k, h1, h⟩ := and_ok h;rw [← ok_inj h];exact block_ok (ih (.between B.lbr .stmts B.rbr) _ _ _ ⟨by decide, by decide, .inl rfl⟩ trivial h1)
   | stmts => exact ih (.stmtsGo Ch.none) _ _ _ trivial (Trees.none.mono (by rintro l rfl o ho; cases ho)) h
   | stmtsGo a =>
     unfold gP at h;dsimp only at h;split at h
     · rw [← ok_inj h]; exact hb
     · obtain ⟨x, k, h1, h⟩ := and_ok h
       refine ih (.stmtsGo (a.then x)) _ _ _ trivial (Trees.then hb (ih .stmt _ _ _ trivial trivial h1) ?_) h;rintro l r hl ⟨o, rfl, ho⟩ p hp;rcases List.mem_append.1 hp with hp | hp
       · exact hl p hp
       · simp at hp; rw [hp]; exact ho
   | stmt =>
     unfold gP at h;dsimp only at h;split at h
     · obtain ⟨_, k, _, h⟩ := and_ok h
       exact ih (.set 4) _ _ _ trivial (.inl rfl) h
     split at h
     · exact ih .choice _ _ _ trivial trivial h
     split at h
     · obtain ⟨_, k, _, h⟩ := and_ok h
       obtain ⟨x, k, h1, h⟩ := and_ok h;obtain ⟨b, k, h2, h⟩ := and_ok h;rw [← ok_inj h];exact cond_two (ih .expr _ _ _ trivial trivial h1) (ih .block _ _ _ trivial trivial h2) (.inr rfl)
     split at h
     · rename_i hm
       obtain ⟨_, k, _, h⟩ := and_ok h;obtain ⟨x, k, h1, h⟩ := and_ok h;rw [← ok_inj h];have ha := ih .expr _ _ _ trivial trivial h1;rcases hm with hm | hm | hm | hm <;> rw [hm] <;> exact over_stmt ha (by decide) (by decide) (by decide)
     · exact ih (.set 5) _ _ _ trivial (.inr rfl) h
   | choice =>
     obtain ⟨_, k, _, h⟩ := and_ok h;obtain ⟨x, k, h1, h⟩ := and_ok h;obtain ⟨b, k, h2, h⟩ := and_ok h;have hx := ih .expr _ _ _ trivial trivial h1;have hbb := ih .block _ _ _ trivial trivial h2;split at h
     · obtain ⟨_, k, _, h⟩ := and_ok h
       obtain ⟨d, k, h3, h⟩ := and_ok h;rw [← ok_inj h];exact cond_three hx hbb (ih .block _ _ _ trivial trivial h3)
     · rw [← ok_inj h]
       exact cond_two hx hbb (.inl rfl)
   | expr => exact ih (.row .and [B.or]) _ _ _ ⟨.inr (.inr (.inr rfl)), by decide⟩ (fun m hm => opOf_row (.inl hm)) h
   | and => exact ih (.row .not [B.and]) _ _ _ ⟨.inr (.inr (.inl rfl)), by decide⟩ (fun m hm => opOf_row (.inr (.inl hm))) h
   | not =>
     unfold gP at h;dsimp only at h;split at h
     · obtain ⟨_, k, _, h⟩ := and_ok h
       obtain ⟨x, k, h1, h⟩ := and_ok h;rw [← ok_inj h];exact over_expr (ih .not _ _ _ trivial trivial h1) (by decide) (by decide) (by decide)
     · exact ih .cmp _ _ _ trivial trivial h
   | cmp =>
     obtain ⟨x, k, h1, h⟩ := and_ok h;have hx := ih .sum _ _ _ trivial trivial h1;split at h
     · rename_i hm
       obtain ⟨_, l, _, h⟩ := and_ok h;obtain ⟨y, l, h2, h⟩ := and_ok h;rw [← ok_inj h];have hy := ih .sum _ _ _ trivial trivial h2;rcases hm with hm | hm | hm | hm <;> rw [hm] <;> exact two_ok hx hy (by decide) (by decide)
     · rw [← ok_inj h]; exact hx
   | sum => exact ih (.row .term addS) _ _ _ ⟨.inr (.inl rfl), by decide⟩ (fun m hm => opOf_row (.inr (.inr (.inl hm)))) h
   | term => exact ih (.row .pre mulS) _ _ _ ⟨.inl rfl, by decide⟩ (fun m hm => opOf_row (.inr (.inr (.inr hm)))) h
   | pre =>
     unfold gP at h;dsimp only at h;split at h
     · obtain ⟨_, k, _, h⟩ := and_ok h
       obtain ⟨x, k, h1, h⟩ := and_ok h;rw [← ok_inj h];exact over_expr (ih .pre _ _ _ trivial trivial h1) (by decide) (by decide) (by decide)
     split at h
     · rename_i hm
       obtain ⟨_, k, _, h⟩ := and_ok h;obtain ⟨x, k, h1, h⟩ := and_ok h;rw [← ok_inj h];have ha := ih .pre _ _ _ trivial trivial h1;rcases hm with hm | hm <;> rw [hm] <;> exact over_expr ha (by decide) (by decide) (by decide)
     · exact ih .post _ _ _ trivial trivial h
   | post =>
     obtain ⟨x, k, h1, h⟩ := and_ok h;exact ih (.postGo x) _ _ _ trivial (ih .prim _ _ _ trivial trivial h1) h
   | postGo a =>
     unfold gP at h;dsimp only at h;split at h
     · obtain ⟨x, k, h1, h⟩ := and_ok h
       exact ih (.postGo ((a.then x).under 42 0 [])) _ _ _ trivial (at_ok hb (ih (.between B.lsq .expr B.rsq) _ _ _ ⟨by decide, by decide, .inr (.inl rfl)⟩ trivial h1)) h
     · rw [← ok_inj h]; exact hb
   | prim =>
     unfold gP at h;dsimp only at h;split at h
     · rename_i x hx
       split at h
       · rw [← ok_inj h]; exact leaf_expr (fine_int _) (by decide)
       split at h
       · rename_i h3
         rw [← ok_inj h];exact leaf_expr (fine_text ((hk x (List.mem_of_getElem? hx)).2 h3)) (by decide)
       · exact gM_trees hk ih h
     · exact gM_trees hk ih h
   | two =>
     obtain ⟨x, k, h1, h⟩ := and_ok h;obtain ⟨_, k, _, h⟩ := and_ok h;obtain ⟨y, k, h2, h⟩ := and_ok h;rw [← ok_inj h];refine Trees.then (ih .expr _ _ _ trivial trivial h1) (ih .expr _ _ _ trivial trivial h2) ?_;rintro l r ⟨o, rfl, ho⟩ ⟨p, rfl, hp⟩;exact ⟨o, p, rfl, ho, hp⟩
   | set op =>
     obtain ⟨nm, k, h0, h⟩ := and_ok h;obtain ⟨_, k, _, h⟩ := and_ok h;obtain ⟨x, k, h1, h⟩ := and_ok h;rw [← ok_inj h];have hs : op = 4 ∨ op = 5 := hb;exact over_stmt (ih .expr _ _ _ trivial trivial h1) (fine_set hs (own_txt hk h0)) (by omega) (by rcases hs with rfl | rfl <;> decide)
   | list o p e =>
     obtain ⟨ho, he, hp⟩ := hw;obtain ⟨_, k, _, h⟩ := and_ok h;split at h
     · obtain ⟨_, k, _, h⟩ := and_ok h
       rw [← ok_inj h];refine Trees.none.mono ?_;rintro l rfl;rcases hp with rfl | rfl <;> (intro o ho; cases ho)
     · obtain ⟨x, k, h1, h⟩ := and_ok h
       refine ih (.listGo p e x) _ _ _ ⟨he, hp⟩ ?_ h;rcases hp with rfl | rfl
       · refine (ih .param _ _ _ trivial trivial h1).mono ?_
         rintro l rfl o ho
         simpa using ho
       · refine (ih .expr _ _ _ trivial trivial h1).mono ?_
         rintro l ⟨o, rfl, hh⟩ z hz;simp at hz; rw [hz]; exact hh
   | listGo p e a =>
     obtain ⟨he, hp⟩ := hw;unfold gP at h;dsimp only at h;split at h
     · obtain ⟨_, k, _, h⟩ := and_ok h
       obtain ⟨x, k, h1, h⟩ := and_ok h;refine ih (.listGo p e (a.then x)) _ _ _ ⟨he, hp⟩ ?_ h;rcases hp with rfl | rfl
       · refine Trees.then hb (ih .param _ _ _ trivial trivial h1) ?_
         rintro l r hl rfl z hz;rcases List.mem_append.1 hz with hz | hz
         · exact hl z hz
         · simpa using hz
       · refine Trees.then hb (ih .expr _ _ _ trivial trivial h1) ?_
         rintro l r hl ⟨o, rfl, hh⟩ z hz;rcases List.mem_append.1 hz with hz | hz
         · exact hl z hz
         · simp at hz; rw [hz]; exact hh
     · obtain ⟨_, k, _, h⟩ := and_ok h
       rw [← ok_inj h]; exact hb
   | between o p e =>
     obtain ⟨ho, he, hp⟩ := hw;obtain ⟨_, k, _, h⟩ := and_ok h;obtain ⟨x, k, h1, h⟩ := and_ok h;obtain ⟨_, k, _, h⟩ := and_ok h;rw [← ok_inj h];rcases hp with rfl | rfl | rfl
     · exact ih .stmts _ _ _ trivial trivial h1
     · exact ih .expr _ _ _ trivial trivial h1
     · exact ih .two _ _ _ trivial trivial h1
   | row p ms =>
     obtain ⟨x, k, h1, h⟩ := and_ok h;refine ih (.rowGo p ms x) _ _ _ hw ⟨?_, hb⟩ h;rcases hw.1 with rfl | rfl | rfl | rfl
     · exact ih .pre _ _ _ trivial trivial h1
     · exact ih .term _ _ _ trivial trivial h1
     · exact ih .not _ _ _ trivial trivial h1
     · exact ih .and _ _ _ trivial trivial h1
   | rowGo p ms a =>
     unfold gP at h;dsimp only at h;split at h
     · rename_i hm
       obtain ⟨_, k, _, h⟩ := and_ok h;obtain ⟨x, k, h1, h⟩ := and_ok h;obtain ⟨hb1, hb2⟩ := hb;have ho := hb2 _ hm;refine ih (.rowGo p ms ((a.then x).under (opOfT (markT ks i)) 0 [])) _ _ _ hw ⟨two_ok hb1 ?_ ho.1 (by omega), hb2⟩ h;rcases hw.1 with rfl | rfl | rfl | rfl
       · exact ih .pre _ _ _ trivial trivial h1
       · exact ih .term _ _ _ trivial trivial h1
       · exact ih .not _ _ _ trivial trivial h1
       · exact ih .and _ _ _ trivial trivial h1
     · rw [← ok_inj h]; exact hb.1
end Go.Proofs.YtngbekhegnmfaaaGreatDoor
namespace Go.Proofs.YtngbekhegnmfaaaGreatDoor
open Go.RowKit Go.Shelf
set_option maxRecDepth 20000 in
set_option maxHeartbeats 1000000 in
theorem alike_tw {w : World} {v1 v2 : Value} {ts : List Tw} (h1 : TwIn w v1 ts) (h2 : TwIn w v2 ts) :
   Calls Tryz.prog 9 #[v1, v2] w fun e w' => e = .returned (.bool true) ∧ Below w.heap.size w w' := by
 obtain ⟨a1, cap1, rfl, _, _, k1⟩ := h1;obtain ⟨a2, cap2, rfl, hlc, hcm, k2⟩ := h2;have hne : ((ts.length : Int) != (ts.length : Int)) = false := by simp
 replace k1 := Lib.hid k1;replace k2 := Lib.hid k2;go_enter Tryz.func9, Tryz.ntmps9
 go_wp2
 go_loopw [5] (fun t5 wr => ∃ i : Nat, i ≤ ts.length ∧ t5 = .int .i64 i ∧ Below w.heap.size w wr) (fun t5 _ => ts.length - (intOf t5).toNat)
 case atStart => exact ⟨0, by omega, rfl, Below.refl _ _⟩
 case round =>
   obtain ⟨i, hi, rfl, hbw⟩ := hrel;rcases Nat.lt_or_ge i ts.length with hlt | hge
   · obtain ⟨b1, o1, rfl, hl1, hc1⟩ := k1.out (by omega)
     obtain ⟨b2, o2, rfl, hl2, hc2⟩ := k2.out (by omega);have hlti : (i : Int) < (ts.length : Int) := by omega
     have x1 := fun n c (h : c < 4) => ((below_drewN hbw n).cell (p := ⟨b1, o1 + i * 4 + c, none⟩) hl1).trans (hc1 i hlt c h)
     have x2 := fun n c (h : c < 4) => ((below_drewN hbw n).cell (p := ⟨b2, o2 + i * 4 + c, none⟩) hl2).trans (hc2 i hlt c h)
     generalize ts[i] = t at *;obtain ⟨op, kids, num, text⟩ := t;have p0 := fun n => x1 n 0 (by omega); have p1 := fun n => x1 n 1 (by omega); have p2 := fun n => x1 n 2 (by omega); have p3 := fun n => x1 n 3 (by omega)
     have q0 := fun n => x2 n 0 (by omega); have q1 := fun n => x2 n 1 (by omega); have q2 := fun n => x2 n 2 (by omega); have q3 := fun n => x2 n 3 (by omega)
     simp only [twC, List.getElem?_cons_succ, List.getElem?_cons_zero, Nat.add_zero] at p0 p1 p2 p3 q0 q1 q2 q3;clear x1 x2 hc1 hc2;replace hbw := Lib.hid hbw;go_wp2
     go_quiet (fail)
     go_wp2
     go_roundw
     case rel => exact ⟨i + 1, by omega, by go_num, below_drewN hbw.out _⟩
     case measure => simp [intOf]; omega
   · obtain rfl : i = ts.length := by omega
     have hlti : ¬ ((ts.length : Int) < (ts.length : Int)) := by omega
     go_wp2
     go_ret
     exact ⟨rfl, hbw⟩
end Go.Proofs.YtngbekhegnmfaaaGreatDoor
namespace Go.Proofs.YtngbekhegnmfaaaGreatDoor
open Go.RowKit Tok
theorem cells_of_strs {H : Type} {enc : TypeId × Value → H} {P : Program} {w : World} {base : Nat} {sp : Nat → Bool} {held : Bool} {fuel : Nat} {t e : TypeId} {n : Nat} {cs : List Value} {zs : List (List UInt8)} {p : List MemPlace}
   (ht : P.underlying t = some (.array n e)) (he : P.underlying e = some .string) (hce : P.cellsOf e = 1) (hct : P.cellsOf t = n)
   (h : DataW.trod enc P w base sp held fuel t cs = some (.agg (zs.map fun z => .lit (.string z)), p)) : cs = zs.map fun z => Value.string ⟨z.toArray⟩ := by
 cases fuel with
 | zero => simp [DataW.trod] at h
 | succ fuel =>
   simp only [DataW.trod, ht, hce, hct, Nat.mul_one] at h;split at h
   · rename_i hl
     obtain ⟨xs, hm, hx⟩ := Option.map_eq_some_iff.1 h;have hxs : xs.map (·.1) = zs.map fun z => (DataW.lit (.string z) : DataW H) := by
       have := congrArg Prod.fst hx
       simpa using this
     have hxl : xs.length = n := by simpa using Lib.mapM_length hm
     have hzl : zs.length = n := by
       have := congrArg List.length hxs;simp at this
       omega
     apply List.ext_getElem?
     intro i;by_cases hi : i < n
     · obtain ⟨b, hb, hf⟩ := Lib.mapM_at hm i i (by simp [hi])
       obtain ⟨z, hc, rfl, _⟩ := DataW.trod_string he hf;have h1 : cs[i]? = some (.string z) := by
         have := congrArg (·[0]?) hc
         simpa [List.getElem?_take, List.getElem?_drop] using this
       have h2 : (xs.map (·.1))[i]? = some (DataW.lit (.string z.data.toList) : DataW H) := by simp [hb]
       rw [hxs] at h2;simp only [List.getElem?_map, Option.map_eq_some_iff, DataW.lit.injEq, Lit.string.injEq] at h2;obtain ⟨z', hz', h3⟩ := h2;subst h3;simp [h1, hz']
     · rw [List.getElem?_eq_none (by omega), List.getElem?_eq_none (by simp; omega)]
   · cases h
theorem signs_num : Tryz.prog.globalNamed "prompter/token.signs" = some 0 := by kernel_rfl
theorem signsOK_of {r : List (String × DataW Unit)} {W : World} (h : laidMet Tryz.prog (("prompter/token.signs", .agg (signs.map fun z => .lit (.string z))) :: r) W) : SignsOK W := by
 obtain ⟨ps, ⟨g', t', cs, fuel, p, q, hg', ht', hvar, hd, _, _⟩, _⟩ := h;obtain rfl := Option.some.inj (signs_num.symm.trans hg');obtain rfl := Option.some.inj ((show (Tryz.prog.globals[0]?).map (·.type) = some 99 by kernel_rfl).symm.trans ht');have hcs := cells_of_strs Tryz.underlying99 Tryz.underlying9 (by kernel_rfl) (by kernel_rfl) hd;intro i hi;have h1 := World.var?_cell signs_num hvar i;have h2 : cs[i]? = cs.toList[i]? := by simp
 rw [h1, h2, hcs];have hl : i < signs.length := hi;simp [List.getElem?_map, List.getElem?_eq_getElem hl, List.getD_eq_getElem?_getD]
theorem rowE : ∀ u, Tryz.prog.typeName? 3 u = some "*errors.errorString" → u = 176 := fun u h =>
 typeName_ptr_named (nm := "errors.errorString") (by kernel_rfl) (by kernel_rfl) (by decide) u h
theorem errR_of {text : List UInt8} {r : List (String × DataW Unit)} {W : World} (h : laidMet Tryz.prog (("strconv.ErrRange", .iface "*errors.errorString" (.ptr (.agg [.lit (.string text)]))) :: r) W) : ErrR W := by
 obtain ⟨a0, s0, hv0, _⟩ := laid_sentinel h (show Tryz.prog.globalNamed "strconv.ErrRange" = some 5 by kernel_rfl) (by kernel_rfl) Tryz.underlying125 rowE Tryz.underlying176 Tryz.underlying178 rfl rfl Tryz.underlying9 (by kernel_rfl) (by kernel_rfl);exact ⟨_, _, hv0⟩
end Go.Proofs.YtngbekhegnmfaaaGreatDoor
namespace Go.Proofs.YtngbekhegnmfaaaGreatDoor
open Go.RowKit Go.ChangeShapes Tok
theorem chunks_of {α β : Type} {g : α → List β} : ∀ (zs : List α) (cs : List β), (∀ z, (g z).length = 2) → cs.length = zs.length * 2 → (∀ k (h : k < zs.length), (cs.drop (k * 2)).take 2 = g zs[k]) → cs = zs.flatMap g
 | [], cs, _, hl, _ => by simpa using hl
 | z :: zs, cs, hg, hl, h => by
   have h0 := h 0 (by simp);rw [List.length_cons] at hl;rw [List.flatMap_cons, ← chunks_of zs (cs.drop 2) hg (by rw [List.length_drop]; omega) (fun k hk => by
     have := h (k + 1) (by simpa using hk);rw [List.drop_drop, show 2 + k * 2 = (k + 1) * 2 by omega]
     simpa using this)]
   have h1 : cs.take 2 = g z := by simpa using h0
   rw [← h1, List.take_append_drop]
theorem cells_of_pairs {H : Type} {enc : TypeId × Value → H} {P : Program} {w : World} {base : Nat} {sp : Nat → Bool} {held : Bool} {fuel : Nat} {t e : TypeId} {f0 f1 : Field} {n : Nat} {cs : List Value} {zs : List (List UInt8 × Nat)} {p : List MemPlace}
   (ht : P.underlying t = some (.array n e)) (he : P.underlying e = some (.struct #[f0, f1])) (h0 : P.underlying f0.type = some .string) (h1 : P.underlying f1.type = some (.int .u8)) (o0 : f0.offset = 0) (o1 : f1.offset = 1)
   (hc0 : P.cellsOf f0.type = 1) (hc1 : P.cellsOf f1.type = 1) (hce : P.cellsOf e = 2) (hct : P.cellsOf t = n * 2)
   (h : DataW.trod enc P w base sp held fuel t cs = some (.agg (zs.map fun z => .agg [.lit (.string z.1), .lit (.int .u8 (z.2 : Int))]), p)) : cs = zs.flatMap fun z => [Value.string ⟨z.1.toArray⟩, Value.int .u8 (z.2 : Int)] := by
 cases fuel with
 | zero => simp [DataW.trod] at h
 | succ fuel =>
   simp only [DataW.trod, ht, hce, hct] at h;split at h
   · rename_i hl
     obtain ⟨xs, hm, hx⟩ := Option.map_eq_some_iff.1 h;have hxs : xs.map (·.1) = zs.map fun z => (DataW.agg [.lit (.string z.1), .lit (.int .u8 (z.2 : Int))] : DataW H) := by
       have := congrArg Prod.fst hx
       simpa using this
     have hxl : xs.length = n := by simpa using Lib.mapM_length hm
     have hzl : zs.length = n := by
       have := congrArg List.length hxs;simp at this
       omega
     refine chunks_of zs cs (fun z => rfl) (by rw [hl, hzl]) (fun k hk => ?_);obtain ⟨b, hb, hf⟩ := Lib.mapM_at hm k k (by rw [List.getElem?_range (by omega)]);obtain ⟨y0, y1, m, rfl, hlen, g0, g1⟩ := trod_struct2 he hf;have h2 : (xs.map (·.1))[k]? = some (DataW.agg [y0.1, y1.1] : DataW H) := by simp [hb]
     rw [hxs, List.getElem?_map, List.getElem?_eq_getElem hk] at h2;simp only [Option.map_some, Option.some.injEq, DataW.agg.injEq, List.cons.injEq, and_true] at h2;rw [o0, hc0] at g0;rw [o1, hc1] at g1;obtain ⟨z, e0, e0', _⟩ := DataW.trod_string h0 g0;obtain ⟨q, e1, e1', _⟩ := DataW.trod_int h1 g1;rw [hce] at hlen;generalize (cs.drop (k * 2)).take 2 = ch at *
     match ch, hlen with
     | [a, b], _ =>
       simp at e0 e1
       subst e0 e1;have k0 : y0.1 = .lit (.string z.data.toList) := by rw [e0']
       have k1 : y1.1 = .lit (.int .u8 q) := by rw [e1']
       rw [k0] at h2;rw [k1] at h2;simp at h2
       obtain ⟨hz, hq⟩ := h2;rw [hz, hq]
   · cases h
theorem makes_num : Tryz.prog.globalNamed "prompter/parse.makes" = some 1 := by kernel_rfl
theorem makesOK_of {r : List (String × DataW Unit)} {W : World} (h : laidMet Tryz.prog (("prompter/parse.makes", .agg (makesL.map fun z => .agg [.lit (.string z.1), .lit (.int .u8 (z.2 : Int))])) :: r) W) : MakesOK W := by
 obtain ⟨ps, ⟨g', t', cs, fuel, p, q, hg', ht', hvar, hd, _, _⟩, _⟩ := h;obtain rfl := Option.some.inj (makes_num.symm.trans hg');obtain rfl := Option.some.inj ((show (Tryz.prog.globals[1]?).map (·.type) = some 134 by kernel_rfl).symm.trans ht');have hcs := cells_of_pairs Tryz.underlying134 Tryz.underlying133 Tryz.underlying9 Tryz.underlying5 rfl rfl (by kernel_rfl) (by kernel_rfl) (by kernel_rfl) (by kernel_rfl) hd;intro j v hv;rw [Nat.zero_add];rw [World.var?_cell makes_num hvar j];have h2 : cs[j]? = cs.toList[j]? := by simp
 rw [h2, hcs];exact hv
end Go.Proofs.YtngbekhegnmfaaaGreatDoor
namespace Go.Proofs.YtngbekhegnmfaaaGreatDoor
open Go.RowKit Go.Shelf Tok
theorem fit_of {ks : List Tk} {s : List UInt8} {q : NT} {c : Ch} {f i j : Nat} (hT : allT s = ⟨ks, 0, 0⟩) (hq : q.wf ∧ q.fits) (hg : gP ks f q i = .ok c j) : ∀ x ∈ c.ts, FitT x := gP_fit (allT_fits hT) _ _ _ _ _ hq.1 hq.2 hg
end Go.Proofs.YtngbekhegnmfaaaGreatDoor
