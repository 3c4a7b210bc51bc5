/- A part of the proof: PDo, PFit. No condition. -/
import Derived.Test.YtjiemkidmlgbeaaGreatDoorQ07
import Derived.Test.YtjiemkidmlgbeaaGreatDoorQ10
import Derived.Test.YtjiemkidmlgbeaaGreatDoorQ14
import Derived.Test.YtjiemkidmlgbeaaGreatDoorQ16
import Derived.Test.YtjiemkidmlgbeaaGreatDoorQ17
import Derived.Test.YtjiemkidmlgbeaaGreatDoorQ19
set_option linter.unusedVariables false
set_option linter.unusedSimpArgs false
namespace Go.Proofs.YtjiemkidmlgbeaaGreatDoor
open Go.RowKit Go.Shelf Tok
theorem enters_of {N R : Nat} {fn : Func} {c : Code} (hf : Tryz.prog.funcs[N]? = some fn) (hname : (fn.name == "runtime.NumGoroutine") = false) (hb : fn.body = some c) : Enters N R := by
 intro w;have h1 : fn.name ≠ "runtime.NumGoroutine" := by simpa using hname
 simp [callFunc, hf, h1, hb]
theorem en_param (R : Nat) : Enters 55 R := enters_of (fn := Tryz.f55) (by kernel_rfl) (by kernel_rfl) rfl
theorem en_stmts (R : Nat) : Enters 81 R := enters_of (fn := Tryz.f81) (by kernel_rfl) (by kernel_rfl) rfl
theorem en_expr (R : Nat) : Enters 35 R := enters_of (fn := Tryz.f35) (by kernel_rfl) (by kernel_rfl) rfl
theorem en_two (R : Nat) : Enters 133 R := enters_of (fn := Tryz.f133) (by kernel_rfl) (by kernel_rfl) rfl
theorem en_pre (R : Nat) : Enters 127 R := enters_of (fn := Tryz.f127) (by kernel_rfl) (by kernel_rfl) rfl
theorem en_term (R : Nat) : Enters 119 R := enters_of (fn := Tryz.f119) (by kernel_rfl) (by kernel_rfl) rfl
theorem en_not (R : Nat) : Enters 84 R := enters_of (fn := Tryz.f84) (by kernel_rfl) (by kernel_rfl) rfl
theorem en_and (R : Nat) : Enters 60 R := enters_of (fn := Tryz.f60) (by kernel_rfl) (by kernel_rfl) rfl
def argsB (R : Nat) (o : List UInt8) (N : Nat) (e : List UInt8) : Array Value := #[rp R, .string ⟨o.toArray⟩, .func (.func N) #[rp R] #[], .string ⟨e.toArray⟩]
structure DoAll (R : Nat) (a : Option Addr) (cap n : Nat) (ks : List Tk) (f : Nat) : Prop where
 flow : Does 34 (fun i => gP ks f .flow i) R a cap n ks
 param : Does 55 (fun i => gP ks f .param i) R a cap n ks
 block : Does 57 (fun i => gP ks f .block i) R a cap n ks
 stmts : Does 81 (fun i => gP ks f .stmts i) R a cap n ks
 stmt : Does 94 (fun i => gP ks f .stmt i) R a cap n ks
 choice : Does 106 (fun i => gP ks f .choice i) R a cap n ks
 expr : Does 35 (fun i => gP ks f .expr i) R a cap n ks
 and : Does 60 (fun i => gP ks f .and i) R a cap n ks
 not : Does 84 (fun i => gP ks f .not i) R a cap n ks
 cmp : Does 96 (fun i => gP ks f .cmp i) R a cap n ks
 sum : Does 107 (fun i => gP ks f .sum i) R a cap n ks
 term : Does 119 (fun i => gP ks f .term i) R a cap n ks
 pre : Does 127 (fun i => gP ks f .pre i) R a cap n ks
 post : Does 130 (fun i => gP ks f .post i) R a cap n ks
 prim : Does 132 (fun i => gP ks f .prim i) R a cap n ks
 two : Does 133 (fun i => gP ks f .two i) R a cap n ks
 set4 : DoesA 105 #[rp R, .int .u8 4] (fun i => gP ks f (.set 4) i) R a cap n ks
 set5 : DoesA 105 #[rp R, .int .u8 5] (fun i => gP ks f (.set 5) i) R a cap n ks
 btwB : DoesA 80 (argsB R B.lbr 81 B.rbr) (fun i => gP ks f (.between B.lbr .stmts B.rbr) i) R a cap n ks
 btwP : DoesA 80 (argsB R B.opn 35 B.cls) (fun i => gP ks f (.between B.opn .expr B.cls) i) R a cap n ks
 btwT : DoesA 80 (argsB R B.opn 133 B.cls) (fun i => gP ks f (.between B.opn .two B.cls) i) R a cap n ks
 btwS : DoesA 80 (argsB R B.lsq 35 B.rsq) (fun i => gP ks f (.between B.lsq .expr B.rsq) i) R a cap n ks
 listP : DoesA 54 (argsB R B.opn 55 B.cls) (fun i => gP ks f (.list B.opn .param B.cls) i) R a cap n ks
 listE : DoesA 54 (argsB R B.opn 35 B.cls) (fun i => gP ks f (.list B.opn .expr B.cls) i) R a cap n ks
 listS : DoesA 54 (argsB R B.lsq 35 B.rsq) (fun i => gP ks f (.list B.lsq .expr B.rsq) i) R a cap n ks
 row : ∀ N q ms W i g, ((N = 127 ∧ q = .pre ∧ ms = mulS) ∨ (N = 119 ∧ q = .term ∧ ms = addS) ∨ (N = 84 ∧ q = .not ∧ ms = [B.and]) ∨ (N = 60 ∧ q = .and ∧ ms = [B.or])) →
   PR W R a cap n ks i → MakesOK W → StrsIn W g ms.length ms → g ≠ R → g < W.heap.size → gP ks f (.row q ms) i ≠ .out →
   Calls Tryz.prog 59 #[rp R, .func (.func N) #[rp R] #[], .slice (some ⟨g, 0, none⟩) ms.length ms.length] W (Took (gP ks f (.row q ms) i) W R a cap n ks)
section
variable {R cap n : Nat} {a : Option Addr} {ks : List Tk}
theorem want_is {m : List UInt8} {i : Nat} (h : markT ks i = m) : wantT ks m i = .ok () (i + 1) := by unfold wantT; rw [if_pos h]
theorem want_not {m : List UInt8} {i : Nat} (h : markT ks i ≠ m) : wantT ks m i = .bad i := by unfold wantT; rw [if_neg h]
theorem neq {m x : List UInt8} (h : m ≠ x) : (m == x) = false := beq_eq_false_iff_ne.2 h
theorem mono7 {c : Nat} (h : c ≤ 1000000) : c ≤ 10000000 := by omega
theorem mono8 {c : Nat} (h : c ≤ 1000000) : c ≤ 100000000 := by omega
theorem few7 (hk : ks.length ≤ 1000000) {f i j : Nat} {q : NT} {c : Ch} (h : gP ks f q i = .ok c j) (hw : q.wf) (hh : q.had = 0) : c.n ≤ 10000000 := mono7 (gP_few hk hw hh h)
variable (hR : 2 ≠ R) (hk : ks.length ≤ 1000000) {f : Nat}
include hR hk
theorem do_stmt (d : DoAll R a cap n ks f) : Does 94 (fun i => gP ks (f + 1) .stmt i) R a cap n ks := by
 intro w i h hM hne;dsimp only at hne ⊢;unfold gP at hne ⊢;dsimp only at hne ⊢;by_cases h1 : markT ks i = B.letW
 · rw [if_pos h1] at hne ⊢
   rw [want_is h1] at hne ⊢;unfold St.and at hne ⊢;dsimp only at hne ⊢;cases hg : gP ks f (.set 4) (i + 1) with
   | out => exact absurd hg hne
   | bad j => exact stmt_let_bad hR h hM h1 d.set4 hg
   | ok c j => exact stmt_let_ok hR h hM h1 d.set4 hg (few7 hk hg trivial rfl)
 rw [if_neg h1] at hne ⊢;by_cases h2 : markT ks i = B.ifW
 · rw [if_pos h2] at hne ⊢
   cases hg : gP ks f .choice i with
   | out => exact absurd hg hne
   | bad j => exact stmt_if_bad hR h hM h2 d.choice hg
   | ok c j => exact stmt_if_ok hR h hM h2 d.choice hg (few7 hk hg trivial rfl)
 rw [if_neg h2] at hne ⊢;by_cases h3 : markT ks i = B.whileW
 · rw [if_pos h3] at hne ⊢
   rw [want_is h3] at hne ⊢;unfold St.and at hne ⊢;dsimp only at hne ⊢;cases hg : gP ks f .expr (i + 1) with
   | out => rw [hg] at hne; exact absurd rfl hne
   | bad j => exact stmt_while_bad1 hR h hM h3 d.expr hg
   | ok c j =>
     rw [hg] at hne;dsimp only at hne ⊢;cases hg2 : gP ks f .block j with
     | out => rw [hg2] at hne; exact absurd rfl hne
     | bad k => exact stmt_while_bad2 hR h hM h3 d.expr hg (few7 hk hg trivial rfl) d.block hg2
     | ok b k => exact stmt_while_ok hR h hM h3 d.expr hg (few7 hk hg trivial rfl) d.block hg2 (few7 hk hg2 trivial rfl)
 rw [if_neg h3] at hne ⊢;by_cases h4 : markT ks i = B.ret ∨ markT ks i = B.fail ∨ markT ks i = B.sleep ∨ markT ks i = B.doW
 · rw [if_pos h4] at hne ⊢
   rw [want_is rfl] at hne ⊢;unfold St.and at hne ⊢;dsimp only at hne ⊢;cases hg : gP ks f .expr (i + 1) with
   | out => rw [hg] at hne; exact absurd rfl hne
   | bad j =>
     rcases h4 with h4 | h4 | h4 | h4
     · exact stmt_ret_bad hR h hM h4 d.expr hg
     · exact stmt_fail_bad hR h hM h4 d.expr hg
     · exact stmt_sleep_bad hR h hM h4 d.expr hg
     · exact stmt_do_bad hR h hM h4 d.expr hg
   | ok c j =>
     have hc := few7 hk hg trivial rfl;dsimp only;rcases h4 with h4 | h4 | h4 | h4
     · rw [h4]; exact stmt_ret_ok hR h hM h4 d.expr hg hc
     · rw [h4]; exact stmt_fail_ok hR h hM h4 d.expr hg hc
     · rw [h4]; exact stmt_sleep_ok hR h hM h4 d.expr hg hc
     · rw [h4]; exact stmt_do_ok hR h hM h4 d.expr hg hc
 · rw [if_neg h4] at hne ⊢
   obtain ⟨n1, n2, n3, n4⟩ : markT ks i ≠ B.ret ∧ markT ks i ≠ B.fail ∧ markT ks i ≠ B.sleep ∧ markT ks i ≠ B.doW := ⟨fun e => h4 (.inl e), fun e => h4 (.inr (.inl e)), fun e => h4 (.inr (.inr (.inl e))), fun e => h4 (.inr (.inr (.inr e)))⟩;cases hg : gP ks f (.set 5) i with
   | out => exact absurd hg hne
   | bad j => exact stmt_set_bad hR h hM rfl (neq h1) (neq h2) (neq h3) (neq n1) (neq n2) (neq n3) (neq n4) d.set5 hg
   | ok c j => exact stmt_set_ok hR h hM rfl (neq h1) (neq h2) (neq h3) (neq n1) (neq n2) (neq n3) (neq n4) d.set5 hg (few7 hk hg trivial rfl)
theorem do_choice (d : DoAll R a cap n ks f) : Does 106 (fun i => gP ks (f + 1) .choice i) R a cap n ks := by
 intro w i h hM hne;dsimp only at hne ⊢;unfold gP at hne ⊢;dsimp only at hne ⊢;by_cases h1 : markT ks i = B.ifW
 · rw [want_is h1] at hne ⊢
   unfold St.and at hne ⊢;dsimp only at hne ⊢;cases hg : gP ks f .expr (i + 1) with
   | out => rw [hg] at hne; exact absurd rfl hne
   | bad j => exact choice_bad1 hR h hM h1 d.expr hg
   | ok c j =>
     have hc := few7 hk hg trivial rfl;rw [hg] at hne;dsimp only at hne ⊢;cases hg2 : gP ks f .block j with
     | out => rw [hg2] at hne; exact absurd rfl hne
     | bad k => exact choice_bad2 hR h hM h1 d.expr hg hc d.block hg2
     | ok b k =>
       have hb := few7 hk hg2 trivial rfl;rw [hg2] at hne;dsimp only at hne ⊢;by_cases h2 : markT ks k = B.elseW
       · rw [if_pos h2] at hne ⊢
         rw [want_is h2] at hne ⊢;dsimp only at hne ⊢;cases hg3 : gP ks f .block (k + 1) with
         | out => rw [hg3] at hne; exact absurd rfl hne
         | bad l => exact choice_bad3 hR h hM h1 d.expr hg hc d.block hg2 hb h2 hg3
         | ok e l => exact choice_three hR h hM h1 d.expr hg hc d.block hg2 hb h2 hg3 (few7 hk hg3 trivial rfl)
       · rw [if_neg h2] at hne ⊢
         exact choice_two hR h hM h1 d.expr hg hc d.block hg2 hb rfl (neq h2)
 · rw [want_not h1] at hne ⊢
   exact choice_bad0 hR h hM h1
theorem do_pre (d : DoAll R a cap n ks f) : Does 127 (fun i => gP ks (f + 1) .pre i) R a cap n ks := by
 intro w i h hM hne;dsimp only at hne ⊢;unfold gP at hne ⊢;dsimp only at hne ⊢;by_cases h1 : markT ks i = B.sub
 · rw [if_pos h1] at hne ⊢
   rw [want_is h1] at hne ⊢;unfold St.and at hne ⊢;dsimp only at hne ⊢;cases hg : gP ks f .pre (i + 1) with
   | out => rw [hg] at hne; exact absurd rfl hne
   | bad j => exact pre_neg_bad hR h hM h1 d.pre hg
   | ok c j => exact pre_neg_ok hR h hM h1 d.pre hg (few7 hk hg trivial rfl)
 rw [if_neg h1] at hne ⊢;by_cases h2 : markT ks i = B.await ∨ markT ks i = B.settle
 · rw [if_pos h2] at hne ⊢
   rw [want_is rfl] at hne ⊢;unfold St.and at hne ⊢;dsimp only at hne ⊢;cases hg : gP ks f .pre (i + 1) with
   | out => rw [hg] at hne; exact absurd rfl hne
   | bad j =>
     rcases h2 with h2 | h2
     · exact pre_await_bad hR h hM h2 d.pre hg
     · exact pre_settle_bad hR h hM h2 d.pre hg
   | ok c j =>
     have hc := few7 hk hg trivial rfl;dsimp only;rcases h2 with h2 | h2
     · rw [h2]; exact pre_await_ok hR h hM h2 d.pre hg hc
     · rw [h2]; exact pre_settle_ok hR h hM h2 d.pre hg hc
 · rw [if_neg h2] at hne ⊢
   obtain ⟨n1, n2⟩ : markT ks i ≠ B.await ∧ markT ks i ≠ B.settle := ⟨fun e => h2 (.inl e), fun e => h2 (.inr e)⟩;cases hg : gP ks f .post i with
   | out => exact absurd hg hne
   | bad j => exact pre_post_bad hR h hM rfl (neq h1) (neq n1) (neq n2) d.post hg
   | ok c j => exact pre_post_ok hR h hM rfl (neq h1) (neq n1) (neq n2) d.post hg (few7 hk hg trivial rfl)
theorem do_cmp (d : DoAll R a cap n ks f) : Does 96 (fun i => gP ks (f + 1) .cmp i) R a cap n ks := by
 intro w i h hM hne;dsimp only at hne ⊢;unfold gP at hne ⊢;dsimp only at hne ⊢;unfold St.and at hne ⊢;cases hg : gP ks f .sum i with
 | out => rw [hg] at hne; exact absurd rfl hne
 | bad j => exact cmp_bad hR h hM d.sum hg
 | ok c j =>
   rw [hg] at hne;dsimp only at hne ⊢;by_cases h1 : markT ks j = B.eqq ∨ markT ks j = B.neq ∨ markT ks j = B.les ∨ markT ks j = B.leq
   · rw [if_pos h1] at hne ⊢
     rw [want_is rfl] at hne ⊢;dsimp only at hne ⊢;refine cmp_in d.sum (fun i c j e => few7 hk e trivial rfl) hR h hM hg rfl ?_ ?_ hne
     · rcases h1 with e | e | e | e <;> rw [e] <;> decide
     · rcases h1 with e | e | e | e <;> rw [e] <;> decide
   · rw [if_neg h1] at hne ⊢
     exact cmp_out d.sum hR h hM hg (fun e => h1 (.inl e)) (fun e => h1 (.inr (.inl e))) (fun e => h1 (.inr (.inr (.inl e)))) (fun e => h1 (.inr (.inr (.inr e))))
theorem do_post (d : ∀ f', f' ≤ f → DoAll R a cap n ks f') : Does 130 (fun i => gP ks (f + 1) .post i) R a cap n ks := by
 intro w i h hM hne;dsimp only at hne ⊢;unfold gP at hne ⊢;dsimp only at hne ⊢;unfold St.and at hne ⊢;cases hg : gP ks f .prim i with
 | out => rw [hg] at hne; exact absurd rfl hne
 | bad j => exact post_bad hR h hM (d f (Nat.le_refl _)).prim hg
 | ok c j =>
   rw [hg] at hne;exact post_loop hR h hM (d f (Nat.le_refl _)).prim hg (few7 hk hg trivial rfl) (fun f' hf => (d f' hf).btwS) (fun f i c j e => few7 (q := .between B.lsq .expr B.rsq) hk e ⟨by decide, by decide, .inr (.inl rfl)⟩ rfl)
     (fun f i c j e => by have := (gP_bnd ks f (.between B.lsq .expr B.rsq) i c j ⟨by decide, by decide, .inr (.inl rfl)⟩ e).1; simp only [NT.low] at this; omega) hne
theorem do_marks (d : DoAll R a cap n ks f) {w : World} {i : Nat} (h : PR w R a cap n ks i) (hM : MakesOK w) {kd nu at_ : Nat} {tx : List UInt8} (ht : tkAt ks i = ⟨kd, tx, nu, at_⟩) (k2 : kd ≠ 2) (k3 : kd ≠ 3)
   {m : List UInt8} (hm : markT ks i = m) (hne : gM ks (gP ks f) m i ≠ .out) :
   Calls Tryz.prog 132 #[rp R] w (Took (gM ks (gP ks f) m i) w R a cap n ks) := by
 have q2 : ((kd : Int) == 2) = false := beq_eq_false_iff_ne.2 (by omega);have q3 : ((kd : Int) == 3) = false := beq_eq_false_iff_ne.2 (by omega);unfold gM at hne ⊢;by_cases h1 : m = B.lsq
 · rw [if_pos h1] at hne ⊢
   subst h1;unfold St.and at hne ⊢;cases hg : gP ks f (.list B.lsq .expr B.rsq) i with
   | out => rw [hg] at hne; exact absurd rfl hne
   | bad j => exact prim_list_bad hR h hM ht q2 q3 hm d.listS hg
   | ok c j => exact prim_list_ok hR h hM ht q2 q3 hm d.listS hg (few7 hk hg ⟨by decide, by decide, .inr rfl⟩ rfl)
 rw [if_neg h1] at hne ⊢;by_cases h2 : m = B.opn
 · rw [if_pos h2] at hne ⊢
   subst h2;cases hg : gP ks f (.between B.opn .expr B.cls) i with
   | out => exact absurd hg hne
   | bad j => exact prim_paren_bad hR h hM ht q2 q3 hm d.btwP hg
   | ok c j => exact prim_paren_ok hR h hM ht q2 q3 hm d.btwP hg (few7 hk hg ⟨by decide, by decide, .inr (.inl rfl)⟩ rfl)
 rw [if_neg h2] at hne ⊢;by_cases h3 : m = B.none ∨ m = B.tru ∨ m = B.fls ∨ m = B.version
 · rw [if_pos h3] at hne ⊢
   rw [want_is hm] at hne ⊢;unfold St.and at hne ⊢;dsimp only at hne ⊢;rcases h3 with h3 | h3 | h3 | h3
   · subst h3; exact prim_none hR h hM ht q2 q3 hm
   · subst h3; exact prim_tru hR h hM ht q2 q3 hm
   · subst h3; exact prim_fls hR h hM ht q2 q3 hm
   · subst h3; exact prim_version hR h hM ht q2 q3 hm
 rw [if_neg h3] at hne ⊢;by_cases h4 : m = B.len ∨ m = B.re ∨ m = B.im ∨ m = B.conj ∨ m = B.timer
 · rw [if_pos h4] at hne ⊢
   rw [want_is hm] at hne ⊢;unfold St.and at hne ⊢;dsimp only at hne ⊢;cases hg : gP ks f (.between B.opn .expr B.cls) (i + 1) with
   | out => rw [hg] at hne; exact absurd rfl hne
   | bad j =>
     dsimp only;rcases h4 with h4 | h4 | h4 | h4 | h4
     · subst h4; exact prim_len_bad hR h hM ht q2 q3 hm d.btwP hg
     · subst h4; exact prim_re_bad hR h hM ht q2 q3 hm d.btwP hg
     · subst h4; exact prim_im_bad hR h hM ht q2 q3 hm d.btwP hg
     · subst h4; exact prim_conj_bad hR h hM ht q2 q3 hm d.btwP hg
     · subst h4; exact prim_timer_bad hR h hM ht q2 q3 hm d.btwP hg
   | ok c j =>
     have hc := few7 hk hg ⟨by decide, by decide, .inr (.inl rfl)⟩ rfl;dsimp only;rcases h4 with h4 | h4 | h4 | h4 | h4
     · subst h4; exact prim_len_ok hR h hM ht q2 q3 hm d.btwP hg hc
     · subst h4; exact prim_re_ok hR h hM ht q2 q3 hm d.btwP hg hc
     · subst h4; exact prim_im_ok hR h hM ht q2 q3 hm d.btwP hg hc
     · subst h4; exact prim_conj_ok hR h hM ht q2 q3 hm d.btwP hg hc
     · subst h4; exact prim_timer_ok hR h hM ht q2 q3 hm d.btwP hg hc
 rw [if_neg h4] at hne ⊢;by_cases h5 : m = B.num
 · rw [if_pos h5] at hne ⊢
   rw [want_is hm] at hne ⊢;subst h5;unfold St.and at hne ⊢;dsimp only at hne ⊢;cases hg : gP ks f (.between B.opn .two B.cls) (i + 1) with
   | out => rw [hg] at hne; exact absurd rfl hne
   | bad j => exact prim_num_bad hR h hM ht q2 q3 hm d.btwT hg
   | ok c j => exact prim_num_ok hR h hM ht q2 q3 hm d.btwT hg (few7 hk hg ⟨by decide, by decide, .inr (.inr rfl)⟩ rfl)
 rw [if_neg h5] at hne ⊢;by_cases h6 : m = B.call ∨ m = B.child
 · rw [if_pos h6] at hne ⊢
   rw [want_is hm] at hne ⊢;unfold St.and at hne ⊢;dsimp only at hne ⊢;cases ho : ownT ks (i + 1) with
   | out => rw [ho] at hne; exact absurd rfl hne
   | bad k =>
     dsimp only;rcases h6 with h6 | h6
     · subst h6; exact prim_call_own hR h hM ht q2 q3 hm ho
     · subst h6; exact prim_child_own hR h hM ht q2 q3 hm ho
   | ok x k =>
     rw [ho] at hne;dsimp only at hne ⊢;cases hg : gP ks f (.list B.opn .expr B.cls) k with
     | out => rw [hg] at hne; exact absurd rfl hne
     | bad l =>
       dsimp only;rcases h6 with h6 | h6
       · subst h6; exact prim_call_bad hR h hM ht q2 q3 hm ho d.listE hg
       · subst h6; exact prim_child_bad hR h hM ht q2 q3 hm ho d.listE hg
     | ok c l =>
       have hc := few7 hk hg ⟨by decide, by decide, .inr rfl⟩ rfl;dsimp only;rcases h6 with h6 | h6
       · subst h6; exact prim_call_ok hR h hM ht q2 q3 hm ho d.listE hg hc
       · subst h6; exact prim_child_ok hR h hM ht q2 q3 hm ho d.listE hg hc
 rw [if_neg h6] at hne ⊢;by_cases h7 : m = B.fork
 · rw [if_pos h7] at hne ⊢
   rw [want_is hm] at hne ⊢;subst h7;unfold St.and at hne ⊢;dsimp only at hne ⊢;cases hg : gP ks f .block (i + 1) with
   | out => rw [hg] at hne; exact absurd rfl hne
   | bad j => exact prim_fork_bad hR h hM ht q2 q3 hm d.block hg
   | ok c j => exact prim_fork_ok hR h hM ht q2 q3 hm d.block hg (few7 hk hg trivial rfl)
 rw [if_neg h7] at hne ⊢;by_cases h8 : m = B.take
 · rw [if_pos h8] at hne ⊢
   rw [want_is hm] at hne ⊢;subst h8;unfold St.and at hne ⊢;dsimp only at hne ⊢;cases ho : ownT ks (i + 1) with
   | out => rw [ho] at hne; exact absurd rfl hne
   | bad k => exact prim_take_own hR h hM ht q2 q3 hm ho
   | ok x k => exact prim_take hR h hM ht q2 q3 hm ho
 · rw [if_neg h8] at hne ⊢
   unfold St.and at hne ⊢;obtain ⟨a1, a2, a3, a4⟩ : m ≠ B.none ∧ m ≠ B.tru ∧ m ≠ B.fls ∧ m ≠ B.version := ⟨fun e => h3 (.inl e), fun e => h3 (.inr (.inl e)), fun e => h3 (.inr (.inr (.inl e))), fun e => h3 (.inr (.inr (.inr e)))⟩;obtain ⟨b1, b2, b3, b4, b5⟩ : m ≠ B.len ∧ m ≠ B.re ∧ m ≠ B.im ∧ m ≠ B.conj ∧ m ≠ B.timer := ⟨fun e => h4 (.inl e), fun e => h4 (.inr (.inl e)), fun e => h4 (.inr (.inr (.inl e))), fun e => h4 (.inr (.inr (.inr (.inl e)))), fun e => h4 (.inr (.inr (.inr (.inr e))))⟩;obtain ⟨c1, c2⟩ : m ≠ B.call ∧ m ≠ B.child := ⟨fun e => h6 (.inl e), fun e => h6 (.inr e)⟩;cases ho : ownT ks i with
   | out => rw [ho] at hne; exact absurd rfl hne
   | bad k => exact prim_name_own hR h hM ht q2 q3 hm (neq h1) (neq h2) (neq a1) (neq a2) (neq a3) (neq a4) (neq b1) (neq b2) (neq b3) (neq b4) (neq b5) (neq h5) (neq c1) (neq c2) (neq h7) (neq h8) ho
   | ok x k => exact prim_name hR h hM ht q2 q3 hm (neq h1) (neq h2) (neq a1) (neq a2) (neq a3) (neq a4) (neq b1) (neq b2) (neq b3) (neq b4) (neq b5) (neq h5) (neq c1) (neq c2) (neq h7) (neq h8) ho
theorem do_prim (d : DoAll R a cap n ks f) : Does 132 (fun i => gP ks (f + 1) .prim i) R a cap n ks := by
 intro w i h hM hne;dsimp only at hne ⊢;unfold gP at hne ⊢;dsimp only at hne ⊢;cases hx : ks[i]? with
 | none =>
   rw [hx] at hne;dsimp only at hne ⊢;have ht : tkAt ks i = tok0 := by unfold tkAt; rw [List.getD_eq_getElem?_getD, hx]; rfl
   exact do_marks hR hk d h hM ht (by decide) (by decide) (by unfold markT; rw [hx]) hne
 | some x =>
   rw [hx] at hne;dsimp only at hne ⊢;have hil := (List.getElem?_eq_some_iff.1 hx).1;have ht : tkAt ks i = x := by unfold tkAt; rw [List.getD_eq_getElem?_getD, hx]; rfl
   obtain ⟨kd, tx, nu, at_⟩ := x;dsimp only at hne ⊢;by_cases k2 : kd = 2
   · rw [if_pos k2]
     subst k2;exact prim_int hR h hM ht hil
   · rw [if_neg k2] at hne ⊢
     by_cases k3 : kd = 3
     · rw [if_pos k3]
       subst k3;exact prim_text hR h hM ht hil
     · rw [if_neg k3] at hne ⊢
       exact do_marks hR hk d h hM ht k2 k3 rfl hne
theorem row_ok (d : ∀ f', f' ≤ f → DoAll R a cap n ks f') {N : Nat} {q : NT} {ms : List (List UInt8)} {W : World} {i g : Nat}
   (hq : (N = 127 ∧ q = .pre ∧ ms = mulS) ∨ (N = 119 ∧ q = .term ∧ ms = addS) ∨ (N = 84 ∧ q = .not ∧ ms = [B.and]) ∨ (N = 60 ∧ q = .and ∧ ms = [B.or]))
   (h : PR W R a cap n ks i) (hM : MakesOK W) (hS : StrsIn W g ms.length ms) (hg : g ≠ R) (hgl : g < W.heap.size) (hne : gP ks (f + 1) (.row q ms) i ≠ .out) :
   Calls Tryz.prog 59 #[rp R, .func (.func N) #[rp R] #[], .slice (some ⟨g, 0, none⟩) ms.length ms.length] W (Took (gP ks (f + 1) (.row q ms) i) W R a cap n ks) := by
 have hb : ∀ q : NT, q.wf → q.had = 0 → q.low = 1 → (∀ f i c j, gP ks f q i = .ok c j → c.n ≤ 10000000) ∧ ∀ f i c j, gP ks f q i = .ok c j → i ≤ j :=
   fun q hw h0 h1 => ⟨fun f i c j e => mono7 (gP_few hk hw h0 e), fun f i c j e => by have := (gP_bnd ks f q i c j hw e).1; omega⟩
 rcases hq with ⟨rfl, rfl, rfl⟩ | ⟨rfl, rfl, rfl⟩ | ⟨rfl, rfl, rfl⟩ | ⟨rfl, rfl, rfl⟩
 · exact row_any (en_pre R) f (fun f' hf => (d f' hf).pre) (hb .pre trivial rfl rfl).1 (hb .pre trivial rfl rfl).2 hR h hM hS hg hgl (by decide) (by decide) hne
 · exact row_any (en_term R) f (fun f' hf => (d f' hf).term) (hb .term trivial rfl rfl).1 (hb .term trivial rfl rfl).2 hR h hM hS hg hgl (by decide) (by decide) hne
 · exact row_any (en_not R) f (fun f' hf => (d f' hf).not) (hb .not trivial rfl rfl).1 (hb .not trivial rfl rfl).2 hR h hM hS hg hgl (by decide) (by decide) hne
 · exact row_any (en_and R) f (fun f' hf => (d f' hf).and) (hb .and trivial rfl rfl).1 (hb .and trivial rfl rfl).2 hR h hM hS hg hgl (by decide) (by decide) hne
theorem do_next (d : ∀ f', f' ≤ f → DoAll R a cap n ks f') : DoAll R a cap n ks (f + 1) := by
 have d0 := d f (Nat.le_refl _);have few : ∀ q : NT, q.wf → q.had = 0 → ∀ f i c j, gP ks f q i = .ok c j → c.n ≤ 10000000 := fun q hw h0 f i c j e => mono7 (gP_few hk hw h0 e)
 have few8 : ∀ q : NT, q.wf → q.had = 0 → ∀ f i c j, gP ks f q i = .ok c j → c.n ≤ 100000000 := fun q hw h0 f i c j e => mono8 (gP_few hk hw h0 e)
 have bnd : ∀ q : NT, q.wf → q.had = 0 → ∀ f i c j, gP ks f q i = .ok c j → c.n + i ≤ j := fun q hw h0 f i c j e => by have := (gP_bnd ks f q i c j hw e).2.1; omega
 refine { flow := ?_, param := ?_, block := ?_, stmts := ?_, stmt := do_stmt hR hk d0, choice := do_choice hR hk d0, expr := ?_, and := ?_, not := ?_, cmp := do_cmp hR hk d0, sum := ?_, term := ?_, pre := do_pre hR hk d0, post := do_post hR hk d, prim := do_prim hR hk d0, two := ?_, set4 := ?_, set5 := ?_, btwB := ?_, btwP := ?_, btwT := ?_, btwS := ?_, listP := ?_, listE := ?_, listS := ?_, row := fun N q ms W i g hq h hM hS hg hgl hne => row_ok hR hk d hq h hM hS hg hgl hne }
 · exact fun w i h hM hne => flow_any (GL := fun i => gP ks f (.list B.opn .param B.cls) i) (GB := fun i => gP ks f .block i) (fun W j hp hm hn => d0.listP W j hp hm hn) d0.block (few (.list B.opn .param B.cls) ⟨by decide, by decide, .inl rfl⟩ rfl f) (few .block trivial rfl f) hR h hM hne
 · exact fun w i h hM hne => param_any hR h hM hne
 · exact fun w i h hM hne => block_any hR h hM (fun W hp hm hn => d0.btwB W i hp hm hn) (fun c j e => few8 (.between B.lbr .stmts B.rbr) ⟨by decide, by decide, .inl rfl⟩ rfl f i c j e) hne
 · exact fun w i h hM hne => stmts_any f (fun f' hf => (d f' hf).stmt) (bnd .stmt trivial rfl) (fun f i c j e => by have := (gP_bnd ks f .stmt i c j trivial e).1; simp only [NT.low] at this; omega) hR h hM hne
 · exact fun w i h hM hne => expr_any hR h hM (fun W g hp hm hS hg hgl hn => d0.row _ _ _ W i g (.inr (.inr (.inr ⟨rfl, rfl, rfl⟩))) hp hm hS hg hgl hn) hne
 · exact fun w i h hM hne => and_any hR h hM (fun W g hp hm hS hg hgl hn => d0.row _ _ _ W i g (.inr (.inr (.inl ⟨rfl, rfl, rfl⟩))) hp hm hS hg hgl hn) hne
 · exact fun w i h hM hne => not_any (G1 := fun i => gP ks f .not i) (G2 := fun i => gP ks f .cmp i) d0.not d0.cmp (few8 .not trivial rfl f) hR h hM hne
 · exact fun w i h hM hne => sum_any hR h hM (fun W g hp hm hS hg hgl hn => d0.row _ _ _ W i g (.inr (.inl ⟨rfl, rfl, rfl⟩)) hp hm hS hg hgl hn) hne
 · exact fun w i h hM hne => term_any hR h hM (fun W g hp hm hS hg hgl hn => d0.row _ _ _ W i g (.inl ⟨rfl, rfl, rfl⟩) hp hm hS hg hgl hn) hne
 · exact fun w i h hM hne => two_any (G := fun i => gP ks f .expr i) d0.expr (few8 .expr trivial rfl f) hR h hM hne
 · exact fun w i h hM hne => set_any (G := fun i => gP ks f .expr i) d0.expr (few8 .expr trivial rfl f) hR 4 h hM hne
 · exact fun w i h hM hne => set_any (G := fun i => gP ks f .expr i) d0.expr (few8 .expr trivial rfl f) hR 5 h hM hne
 · exact fun w i h hM hne => btw_any (G := fun i => gP ks f .stmts i) (en_stmts R) d0.stmts hR (by decide) (by decide) h hM hne
 · exact fun w i h hM hne => btw_any (G := fun i => gP ks f .expr i) (en_expr R) d0.expr hR (by decide) (by decide) h hM hne
 · exact fun w i h hM hne => btw_any (G := fun i => gP ks f .two i) (en_two R) d0.two hR (by decide) (by decide) h hM hne
 · exact fun w i h hM hne => btw_any (G := fun i => gP ks f .expr i) (en_expr R) d0.expr hR (by decide) (by decide) h hM hne
 · exact fun w i h hM hne => list_any (en_param R) f (fun f' hf => (d f' hf).param) (bnd .param trivial rfl) hR (by decide) (by decide) h hM hne
 · exact fun w i h hM hne => list_any (en_expr R) f (fun f' hf => (d f' hf).expr) (bnd .expr trivial rfl) hR (by decide) (by decide) h hM hne
 · exact fun w i h hM hne => list_any (en_expr R) f (fun f' hf => (d f' hf).expr) (bnd .expr trivial rfl) hR (by decide) (by decide) h hM hne
omit hk hR in
theorem do_zero : DoAll R a cap n ks 0 := by
 have h0 : ∀ (N : Nat) (q : NT), Does N (fun i => gP ks 0 q i) R a cap n ks := fun N q W i _ _ hne => absurd rfl hne;have h1 : ∀ (N : Nat) (A : Array Value) (q : NT), DoesA N A (fun i => gP ks 0 q i) R a cap n ks := fun N A q W i _ _ hne => absurd rfl hne;exact { flow := h0 _ _, param := h0 _ _, block := h0 _ _, stmts := h0 _ _, stmt := h0 _ _, choice := h0 _ _, expr := h0 _ _, and := h0 _ _, not := h0 _ _, cmp := h0 _ _, sum := h0 _ _, term := h0 _ _, pre := h0 _ _, post := h0 _ _, prim := h0 _ _, two := h0 _ _, set4 := h1 _ _ _, set5 := h1 _ _ _, btwB := h1 _ _ _, btwP := h1 _ _ _, btwT := h1 _ _ _, btwS := h1 _ _ _, listP := h1 _ _ _, listE := h1 _ _ _, listS := h1 _ _ _, row := fun N q ms W i g _ _ _ _ _ _ hne => absurd rfl hne }
theorem do_all : ∀ f f', f' ≤ f → DoAll R a cap n ks f'
 | 0, f', h => by rw [Nat.le_zero.1 h]; exact do_zero
 | f + 1, f', h => by
   rcases Nat.lt_or_ge f f' with hf | hf
   · rw [show f' = f + 1 by omega]
     exact do_next hR hk (do_all f)
   · exact do_all f f' hf
end
end Go.Proofs.YtjiemkidmlgbeaaGreatDoor
namespace Go.Proofs.YtjiemkidmlgbeaaGreatDoor
open Go.RowKit Go.Shelf Tok
def FitK (ks : List Tk) : Prop := ks.length ≤ 1000000 ∧ ∀ x ∈ ks, x.text.length ≤ 4095 ∧ x.num ≤ 9223372036854775807
def FitC (c : Ch) : Prop := ∀ x ∈ c.ts, FitT x
theorem opOfT_lt (m : List UInt8) : opOfT m < 256 := by
 have h : ∀ l : List (List UInt8 × Nat), (∀ x ∈ l, x.2 < 256) → opGo l m < 256 := by
   intro l
   induction l with
   | nil => intro _; exact Nat.succ_pos _
   | cons x r ih =>
     intro h;unfold opGo;split
     · exact h x List.mem_cons_self
     · exact ih (fun y hy => h y (List.mem_cons_of_mem _ hy))
 exact h makesL (by decide)
theorem FitC.none : FitC Ch.none := fun x hx => by cases hx
theorem FitC.then {c d : Ch} (h : FitC c) (h' : FitC d) : FitC (c.then d) := fun x hx => by
 rcases List.mem_append.1 hx with hx | hx
 · exact h x hx
 · exact h' x hx
theorem FitC.under {c : Ch} (h : FitC c) (hn : c.n ≤ 3000000) {op num : Nat} {text : List UInt8} (ho : op < 256) (hm : num ≤ 9223372036854775807) (ht : text.length ≤ 4095) : FitC (c.under op num text) := by
 intro x hx;rcases List.mem_cons.1 hx with rfl | hx
 · refine ⟨by dsimp only; omega, ?_, ?_, ho⟩
   · unfold I64; dsimp only; omega
   · unfold I64; dsimp only; omega
 · exact h x hx
theorem own_fit {ks : List Tk} (hk : FitK ks) {i j : Nat} {nm : List UInt8} (h : ownT ks i = .ok nm j) : nm.length ≤ 4095 := by
 unfold ownT at h;split at h
 · rename_i x hx
   split at h
   · cases h
     exact (hk.2 x (List.mem_of_getElem? hx)).1
   · cases h
 · cases h
def NT.fits : NT → Prop
 | .stmtsGo a | .listGo _ _ a => FitC a
 | .rowGo _ _ a | .postGo a => FitC a ∧ a.n ≤ 1000000
 | .set op => op < 256
 | _ => True
section
variable {ks : List Tk} (hk : FitK ks)
include hk
theorem few_of {f i j : Nat} {q : NT} {c : Ch} (hw : q.wf) (hh : q.had = 0) (h : gP ks f q i = .ok c j) : c.n ≤ 1000000 := gP_few hk.1 hw hh h
theorem gP_fit : ∀ f q i c j, q.wf → q.fits → gP ks f q i = .ok c j → FitC c
 | 0, q, i, c, j, _, _, h => by cases h
 | f + 1, q, i, c, j, hw, hb, h => by
   have ih := gP_fit f;have few : ∀ {i j : Nat} {q : NT} {c : Ch}, q.wf → q.had = 0 → gP ks f q i = .ok c j → c.n ≤ 1000000 := fun hw hh h => few_of hk hw hh h
   have hM : ∀ m c j, gM ks (gP ks f) m i = .ok c j → FitC c := by
     intro m c j h;unfold gM at h;split at h
     · obtain ⟨a, k, h1, h2⟩ := st_ok h
       obtain ⟨rfl, rfl⟩ := ok_eq h2;have hw : (NT.list B.lsq .expr B.rsq).wf := ⟨by decide, by decide, .inr rfl⟩;exact (ih _ _ _ _ hw trivial h1).under (by have := few hw rfl h1; omega) (by decide) (by decide) (by decide)
     split at h
     · exact ih (.between B.opn .expr B.cls) _ _ _ ⟨by decide, by decide, .inr (.inl rfl)⟩ trivial h
     split at h
     · obtain ⟨a, k, h1, h2⟩ := st_ok h
       obtain ⟨rfl, rfl⟩ := ok_eq h2;exact FitC.none.under (by decide) (opOfT_lt _) (by decide) (by decide)
     split at h
     · obtain ⟨_, k, _, h⟩ := st_ok h
       obtain ⟨a, k, h1, h2⟩ := st_ok h;obtain ⟨rfl, rfl⟩ := ok_eq h2;have hw : (NT.between B.opn .expr B.cls).wf := ⟨by decide, by decide, .inr (.inl rfl)⟩;exact (ih _ _ _ _ hw trivial h1).under (by have := few hw rfl h1; omega) (opOfT_lt _) (by decide) (by decide)
     split at h
     · obtain ⟨_, k, _, h⟩ := st_ok h
       obtain ⟨a, k, h1, h2⟩ := st_ok h;obtain ⟨rfl, rfl⟩ := ok_eq h2;have hw : (NT.between B.opn .two B.cls).wf := ⟨by decide, by decide, .inr (.inr rfl)⟩;exact (ih _ _ _ _ hw trivial h1).under (by have := few hw rfl h1; omega) (by decide) (by decide) (by decide)
     split at h
     · obtain ⟨_, k, _, h⟩ := st_ok h
       obtain ⟨nm, k, h0, h⟩ := st_ok h;obtain ⟨a, k, h1, h2⟩ := st_ok h;obtain ⟨rfl, rfl⟩ := ok_eq h2;have hw : (NT.list B.opn .expr B.cls).wf := ⟨by decide, by decide, .inr rfl⟩;exact (ih _ _ _ _ hw trivial h1).under (by have := few hw rfl h1; omega) (opOfT_lt _) (by decide) (own_fit hk h0)
     split at h
     · obtain ⟨_, k, _, h⟩ := st_ok h
       obtain ⟨a, k, h1, h2⟩ := st_ok h;obtain ⟨rfl, rfl⟩ := ok_eq h2;exact (ih .block _ _ _ trivial trivial h1).under (by have := few (q := .block) trivial rfl h1; omega) (by decide) (by decide) (by decide)
     split at h
     · obtain ⟨_, k, _, h⟩ := st_ok h
       obtain ⟨nm, k, h0, h2⟩ := st_ok h;obtain ⟨rfl, rfl⟩ := ok_eq h2;exact FitC.none.under (by decide) (by decide) (by decide) (own_fit hk h0)
     · obtain ⟨nm, k, h0, h2⟩ := st_ok h
       obtain ⟨rfl, rfl⟩ := ok_eq h2;exact FitC.none.under (by decide) (by decide) (by decide) (own_fit hk h0)
   cases q with
   | flow =>
     obtain ⟨_, k, _, h⟩ := st_ok h;obtain ⟨nm, k, h0, h⟩ := st_ok h;obtain ⟨ps, k, h1, h⟩ := st_ok h;obtain ⟨b, k, h2, h⟩ := st_ok h;obtain ⟨rfl, rfl⟩ := ok_eq h;have hw1 : (NT.list B.opn .param B.cls).wf := ⟨by decide, by decide, .inl rfl⟩;exact ((ih _ _ _ _ hw1 trivial h1).then (ih .block _ _ _ trivial trivial h2)).under (by have := few hw1 rfl h1; have := few (q := .block) trivial rfl h2; simp only [Ch.then]; omega) (by decide) (by decide) (own_fit hk h0)
   | param =>
     obtain ⟨nm, k, h0, h⟩ := st_ok h;obtain ⟨rfl, rfl⟩ := ok_eq h;exact FitC.none.under (by decide) (by decide) (by decide) (own_fit hk h0)
   | block =>
     obtain ⟨a, k, h1, h⟩ := st_ok h;obtain ⟨rfl, rfl⟩ := ok_eq h;have hw1 : (NT.between B.lbr .stmts B.rbr).wf := ⟨by decide, by decide, .inl rfl⟩;exact (ih _ _ _ _ hw1 trivial h1).under (by have := few hw1 rfl h1; omega) (by decide) (by decide) (by decide)
   | stmts => exact ih (.stmtsGo Ch.none) _ _ _ trivial FitC.none h
   | stmtsGo a =>
     have ha : FitC a := hb;unfold gP at h;dsimp only at h;split at h
     · obtain ⟨rfl, rfl⟩ := ok_eq h; exact ha
     · obtain ⟨x, k, h1, h⟩ := st_ok h
       exact ih (.stmtsGo (a.then x)) _ _ _ trivial (ha.then (ih .stmt _ _ _ trivial trivial h1)) h
   | stmt =>
     unfold gP at h;dsimp only at h;split at h
     · obtain ⟨_, k, _, h⟩ := st_ok h
       exact ih (.set 4) _ _ _ trivial (show 4 < 256 by decide) h
     split at h
     · exact ih .choice _ _ _ trivial trivial h
     split at h
     · obtain ⟨_, k, _, h⟩ := st_ok h
       obtain ⟨x, k, h1, h⟩ := st_ok h;obtain ⟨b, k, h2, h⟩ := st_ok h;obtain ⟨rfl, rfl⟩ := ok_eq h;exact ((ih .expr _ _ _ trivial trivial h1).then (ih .block _ _ _ trivial trivial h2)).under (by have := few (q := .expr) trivial rfl h1; have := few (q := .block) trivial rfl h2; simp only [Ch.then]; omega) (by decide) (by decide) (by decide)
     split at h
     · obtain ⟨_, k, _, h⟩ := st_ok h
       obtain ⟨x, k, h1, h⟩ := st_ok h;obtain ⟨rfl, rfl⟩ := ok_eq h;exact (ih .expr _ _ _ trivial trivial h1).under (by have := few (q := .expr) trivial rfl h1; omega) (opOfT_lt _) (by decide) (by decide)
     · exact ih (.set 5) _ _ _ trivial (show 5 < 256 by decide) h
   | choice =>
     obtain ⟨_, k, _, h⟩ := st_ok h;obtain ⟨x, k, h1, h⟩ := st_ok h;obtain ⟨b, k, h2, h⟩ := st_ok h;have hx := ih .expr _ _ _ trivial trivial h1;have hbb := ih .block _ _ _ trivial trivial h2;have n1 := few (q := .expr) trivial rfl h1;have n2 := few (q := .block) trivial rfl h2;split at h
     · obtain ⟨_, k, _, h⟩ := st_ok h
       obtain ⟨d, k, h3, h⟩ := st_ok h;obtain ⟨rfl, rfl⟩ := ok_eq h;have n3 := few (q := .block) trivial rfl h3;exact ((hx.then hbb).then (ih .block _ _ _ trivial trivial h3)).under (by simp only [Ch.then]; omega) (by decide) (by decide) (by decide)
     · obtain ⟨rfl, rfl⟩ := ok_eq h
       exact (hx.then hbb).under (by simp only [Ch.then]; omega) (by decide) (by decide) (by decide)
   | expr => exact ih (.row .and [B.or]) _ _ _ ⟨.inr (.inr (.inr rfl)), by decide⟩ trivial h
   | and => exact ih (.row .not [B.and]) _ _ _ ⟨.inr (.inr (.inl rfl)), by decide⟩ trivial h
   | not =>
     unfold gP at h;dsimp only at h;split at h
     · obtain ⟨_, k, _, h⟩ := st_ok h
       obtain ⟨x, k, h1, h⟩ := st_ok h;obtain ⟨rfl, rfl⟩ := ok_eq h;exact (ih .not _ _ _ trivial trivial h1).under (by have := few (q := .not) trivial rfl h1; omega) (by decide) (by decide) (by decide)
     · exact ih .cmp _ _ _ trivial trivial h
   | cmp =>
     obtain ⟨x, k, h1, h⟩ := st_ok h;have hx := ih .sum _ _ _ trivial trivial h1;split at h
     · obtain ⟨_, l, _, h⟩ := st_ok h
       obtain ⟨y, l, h2, h⟩ := st_ok h;obtain ⟨rfl, rfl⟩ := ok_eq h;exact (hx.then (ih .sum _ _ _ trivial trivial h2)).under (by have := few (q := .sum) trivial rfl h1; have := few (q := .sum) trivial rfl h2; simp only [Ch.then]; omega) (opOfT_lt _) (by decide) (by decide)
     · obtain ⟨rfl, rfl⟩ := ok_eq h; exact hx
   | sum => exact ih (.row .term addS) _ _ _ ⟨.inr (.inl rfl), by decide⟩ trivial h
   | term => exact ih (.row .pre mulS) _ _ _ ⟨.inl rfl, by decide⟩ trivial h
   | pre =>
     unfold gP at h;dsimp only at h;split at h
     · obtain ⟨_, k, _, h⟩ := st_ok h
       obtain ⟨x, k, h1, h⟩ := st_ok h;obtain ⟨rfl, rfl⟩ := ok_eq h;exact (ih .pre _ _ _ trivial trivial h1).under (by have := few (q := .pre) trivial rfl h1; omega) (by decide) (by decide) (by decide)
     split at h
     · obtain ⟨_, k, _, h⟩ := st_ok h
       obtain ⟨x, k, h1, h⟩ := st_ok h;obtain ⟨rfl, rfl⟩ := ok_eq h;exact (ih .pre _ _ _ trivial trivial h1).under (by have := few (q := .pre) trivial rfl h1; omega) (opOfT_lt _) (by decide) (by decide)
     · exact ih .post _ _ _ trivial trivial h
   | post =>
     obtain ⟨x, k, h1, h⟩ := st_ok h;exact ih (.postGo x) _ _ _ trivial ⟨ih .prim _ _ _ trivial trivial h1, few (q := .prim) trivial rfl h1⟩ h
   | postGo a =>
     obtain ⟨ha, hn⟩ := hb;unfold gP at h;dsimp only at h;split at h
     · obtain ⟨x, k, h1, h⟩ := st_ok h
       have hw1 : (NT.between B.lsq .expr B.rsq).wf := ⟨by decide, by decide, .inr (.inl rfl)⟩;exact ih (.postGo ((a.then x).under 42 0 [])) _ _ _ trivial ⟨(ha.then (ih _ _ _ _ hw1 trivial h1)).under (by have := few hw1 rfl h1; simp only [Ch.then]; omega) (by decide) (by decide) (by decide), by show 1 ≤ 1000000; omega⟩ h
     · obtain ⟨rfl, rfl⟩ := ok_eq h; exact ha
   | prim =>
     unfold gP at h;dsimp only at h;split at h
     · rename_i x hx
       have hf := hk.2 x (List.mem_of_getElem? hx);split at h
       · obtain ⟨rfl, rfl⟩ := ok_eq h
         exact FitC.none.under (by decide) (by decide) hf.2 (by decide)
       split at h
       · obtain ⟨rfl, rfl⟩ := ok_eq h
         exact FitC.none.under (by decide) (by decide) (by decide) hf.1
       · exact hM _ _ _ h
     · exact hM _ _ _ h
   | two =>
     obtain ⟨x, k, h1, h⟩ := st_ok h;obtain ⟨_, k, _, h⟩ := st_ok h;obtain ⟨y, k, h2, h⟩ := st_ok h;obtain ⟨rfl, rfl⟩ := ok_eq h;exact (ih .expr _ _ _ trivial trivial h1).then (ih .expr _ _ _ trivial trivial h2)
   | set op =>
     obtain ⟨nm, k, h0, h⟩ := st_ok h;obtain ⟨_, k, _, h⟩ := st_ok h;obtain ⟨x, k, h1, h⟩ := st_ok h;obtain ⟨rfl, rfl⟩ := ok_eq h;exact (ih .expr _ _ _ trivial trivial h1).under (by have := few (q := .expr) trivial rfl h1; omega) hb (by decide) (own_fit hk h0)
   | list o p e =>
     obtain ⟨ho, he, hp⟩ := hw;obtain ⟨_, k, _, h⟩ := st_ok h;split at h
     · obtain ⟨_, k, _, h⟩ := st_ok h
       obtain ⟨rfl, rfl⟩ := ok_eq h;exact FitC.none
     · obtain ⟨x, k, h1, h⟩ := st_ok h
       have hpw : p.wf ∧ p.had = 0 ∧ p.fits := by rcases hp with rfl | rfl <;> exact ⟨trivial, rfl, trivial⟩
       exact ih (.listGo p e x) _ _ _ ⟨he, hp⟩ (ih p _ _ _ hpw.1 hpw.2.2 h1) h
   | listGo p e a =>
     obtain ⟨he, hp⟩ := hw;have ha : FitC a := hb;unfold gP at h;dsimp only at h;split at h
     · obtain ⟨_, k, _, h⟩ := st_ok h
       obtain ⟨x, k, h1, h⟩ := st_ok h;have hpw : p.wf ∧ p.had = 0 ∧ p.fits := by rcases hp with rfl | rfl <;> exact ⟨trivial, rfl, trivial⟩
       exact ih (.listGo p e (a.then x)) _ _ _ ⟨he, hp⟩ (ha.then (ih p _ _ _ hpw.1 hpw.2.2 h1)) h
     · obtain ⟨_, k, _, h⟩ := st_ok h
       obtain ⟨rfl, rfl⟩ := ok_eq h;exact ha
   | between o p e =>
     obtain ⟨ho, he, hp⟩ := hw;obtain ⟨_, k, _, h⟩ := st_ok h;obtain ⟨x, k, h1, h⟩ := st_ok h;obtain ⟨_, k, _, h⟩ := st_ok h;obtain ⟨rfl, rfl⟩ := ok_eq h;rcases hp with rfl | rfl | rfl
     · exact ih .stmts _ _ _ trivial trivial h1
     · exact ih .expr _ _ _ trivial trivial h1
     · exact ih .two _ _ _ trivial trivial h1
   | row p ms =>
     obtain ⟨x, k, h1, h⟩ := st_ok h;have hpw : p.wf ∧ p.had = 0 ∧ p.fits := by rcases hw.1 with rfl | rfl | rfl | rfl <;> exact ⟨trivial, rfl, trivial⟩
     exact ih (.rowGo p ms x) _ _ _ hw ⟨ih p _ _ _ hpw.1 hpw.2.2 h1, few hpw.1 hpw.2.1 h1⟩ h
   | rowGo p ms a =>
     obtain ⟨ha, hn⟩ := hb;have hpw : p.wf ∧ p.had = 0 ∧ p.fits := by rcases hw.1 with rfl | rfl | rfl | rfl <;> exact ⟨trivial, rfl, trivial⟩
     unfold gP at h;dsimp only at h;split at h
     · obtain ⟨_, k, _, h⟩ := st_ok h
       obtain ⟨x, k, h1, h⟩ := st_ok h;exact ih (.rowGo p ms ((a.then x).under (opOfT (markT ks i)) 0 [])) _ _ _ hw ⟨(ha.then (ih p _ _ _ hpw.1 hpw.2.2 h1)).under (by have := few hpw.1 hpw.2.1 h1; simp only [Ch.then]; omega) (opOfT_lt _) (by decide) (by decide), by show 1 ≤ 1000000; omega⟩ h
     · obtain ⟨rfl, rfl⟩ := ok_eq h; exact ha
end
end Go.Proofs.YtjiemkidmlgbeaaGreatDoor
