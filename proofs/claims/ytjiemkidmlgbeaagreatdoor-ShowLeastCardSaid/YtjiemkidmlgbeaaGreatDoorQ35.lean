/- A part of the proof: ShL, ShM. No condition. -/
import Derived.Test.YtjiemkidmlgbeaaGreatDoorQ33
set_option linter.unusedVariables false
set_option linter.unusedSimpArgs false
namespace Go.Proofs.YtjiemkidmlgbeaaGreatDoor
open Go.RowKit Tok
def oB (m : List UInt8) : Nat := if m = B.opn then 1 else 0
def oc : List Tg → Nat
 | [] => 0
 | t :: r => oB (mkG t) + oc r
theorem oc_app : ∀ a b : List Tg, oc (a ++ b) = oc a + oc b
 | [], b => by show oc b = 0 + oc b; omega
 | t :: r, b => by
   show oB (mkG t) + oc (r ++ b) = oB (mkG t) + oc r + oc b
   rw [oc_app r b];omega
def bn (x : Tw) (k : Fs) : Nat := oc (bareS x k)
def an (a : Nat) (x : Tw) (k : Fs) : Nat := bn x k + if widthN x.op < a then 1 else 0
theorem oc_at (a : Nat) (x : Tw) (k : Fs) : oc (atS a x k) = an a x k := by
 unfold an bn;rcases Nat.lt_or_ge (widthN x.op) a with h | h
 · rw [atS_narrow h, if_pos h]
   show oB (mkG (signTg B.opn)) + oc (bareS x k ++ [signTg B.cls]) = _
   rw [oc_app];have e1 : oB (mkG (signTg B.opn)) = 1 := rfl;have e2 : oc [signTg B.cls] = 0 := rfl;omega
 · rw [atS_wide h, if_neg (by omega)]
   rfl
theorem an_mono {a b : Nat} (h : a ≤ b) (x : Tw) (k : Fs) : an a x k ≤ an b x k := by
 unfold an;split <;> split <;> omega
theorem an_wide {a : Nat} {x : Tw} (h : a ≤ widthN x.op) (k : Fs) : an a x k = bn x k := by
 unfold an;rw [if_neg (by omega)];rfl
theorem an_one (x : Tw) (k : Fs) : an 1 x k = bn x k := an_wide (width_pos _).1 k
theorem an_le (a : Nat) (x : Tw) (k : Fs) : an a x k ≤ bn x k + 1 := by
 unfold an;split <;> omega
def sumB : Fs → Nat
 | .nil => 0
 | .cons x k r => bn x k + sumB r
theorem oc_comma (p : Nat) : oc (comma p).1 = 0 := by
 unfold comma;dsimp only;split <;> rfl
theorem oc_commas : ∀ (F : Fs) (p : Nat), oc (commaS p F) = sumB F
 | .nil, _ => rfl
 | .cons x k r, p => by
   show oc ((comma p).1 ++ bareS x k ++ commaS (p + 1) r) = bn x k + sumB r
   rw [oc_app, oc_app, oc_commas r, oc_comma];unfold bn;omega
theorem oc_rows : ∀ (F : Fs), oc (rowS F) = sumB F
 | .nil => rfl
 | .cons x k r => by
   show oc (bareS x k ++ rowS r) = bn x k + sumB r
   rw [oc_app, oc_rows r];rfl
theorem oc_params : ∀ (F : Fs) (p : Nat), oc (paramS p F) = sumB F
 | .nil, _ => rfl
 | .cons b kb .nil, _ => by
   show oB (mkG (signTg B.cls)) + oc (bareS b kb) = bn b kb + 0
   have e1 : oB (mkG (signTg B.cls)) = 0 := rfl;unfold bn;omega
 | .cons x k (.cons y k' r), p => by
   show oc ((comma p).1 ++ bareS x k ++ paramS (p + 1) (.cons y k' r)) = bn x k + sumB (.cons y k' r)
   rw [oc_app, oc_app, oc_params (.cons y k' r), oc_comma];unfold bn;omega
def Fs.app : Fs → Fs → Fs
 | .nil, G => G
 | .cons x k r, G => .cons x k (r.app G)
theorem app_flat : ∀ F G : Fs, (F.app G).flat = F.flat ++ G.flat
 | .nil, _ => rfl
 | .cons x k r, G => by
   show x :: (k.flat ++ (r.app G).flat) = (x :: (k.flat ++ r.flat)) ++ G.flat
   rw [app_flat r G];simp
theorem app_count : ∀ F G : Fs, (F.app G).count = F.count + G.count
 | .nil, G => by show G.count = 0 + G.count; omega
 | .cons x k r, G => by
   show (r.app G).count + 1 = r.count + 1 + G.count
   rw [app_count r G];omega
theorem app_sum : ∀ F G : Fs, sumB (F.app G) = sumB F + sumB G
 | .nil, G => by show sumB G = 0 + sumB G; omega
 | .cons x k r, G => by
   show bn x k + sumB (r.app G) = bn x k + sumB r + sumB G
   rw [app_sum r G];omega
theorem app_assoc : ∀ F G H : Fs, (F.app G).app H = F.app (G.app H)
 | .nil, _, _ => rfl
 | .cons x k r, G, H => by
   show Fs.cons x k ((r.app G).app H) = Fs.cons x k (r.app (G.app H))
   rw [app_assoc]
theorem app_nil : ∀ F : Fs, F.app .nil = F
 | .nil => rfl
 | .cons x k r => by
   show Fs.cons x k (r.app .nil) = _
   rw [app_nil]
def Fs.cnt : Fs → Prop
 | .nil => True
 | .cons x k r => x.kids = (k.count : Int) ∧ k.cnt ∧ r.cnt
theorem app_cnt : ∀ {F G : Fs}, F.cnt → G.cnt → (F.app G).cnt
 | .nil, _, _, h => h
 | .cons _ _ _, _, ⟨a, b, c⟩, h => ⟨a, b, app_cnt c h⟩
theorem cnt_one : ∀ (F G : Fs) (a b : List Tw), F.cnt → G.cnt → F.count = G.count → F.flat ++ a = G.flat ++ b → F = G ∧ a = b
 | .nil, .nil, _, _, _, _, _, h => ⟨rfl, h⟩
 | .nil, .cons x k r, _, _, _, _, h, _ => absurd h (by show 0 ≠ r.count + 1; omega)
 | .cons x k r, .nil, _, _, _, _, h, _ => absurd h (by show r.count + 1 ≠ 0; omega)
 | .cons x k r, .cons y l s, a, b, ⟨f1, f2, f3⟩, ⟨g1, g2, g3⟩, hc, h => by
   have h' : x :: (k.flat ++ (r.flat ++ a)) = y :: (l.flat ++ (s.flat ++ b)) := by
     have e1 : (Fs.cons x k r).flat ++ a = x :: (k.flat ++ (r.flat ++ a)) := by
       show x :: (k.flat ++ r.flat) ++ a = _
       simp
     have e2 : (Fs.cons y l s).flat ++ b = y :: (l.flat ++ (s.flat ++ b)) := by
       show y :: (l.flat ++ s.flat) ++ b = _
       simp
     rw [← e1, ← e2];exact h
   injection h' with hx ht;subst hx;have hk : k.count = l.count := by omega
   obtain ⟨rfl, h2⟩ := cnt_one k l _ _ f2 g2 hk ht;have hr : r.count = s.count := by
     have e1 : (Fs.cons x k r).count = r.count + 1 := rfl;have e2 : (Fs.cons x k s).count = s.count + 1 := rfl;omega
   obtain ⟨rfl, h3⟩ := cnt_one r s a b f3 g3 hr h2;exact ⟨rfl, h3⟩
theorem ok_cnt : ∀ {F : Fs}, F.ok → F.cnt
 | .nil, _ => trivial
 | .cons _ _ _, ⟨_, b, c, d⟩ => ⟨b, ok_cnt c, ok_cnt d⟩
def Is (c : Ch) (F : Fs) : Prop := c.ts = F.flat ∧ c.n = F.count ∧ F.cnt
theorem Is.none : Is Ch.none .nil := ⟨rfl, rfl, trivial⟩
theorem Is.then {c d : Ch} {F G : Fs} (h : Is c F) (g : Is d G) : Is (c.then d) (F.app G) := by
 refine ⟨?_, ?_, app_cnt h.2.2 g.2.2⟩
 · show c.ts ++ d.ts = _
   rw [h.1, g.1, app_flat]
 · show c.n + d.n = _
   rw [h.2.1, g.2.1, app_count]
theorem Is.under {c : Ch} {F : Fs} (h : Is c F) (op num : Nat) (s : List UInt8) : Is (c.under op num s) (.cons ⟨op, (F.count : Int), (num : Int), s⟩ F .nil) := by
 refine ⟨?_, rfl, rfl, h.2.2, trivial⟩;show (⟨op, (c.n : Int), (num : Int), s⟩ : Tw) :: c.ts = _ :: (F.flat ++ [])
 rw [h.1, h.2.1, List.append_nil]
section
variable {ks : List Tk}
def pc (ks : List Tk) : Nat → Nat
 | 0 => 0
 | j + 1 => pc ks j + oB (markT ks j)
theorem want_pc {m : List UInt8} {i j : Nat} {u : Unit} (h : wantT ks m i = .ok u j) : j = i + 1 ∧ pc ks j = pc ks i + oB m := by
 unfold wantT at h;split at h
 · rename_i hm
   cases h
   refine ⟨rfl, ?_⟩;show pc ks i + oB (markT ks i) = _
   rw [hm]
 · cases h
theorem own_pc {i j : Nat} {s : List UInt8} (h : ownT ks i = .ok s j) : pc ks j = pc ks i + oB s := by
 unfold ownT at h;split at h
 · rename_i x hx
   split at h
   · rename_i hk
     cases h
     show pc ks i + oB (markT ks i) = _
     unfold markT;rw [hx];dsimp only;rw [if_pos (.inl hk.1)]
   · cases h
 · cases h
theorem and_of {α β : Type} {s : St α} {f : α → Nat → St β} {c : β} {j : Nat} (h : s.and f = .ok c j) : ∃ a k, s = .ok a k ∧ f a k = .ok c j := by
 cases s with
 | ok a k => exact ⟨a, k, rfl, h⟩
 | bad k => cases h
 | out => cases h
def wOf (q : NT) : Nat := match q with
 | .and => 2 | .not => 3 | .cmp => 4 | .sum => 5 | .term => 6 | .pre => 7 | .post => 8 | .prim => 9 | _ => 1
def RowOK (p : NT) (ms : List (List UInt8)) : Prop := (p = .and ∧ ms = [B.or]) ∨ (p = .not ∧ ms = [B.and]) ∨ (p = .term ∧ ms = addS) ∨ (p = .pre ∧ ms = mulS)
def NT.wg : NT → Prop
 | .row p ms | .rowGo p ms _ => RowOK p ms
 | .list _ p _ | .listGo p _ _ => p = .param ∨ p = .expr
 | .between _ p _ => p = .stmts ∨ p = .expr ∨ p = .two
 | .set op => op = 4 ∨ op = 5
 | _ => True
def One (ks : List Tk) (a : Nat) (c : Ch) (i j : Nat) : Prop := ∃ x k, Is c (.cons x k .nil) ∧ pc ks i + an a x k ≤ pc ks j
def Res (ks : List Tk) : NT → Nat → Ch → Nat → Prop
 | .two, i, c, j => ∃ x k y l, Is c (.cons x k (.cons y l .nil)) ∧ pc ks i + (bn x k + bn y l) ≤ pc ks j
 | .stmts, i, c, j => ∃ F, Is c F ∧ pc ks i + sumB F ≤ pc ks j
 | .list o _ _, i, c, j => ∃ F, Is c F ∧ pc ks i + (oB o + sumB F) ≤ pc ks j
 | .between o p _, i, c, j => match p with
   | .stmts => ∃ F, Is c F ∧ pc ks i + (oB o + sumB F) ≤ pc ks j
   | .two => ∃ x k y l, Is c (.cons x k (.cons y l .nil)) ∧ pc ks i + (oB o + (bn x k + bn y l)) ≤ pc ks j
   | _ => ∃ x k, Is c (.cons x k .nil) ∧ pc ks i + (oB o + bn x k) ≤ pc ks j
 | .stmtsGo a, i, c, j => ∀ A, Is a A → ∃ F, Is c (A.app F) ∧ pc ks i + sumB F ≤ pc ks j
 | .listGo _ _ a, i, c, j => ∀ A, Is a A → ∃ F, Is c (A.app F) ∧ pc ks i + sumB F ≤ pc ks j
 | .rowGo p _ a, i, c, j => ∀ x k, Is a (.cons x k .nil) → ∃ y l, Is c (.cons y l .nil) ∧ pc ks i + an (wOf p - 1) y l ≤ pc ks j + an (wOf p - 1) x k
 | .postGo a, i, c, j => ∀ x k, Is a (.cons x k .nil) → ∃ y l, Is c (.cons y l .nil) ∧ pc ks i + an 8 y l ≤ pc ks j + an 8 x k
 | .row p _, i, c, j => One ks (wOf p - 1) c i j
 | q, i, c, j => One ks (wOf q) c i j
theorem oB_0 {m : List UInt8} (h : m ≠ B.opn) : oB m = 0 := if_neg h
end
end Go.Proofs.YtjiemkidmlgbeaaGreatDoor
namespace Go.Proofs.YtjiemkidmlgbeaaGreatDoor
open Go.RowKit Tok
section
variable {a b c : Tw} {ka kb kc F : Fs} {op : Nat} {s : List UInt8}
theorem oc_cons (t : Tg) (r : List Tg) : oc (t :: r) = oB (mkG t) + oc r := rfl
theorem oc_word (s : List UInt8) (r : List Tg) : oc (wordTg s :: r) = oB s + oc r := rfl
theorem oc_sign (s : List UInt8) (r : List Tg) : oc (signTg s :: r) = oB s + oc r := rfl
theorem oc_mark (op : Nat) : oc (markTg op) = 0 := by
 have h : ∀ L : List (Nat × Nat × List UInt8), (∀ m ∈ L, oB (mkG ⟨m.2.1, m.2.2, 0, 0⟩) = 0) → oc (markGo op L) = 0 := by
   intro L
   induction L with
   | nil => intro _; rfl
   | cons m r ih =>
     intro hm;have h1 := hm m List.mem_cons_self;have h2 := ih fun x hx => hm x (List.mem_cons_of_mem _ hx)
     unfold markGo;split
     · rw [oc_cons, h1, h2]
     · exact h2
 exact h marksL (by decide)
theorem nb_bare (ho : op = 20 ∨ op = 21 ∨ op = 22 ∨ op = 57) : bn ⟨op, 0, 0, []⟩ .nil = 0 := by unfold bn; rw [bare_bare ho, oc_mark]
theorem nb_int (n : Nat) : bn ⟨23, 0, (n : Int), []⟩ .nil = 0 := rfl
theorem nb_text : bn ⟨24, 0, 0, s⟩ .nil = 0 := rfl
theorem nb_name : bn ⟨26, 0, 0, s⟩ .nil = oB s := rfl
theorem nb_param : bn ⟨2, 0, 0, s⟩ .nil = oB s := rfl
theorem nb_take : bn ⟨56, 0, 0, s⟩ .nil = oB s := by unfold bn; rw [bare_take, oc_word, oc_word, oB_0 (by decide)]; show 0 + (oB s + 0) = _; omega
theorem nb_list {n : Int} : bn ⟨25, n, 0, []⟩ F = sumB F := by unfold bn; rw [bare_list, oc_sign, oc_app, oc_commas]; show 0 + (sumB F + 0) = _; omega
theorem nb_call (ho : op = 50 ∨ op = 51) {n : Int} : bn ⟨op, n, 0, s⟩ F = oB s + (1 + sumB F) := by
 unfold bn;rw [bare_call ho, oc_app, oc_mark, oc_word, oc_sign, oc_app, oc_commas];show 0 + (oB s + (1 + (sumB F + 0))) = _
 omega
theorem nb_asks (ho : asksW op) : bn ⟨op, 1, 0, []⟩ (.cons a ka .nil) = 1 + bn a ka := by
 unfold bn;rw [bare_asks ho, oc_app, oc_mark, oc_sign, oc_app];show 0 + (1 + (oc (bareS a ka) + 0)) = _
 omega
theorem nb_num : bn ⟨41, 2, 0, []⟩ (.cons a ka (.cons b kb .nil)) = 1 + (bn a ka + bn b kb) := by
 unfold bn;rw [bare_num, oc_word, oc_sign, oc_app, oc_sign, oc_app];show 0 + (1 + (oc (bareS a ka) + (0 + (oc (bareS b kb) + 0)))) = _
 omega
theorem nb_fork : bn ⟨53, 1, 0, []⟩ (.cons b kb .nil) = bn b kb := by
 unfold bn;rw [bare_fork, oc_word];show 0 + _ = _
 omega
theorem nb_at : bn ⟨42, 2, 0, []⟩ (.cons a ka (.cons b kb .nil)) = an 8 a ka + bn b kb := by
 unfold bn;rw [bare_at, oc_app, oc_at, oc_sign, oc_app];show _ + (0 + (oc (bareS b kb) + 0)) = _
 omega
theorem nb_pre (ho : op = 43 ∨ op = 44 ∨ op = 54 ∨ op = 55) : bn ⟨op, 1, 0, []⟩ (.cons a ka .nil) = an (widthN op) a ka := by
 unfold bn;rw [bare_pre ho, oc_app, oc_mark, oc_at];omega
theorem nb_cmp (h1 : 32 ≤ op) (h2 : op ≤ 35) : bn ⟨op, 2, 0, []⟩ (.cons a ka (.cons b kb .nil)) = an 5 a ka + an 5 b kb := by
 unfold bn;rw [bare_cmp h1 h2, oc_app, oc_app, oc_mark, oc_at, oc_at];omega
theorem nb_left (ho : leftW op) : bn ⟨op, 2, 0, []⟩ (.cons a ka (.cons b kb .nil)) = an (widthN op) a ka + an (widthN op + 1) b kb := by
 unfold bn;rw [bare_left ho, oc_app, oc_app, oc_mark, oc_at, oc_at];omega
theorem nb_block {n : Int} : bn ⟨3, n, 0, []⟩ F = sumB F := by
 unfold bn;rw [bare_block, oc_sign, oc_app, oc_rows];show 0 + (sumB F + 0) = _
 omega
theorem nb_set (ho : op = 4 ∨ op = 5) : bn ⟨op, 1, 0, s⟩ (.cons a ka .nil) = oB s + bn a ka := by
 unfold bn;rcases ho with rfl | rfl
 · rw [bare_let, oc_app, oc_word, oc_word, oc_sign]
   show 0 + (oB s + (0 + 0)) + _ = _
   omega
 · rw [bare_set, oc_app, oc_word, oc_sign]
   show (oB s + (0 + 0)) + _ = _
   omega
theorem nb_stmt (h : 8 ≤ op ∧ op ≤ 11) : bn ⟨op, 1, 0, []⟩ (.cons a ka .nil) = bn a ka := by
 unfold bn;rw [bare_stmt h, oc_app, oc_mark];omega
theorem nb_cond2 (ho : op = 6 ∨ op = 7) : bn ⟨op, 2, 0, []⟩ (.cons a ka (.cons b kb .nil)) = bn a ka + bn b kb := by
 unfold bn;rw [bare_cond2 ho, oc_word, oc_app];have : oB (if op = 6 then B.ifW else B.whileW) = 0 := by rcases ho with rfl | rfl <;> rfl
 omega
theorem nb_cond3 : bn ⟨6, 3, 0, []⟩ (.cons a ka (.cons b kb (.cons c kc .nil))) = bn a ka + (bn b kb + bn c kc) := by
 unfold bn;rw [bare_cond3, oc_word, oc_app, oc_app, oc_word];show 0 + (_ + (_ + (0 + _))) = _
 omega
theorem nb_flow (h : 0 < F.count) : bn ⟨1, (F.count : Int), 0, s⟩ F = oB s + (1 + sumB F) := by
 unfold bn;rw [bare_flow h, oc_word, oc_word, oc_sign, oc_params];show 0 + (oB s + (1 + sumB F)) = _
 omega
end
section
variable {ks : List Tk}
theorem row_ops {p : NT} {ms : List (List UInt8)} (h : RowOK p ms) {m : List UInt8} (hm : m ∈ ms) : leftW (opOfT m) ∧ widthN (opOfT m) = wOf p - 1 ∧ oB m = 0 ∧ 2 ≤ wOf p := by
 have k1 : ∀ m ∈ [B.or], (opOfT m = 30 ∨ opOfT m = 31 ∨ (36 ≤ opOfT m ∧ opOfT m ≤ 40)) ∧ widthN (opOfT m) = 1 ∧ oB m = 0 := by decide
 have k2 : ∀ m ∈ [B.and], (opOfT m = 30 ∨ opOfT m = 31 ∨ (36 ≤ opOfT m ∧ opOfT m ≤ 40)) ∧ widthN (opOfT m) = 2 ∧ oB m = 0 := by decide
 have k3 : ∀ m ∈ addS, (opOfT m = 30 ∨ opOfT m = 31 ∨ (36 ≤ opOfT m ∧ opOfT m ≤ 40)) ∧ widthN (opOfT m) = 5 ∧ oB m = 0 := by decide
 have k4 : ∀ m ∈ mulS, (opOfT m = 30 ∨ opOfT m = 31 ∨ (36 ≤ opOfT m ∧ opOfT m ≤ 40)) ∧ widthN (opOfT m) = 6 ∧ oB m = 0 := by decide
 rcases h with ⟨rfl, rfl⟩ | ⟨rfl, rfl⟩ | ⟨rfl, rfl⟩ | ⟨rfl, rfl⟩
 · obtain ⟨a, b, c⟩ := k1 m hm; exact ⟨a, b, c, by decide⟩
 · obtain ⟨a, b, c⟩ := k2 m hm; exact ⟨a, b, c, by decide⟩
 · obtain ⟨a, b, c⟩ := k3 m hm; exact ⟨a, b, c, by decide⟩
 · obtain ⟨a, b, c⟩ := k4 m hm; exact ⟨a, b, c, by decide⟩
theorem row_part {p : NT} {ms : List (List UInt8)} (h : RowOK p ms) {i j : Nat} {c : Ch} (hr : Res ks p i c j) : One ks (wOf p) c i j := by
 rcases h with ⟨rfl, rfl⟩ | ⟨rfl, rfl⟩ | ⟨rfl, rfl⟩ | ⟨rfl, rfl⟩ <;> exact hr
theorem One.less {a b : Nat} {c : Ch} {i j : Nat} (h : One ks b c i j) (hab : a ≤ b) : One ks a c i j := by
 obtain ⟨x, k, h1, h2⟩ := h;exact ⟨x, k, h1, Nat.le_trans (Nat.add_le_add_left (an_mono hab x k) _) h2⟩
theorem One.bare {c : Ch} {i j : Nat} (h : One ks 1 c i j) : ∃ x k, Is c (.cons x k .nil) ∧ pc ks i + bn x k ≤ pc ks j := by
 obtain ⟨x, k, h1, h2⟩ := h;rw [an_one] at h2;exact ⟨x, k, h1, h2⟩
theorem one_of {a : Nat} {c : Ch} {i j : Nat} {x : Tw} {k : Fs} (h : Is c (.cons x k .nil)) (ha : a ≤ widthN x.op) (hb : pc ks i + bn x k ≤ pc ks j) : One ks a c i j := ⟨x, k, h, by rw [an_wide ha]; exact hb⟩
theorem gM_res {G : NT → Nat → St Ch} (hG : ∀ q i c j, q.wg → G q i = .ok c j → Res ks q i c j) {m : List UInt8} {i j : Nat} {c : Ch} (h : gM ks G m i = .ok c j) : One ks 9 c i j := by
 unfold gM at h;split at h
 · obtain ⟨d, k, h1, h2⟩ := and_of h
   cases h2
   obtain ⟨F, f1, f2⟩ := hG (.list B.lsq .expr B.rsq) _ _ _ (.inr rfl) h1;refine one_of (f1.under 25 0 []) (by show 9 ≤ widthN 25; decide) ?_;show pc ks i + bn ⟨25, (F.count : Int), 0, []⟩ F ≤ _
   rw [nb_list];have e : oB B.lsq = 0 := rfl;omega
 split at h
 · obtain ⟨x, k, f1, f2⟩ := hG (.between B.opn .expr B.cls) _ _ _ (.inr (.inl rfl)) h
   refine ⟨x, k, f1, ?_⟩;have := an_le 9 x k;have e : oB B.opn = 1 := rfl;omega
 split at h
 · rename_i hm
   obtain ⟨_, k, h1, h2⟩ := and_of h;cases h2
   obtain ⟨_, w2⟩ := want_pc h1;have ho : opOfT m = 20 ∨ opOfT m = 21 ∨ opOfT m = 22 ∨ opOfT m = 57 := by rcases hm with rfl | rfl | rfl | rfl <;> decide
   have hw : widthN (opOfT m) = 9 := by rcases ho with e | e | e | e <;> rw [e] <;> decide
   refine one_of (Is.none.under (opOfT m) 0 []) (by show 9 ≤ widthN (opOfT m); omega) ?_;show pc ks i + bn ⟨opOfT m, 0, 0, []⟩ .nil ≤ _
   rw [nb_bare ho];omega
 split at h
 · rename_i hm
   obtain ⟨_, k, h1, h⟩ := and_of h;obtain ⟨d, l, h3, h2⟩ := and_of h;cases h2
   obtain ⟨_, w2⟩ := want_pc h1;obtain ⟨x, kx, f1, f2⟩ := hG (.between B.opn .expr B.cls) _ _ _ (.inr (.inl rfl)) h3;have ho : asksW (opOfT m) := by unfold asksW; rcases hm with rfl | rfl | rfl | rfl | rfl <;> decide
   have hw : widthN (opOfT m) = 9 := by rcases hm with rfl | rfl | rfl | rfl | rfl <;> decide
   refine one_of (f1.under (opOfT m) 0 []) (by show 9 ≤ widthN (opOfT m); omega) ?_;show pc ks i + bn ⟨opOfT m, 1, 0, []⟩ (.cons x kx .nil) ≤ _
   rw [nb_asks ho];have e : oB B.opn = 1 := rfl;omega
 split at h
 · obtain ⟨_, k, h1, h⟩ := and_of h
   obtain ⟨d, l, h3, h2⟩ := and_of h;cases h2
   obtain ⟨_, w2⟩ := want_pc h1;obtain ⟨x, kx, y, ky, f1, f2⟩ := hG (.between B.opn .two B.cls) _ _ _ (.inr (.inr rfl)) h3;refine one_of (f1.under 41 0 []) (by show 9 ≤ widthN 41; decide) ?_;show pc ks i + bn ⟨41, 2, 0, []⟩ (.cons x kx (.cons y ky .nil)) ≤ _
   rw [nb_num];have e : oB B.opn = 1 := rfl;omega
 split at h
 · rename_i hm
   obtain ⟨_, k, h1, h⟩ := and_of h;obtain ⟨nm, k2, h4, h⟩ := and_of h;obtain ⟨d, l, h3, h2⟩ := and_of h;cases h2
   obtain ⟨_, w2⟩ := want_pc h1;have w4 := own_pc h4;obtain ⟨F, f1, f2⟩ := hG (.list B.opn .expr B.cls) _ _ _ (.inr rfl) h3;have ho : opOfT m = 50 ∨ opOfT m = 51 := by rcases hm with rfl | rfl <;> decide
   have hw : widthN (opOfT m) = 9 := by rcases ho with e | e <;> rw [e] <;> decide
   refine one_of (f1.under (opOfT m) 0 nm) (by show 9 ≤ widthN (opOfT m); omega) ?_;show pc ks i + bn ⟨opOfT m, (F.count : Int), 0, nm⟩ F ≤ _
   rw [nb_call ho];have e : oB B.opn = 1 := rfl;omega
 split at h
 · obtain ⟨_, k, h1, h⟩ := and_of h
   obtain ⟨d, l, h3, h2⟩ := and_of h;cases h2
   obtain ⟨_, w2⟩ := want_pc h1;obtain ⟨x, kx, f1, f2⟩ := One.bare (hG .block _ _ _ trivial h3);refine one_of (f1.under 53 0 []) (by show 9 ≤ widthN 53; decide) ?_;show pc ks i + bn ⟨53, 1, 0, []⟩ (.cons x kx .nil) ≤ _
   rw [nb_fork];omega
 split at h
 · obtain ⟨_, k, h1, h⟩ := and_of h
   obtain ⟨nm, k2, h4, h2⟩ := and_of h;cases h2
   obtain ⟨_, w2⟩ := want_pc h1;have w4 := own_pc h4;refine one_of (Is.none.under 56 0 nm) (by show 9 ≤ widthN 56; decide) ?_;show pc ks i + bn ⟨56, 0, 0, nm⟩ .nil ≤ _
   rw [nb_take];omega
 · obtain ⟨nm, k2, h4, h2⟩ := and_of h
   cases h2
   have w4 := own_pc h4;refine one_of (Is.none.under 26 0 nm) (by show 9 ≤ widthN 26; decide) ?_;show pc ks i + bn ⟨26, 0, 0, nm⟩ .nil ≤ _
   rw [nb_name];omega
theorem pc_step (i : Nat) : pc ks i ≤ pc ks (i + 1) := Nat.le_add_right _ _
theorem gP_res : ∀ f q i c j, q.wg → gP ks f q i = .ok c j → Res ks q i c j
 | 0, _, _, _, _, _, h => by cases h
 | f + 1, q, i, c, j, hw, h => by
   have ih := gP_res f;cases q with
   | flow =>
     obtain ⟨_, k1, h1, h⟩ := and_of h;obtain ⟨nm, k2, h2, h⟩ := and_of h;obtain ⟨ps, k3, h3, h⟩ := and_of h;obtain ⟨b, k4, h4, h5⟩ := and_of h;cases h5
     obtain ⟨_, w1⟩ := want_pc h1;have w2 := own_pc h2;obtain ⟨F, f1, f2⟩ := ih (.list B.opn .param B.cls) _ _ _ (.inl rfl) h3;obtain ⟨x, kx, g1, g2⟩ := One.bare (ih .block _ _ _ trivial h4);refine one_of ((f1.then g1).under 1 0 nm) (by show 1 ≤ widthN 1; decide) ?_;show pc ks i + bn ⟨1, ((F.app (.cons x kx .nil)).count : Int), 0, nm⟩ (F.app (.cons x kx .nil)) ≤ _
     rw [nb_flow (by rw [app_count]; show 0 < F.count + 1; omega), app_sum];have e : oB B.opn = 1 := rfl;have e2 : sumB (.cons x kx .nil) = bn x kx := rfl;omega
   | param =>
     obtain ⟨nm, k2, h2, h5⟩ := and_of h;cases h5
     have w2 := own_pc h2;refine one_of (Is.none.under 2 0 nm) (by show 1 ≤ widthN 2; decide) ?_;show pc ks i + bn ⟨2, 0, 0, nm⟩ .nil ≤ _
     rw [nb_param];omega
   | block =>
     obtain ⟨d, k, h1, h2⟩ := and_of h;cases h2
     obtain ⟨F, f1, f2⟩ := ih (.between B.lbr .stmts B.rbr) _ _ _ (.inl rfl) h1;refine one_of (f1.under 3 0 []) (by show 1 ≤ widthN 3; decide) ?_;show pc ks i + bn ⟨3, (F.count : Int), 0, []⟩ F ≤ _
     rw [nb_block];omega
   | stmts =>
     obtain ⟨F, f1, f2⟩ := ih (.stmtsGo Ch.none) _ _ _ trivial h .nil Is.none;exact ⟨F, f1, f2⟩
   | stmtsGo a =>
     intro A hA;unfold gP at h;dsimp only at h;split at h
     · cases h
       exact ⟨.nil, by rw [app_nil]; exact hA, by show pc ks i + 0 ≤ _; omega⟩
     · obtain ⟨d, k, h1, h2⟩ := and_of h
       obtain ⟨x, kx, g1, g2⟩ := One.bare (ih .stmt _ _ _ trivial h1);obtain ⟨F, f1, f2⟩ := ih (.stmtsGo (a.then d)) _ _ _ trivial h2 _ (hA.then g1);rw [app_assoc] at f1;refine ⟨.cons x kx F, f1, ?_⟩;show pc ks i + (bn x kx + sumB F) ≤ _
       omega
   | stmt =>
     unfold gP at h;dsimp only at h;split at h
     · obtain ⟨_, k1, h1, h2⟩ := and_of h
       obtain ⟨_, w1⟩ := want_pc h1;obtain ⟨x, kx, g1, g2⟩ := ih (.set 4) _ _ _ (.inl rfl) h2;exact ⟨x, kx, g1, by have e : an (wOf (.set 4)) x kx = an (wOf .stmt) x kx := rfl; omega⟩
     split at h
     · exact ih .choice _ _ _ trivial h
     split at h
     · obtain ⟨_, k1, h1, h⟩ := and_of h
       obtain ⟨d, k2, h2, h⟩ := and_of h;obtain ⟨b, k3, h3, h4⟩ := and_of h;cases h4
       obtain ⟨_, w1⟩ := want_pc h1;obtain ⟨x, kx, g1, g2⟩ := One.bare (ih .expr _ _ _ trivial h2);obtain ⟨y, ky, g3, g4⟩ := One.bare (ih .block _ _ _ trivial h3);refine one_of ((g1.then g3).under 7 0 []) (by show 1 ≤ widthN 7; decide) ?_;show pc ks i + bn ⟨7, 2, 0, []⟩ (.cons x kx (.cons y ky .nil)) ≤ _
       rw [nb_cond2 (.inr rfl)];omega
     split at h
     · rename_i hm
       obtain ⟨_, k1, h1, h⟩ := and_of h;obtain ⟨d, k2, h2, h4⟩ := and_of h;cases h4
       obtain ⟨_, w1⟩ := want_pc h1;obtain ⟨x, kx, g1, g2⟩ := One.bare (ih .expr _ _ _ trivial h2);generalize markT ks i = m at *;have ho : 8 ≤ opOfT m ∧ opOfT m ≤ 11 := by rcases hm with rfl | rfl | rfl | rfl <;> decide
       refine one_of (g1.under (opOfT m) 0 []) (width_pos _).1 ?_;show pc ks i + bn ⟨opOfT m, 1, 0, []⟩ (.cons x kx .nil) ≤ _
       rw [nb_stmt ho];omega
     · exact ih (.set 5) _ _ _ (.inr rfl) h
   | set op =>
     obtain ⟨nm, k1, h1, h⟩ := and_of h;obtain ⟨_, k2, h2, h⟩ := and_of h;obtain ⟨d, k3, h3, h4⟩ := and_of h;cases h4
     have w1 := own_pc h1;obtain ⟨_, w2⟩ := want_pc h2;obtain ⟨x, kx, g1, g2⟩ := One.bare (ih .expr _ _ _ trivial h3);refine one_of (g1.under op 0 nm) (width_pos _).1 ?_;show pc ks i + bn ⟨op, 1, 0, nm⟩ (.cons x kx .nil) ≤ _
     rw [nb_set hw];omega
   | choice =>
     obtain ⟨_, k1, h1, h⟩ := and_of h;obtain ⟨d, k2, h2, h⟩ := and_of h;obtain ⟨b, k3, h3, h⟩ := and_of h;obtain ⟨_, w1⟩ := want_pc h1;obtain ⟨x, kx, g1, g2⟩ := One.bare (ih .expr _ _ _ trivial h2);obtain ⟨y, ky, g3, g4⟩ := One.bare (ih .block _ _ _ trivial h3);split at h
     · obtain ⟨_, k4, h4, h⟩ := and_of h
       obtain ⟨e, k5, h5, h6⟩ := and_of h;cases h6
       obtain ⟨_, w2⟩ := want_pc h4;obtain ⟨z, kz, g5, g6⟩ := One.bare (ih .block _ _ _ trivial h5);refine one_of (((g1.then g3).then g5).under 6 0 []) (by show 1 ≤ widthN 6; decide) ?_;show pc ks i + bn ⟨6, 3, 0, []⟩ (.cons x kx (.cons y ky (.cons z kz .nil))) ≤ _
       rw [nb_cond3];omega
     · cases h
       refine one_of ((g1.then g3).under 6 0 []) (by show 1 ≤ widthN 6; decide) ?_;show pc ks i + bn ⟨6, 2, 0, []⟩ (.cons x kx (.cons y ky .nil)) ≤ _
       rw [nb_cond2 (.inl rfl)];omega
   | expr => exact ih (.row .and [B.or]) _ _ _ (.inl ⟨rfl, rfl⟩) h
   | and => exact ih (.row .not [B.and]) _ _ _ (.inr (.inl ⟨rfl, rfl⟩)) h
   | not =>
     unfold gP at h;dsimp only at h;split at h
     · obtain ⟨_, k1, h1, h⟩ := and_of h
       obtain ⟨d, k2, h2, h4⟩ := and_of h;cases h4
       obtain ⟨_, w1⟩ := want_pc h1;obtain ⟨x, kx, g1, g2⟩ := ih .not _ _ _ trivial h2;refine one_of (g1.under 43 0 []) (by show 3 ≤ widthN 43; decide) ?_;show pc ks i + bn ⟨43, 1, 0, []⟩ (.cons x kx .nil) ≤ _
       rw [nb_pre (.inl rfl)];have e : an (widthN 43) x kx = an (wOf .not) x kx := rfl;omega
     · exact One.less (ih .cmp _ _ _ trivial h) (by decide)
   | cmp =>
     obtain ⟨d, k, h1, h⟩ := and_of h;have g := ih .sum _ _ _ trivial h1;split at h
     · rename_i hm
       obtain ⟨_, k1, h2, h⟩ := and_of h;obtain ⟨e, k2, h3, h4⟩ := and_of h;cases h4
       obtain ⟨_, w1⟩ := want_pc h2;obtain ⟨x, kx, g1, g2⟩ := g;obtain ⟨y, ky, g3, g4⟩ := ih .sum _ _ _ trivial h3;generalize markT ks k = m at *;have ho : 32 ≤ opOfT m ∧ opOfT m ≤ 35 ∧ widthN (opOfT m) = 4 := by rcases hm with rfl | rfl | rfl | rfl <;> decide
       refine one_of ((g1.then g3).under (opOfT m) 0 []) (by show 4 ≤ widthN (opOfT m); omega) ?_;show pc ks i + bn ⟨opOfT m, 2, 0, []⟩ (.cons x kx (.cons y ky .nil)) ≤ _
       rw [nb_cmp ho.1 ho.2.1];have e1 : an (wOf .sum) x kx = an 5 x kx := rfl;have e2 : an (wOf .sum) y ky = an 5 y ky := rfl;omega
     · cases h
       exact One.less g (by decide)
   | sum => exact ih (.row .term addS) _ _ _ (.inr (.inr (.inl ⟨rfl, rfl⟩))) h
   | term => exact ih (.row .pre mulS) _ _ _ (.inr (.inr (.inr ⟨rfl, rfl⟩))) h
   | pre =>
     unfold gP at h;dsimp only at h;split at h
     · obtain ⟨_, k1, h1, h⟩ := and_of h
       obtain ⟨d, k2, h2, h4⟩ := and_of h;cases h4
       obtain ⟨_, w1⟩ := want_pc h1;obtain ⟨x, kx, g1, g2⟩ := ih .pre _ _ _ trivial h2;refine one_of (g1.under 44 0 []) (by show 7 ≤ widthN 44; decide) ?_;show pc ks i + bn ⟨44, 1, 0, []⟩ (.cons x kx .nil) ≤ _
       rw [nb_pre (.inr (.inl rfl))];have e : an (widthN 44) x kx = an (wOf .pre) x kx := rfl;omega
     split at h
     · rename_i hm
       obtain ⟨_, k1, h1, h⟩ := and_of h;obtain ⟨d, k2, h2, h4⟩ := and_of h;cases h4
       obtain ⟨_, w1⟩ := want_pc h1;obtain ⟨x, kx, g1, g2⟩ := ih .pre _ _ _ trivial h2;generalize markT ks i = m at *;have ho : (opOfT m = 54 ∨ opOfT m = 55) ∧ widthN (opOfT m) = 7 := by rcases hm with rfl | rfl <;> decide
       refine one_of (g1.under (opOfT m) 0 []) (by show 7 ≤ widthN (opOfT m); omega) ?_;show pc ks i + bn ⟨opOfT m, 1, 0, []⟩ (.cons x kx .nil) ≤ _
       rw [nb_pre (.inr (.inr ho.1)), ho.2];have e : an 7 x kx = an (wOf .pre) x kx := rfl;omega
     · exact One.less (ih .post _ _ _ trivial h) (by decide)
   | post =>
     obtain ⟨d, k, h1, h2⟩ := and_of h;obtain ⟨x, kx, g1, g2⟩ := ih .prim _ _ _ trivial h1;obtain ⟨y, ky, g3, g4⟩ := ih (.postGo d) _ _ _ trivial h2 x kx g1;refine ⟨y, ky, g3, ?_⟩;have e1 : an (wOf .prim) x kx = an 9 x kx := rfl;have e2 := an_mono (show 8 ≤ 9 by decide) x kx;show pc ks i + an 8 y ky ≤ _
     omega
   | postGo a =>
     intro x kx hx;unfold gP at h;dsimp only at h;split at h
     · obtain ⟨d, k, h1, h2⟩ := and_of h
       obtain ⟨z, kz, g1, g2⟩ := ih (.between B.lsq .expr B.rsq) _ _ _ (.inr (.inl rfl)) h1;obtain ⟨y, ky, g3, g4⟩ := ih (.postGo ((a.then d).under 42 0 [])) _ _ _ trivial h2 _ _ ((hx.then g1).under 42 0 []);refine ⟨y, ky, g3, ?_⟩;have e0 : an 8 ⟨42, (((Fs.cons x kx .nil).app (.cons z kz .nil)).count : Int), ((0 : Nat) : Int), []⟩ ((Fs.cons x kx .nil).app (.cons z kz .nil)) = an 8 x kx + bn z kz := by
         show an 8 ⟨42, 2, 0, []⟩ (.cons x kx (.cons z kz .nil)) = _
         rw [an_wide (by show 8 ≤ widthN 42; decide), nb_at]
       omega
     · cases h
       exact ⟨x, kx, hx, Nat.le_refl _⟩
   | prim =>
     unfold gP at h;dsimp only at h;split at h
     · split at h
       · cases h
         refine one_of (Is.none.under 23 _ []) (by show 9 ≤ widthN 23; decide) ?_;show pc ks i + bn ⟨23, 0, _, []⟩ .nil ≤ _
         rw [nb_int];have := pc_step (ks := ks) i;omega
       split at h
       · cases h
         refine one_of (Is.none.under 24 0 _) (by show 9 ≤ widthN 24; decide) ?_;show pc ks i + bn ⟨24, 0, 0, _⟩ .nil ≤ _
         rw [nb_text];have := pc_step (ks := ks) i;omega
       · exact gM_res ih h
     · exact gM_res ih h
   | two =>
     obtain ⟨d, k1, h1, h⟩ := and_of h;obtain ⟨_, k2, h2, h⟩ := and_of h;obtain ⟨e, k3, h3, h4⟩ := and_of h;cases h4
     obtain ⟨_, w1⟩ := want_pc h2;obtain ⟨x, kx, g1, g2⟩ := One.bare (ih .expr _ _ _ trivial h1);obtain ⟨y, ky, g3, g4⟩ := One.bare (ih .expr _ _ _ trivial h3);exact ⟨x, kx, y, ky, g1.then g3, by omega⟩
   | list o p e =>
     obtain ⟨_, k1, h1, h⟩ := and_of h;obtain ⟨_, w1⟩ := want_pc h1;split at h
     · obtain ⟨_, k2, h2, h3⟩ := and_of h
       cases h3
       obtain ⟨_, w2⟩ := want_pc h2;exact ⟨.nil, Is.none, by show pc ks i + (oB o + 0) ≤ _; omega⟩
     · obtain ⟨d, k2, h2, h3⟩ := and_of h
       have g : ∃ x k, Is d (.cons x k .nil) ∧ pc ks k1 + bn x k ≤ pc ks k2 := by
         rcases hw with rfl | rfl
         · exact One.bare (ih .param _ _ _ trivial h2)
         · exact One.bare (ih .expr _ _ _ trivial h2)
       obtain ⟨x, kx, g1, g2⟩ := g;obtain ⟨F, f1, f2⟩ := ih (.listGo p e d) _ _ _ hw h3 _ g1;refine ⟨_, f1, ?_⟩;rw [app_sum];have e2 : sumB (.cons x kx .nil) = bn x kx := rfl;omega
   | listGo p e a =>
     intro A hA;unfold gP at h;dsimp only at h;split at h
     · obtain ⟨_, k1, h1, h⟩ := and_of h
       obtain ⟨_, w1⟩ := want_pc h1;obtain ⟨d, k2, h2, h3⟩ := and_of h;have g : ∃ x k, Is d (.cons x k .nil) ∧ pc ks k1 + bn x k ≤ pc ks k2 := by
         rcases hw with rfl | rfl
         · exact One.bare (ih .param _ _ _ trivial h2)
         · exact One.bare (ih .expr _ _ _ trivial h2)
       obtain ⟨x, kx, g1, g2⟩ := g;obtain ⟨F, f1, f2⟩ := ih (.listGo p e (a.then d)) _ _ _ hw h3 _ (hA.then g1);rw [app_assoc] at f1;refine ⟨.cons x kx F, f1, ?_⟩;show pc ks i + (bn x kx + sumB F) ≤ _
       omega
     · obtain ⟨_, k1, h1, h2⟩ := and_of h
       cases h2
       obtain ⟨_, w1⟩ := want_pc h1;exact ⟨.nil, by rw [app_nil]; exact hA, by show pc ks i + 0 ≤ _; omega⟩
   | between o p e =>
     obtain ⟨_, k1, h1, h⟩ := and_of h;obtain ⟨d, k2, h2, h⟩ := and_of h;obtain ⟨_, k3, h3, h4⟩ := and_of h;cases h4
     obtain ⟨_, w1⟩ := want_pc h1;obtain ⟨_, w3⟩ := want_pc h3;rcases hw with rfl | rfl | rfl
     · obtain ⟨F, f1, f2⟩ := ih .stmts _ _ _ trivial h2
       exact ⟨F, f1, by omega⟩
     · obtain ⟨x, kx, g1, g2⟩ := One.bare (ih .expr _ _ _ trivial h2)
       exact ⟨x, kx, g1, by omega⟩
     · obtain ⟨x, kx, y, ky, g1, g2⟩ := ih .two _ _ _ trivial h2
       exact ⟨x, kx, y, ky, g1, by omega⟩
   | row p ms =>
     obtain ⟨d, k, h1, h2⟩ := and_of h;have hp : p.wg := by rcases hw with ⟨rfl, rfl⟩ | ⟨rfl, rfl⟩ | ⟨rfl, rfl⟩ | ⟨rfl, rfl⟩ <;> exact trivial
     obtain ⟨x, kx, g1, g2⟩ := row_part hw (ih p _ _ _ hp h1);obtain ⟨y, ky, g3, g4⟩ := ih (.rowGo p ms d) _ _ _ hw h2 x kx g1;refine ⟨y, ky, g3, ?_⟩;have e2 := an_mono (show wOf p - 1 ≤ wOf p by omega) x kx;show pc ks i + an (wOf p - 1) y ky ≤ _
     omega
   | rowGo p ms a =>
     intro x kx hx;unfold gP at h;dsimp only at h;split at h
     · rename_i hm
       obtain ⟨o1, o2, o3, o4⟩ := row_ops hw hm;obtain ⟨_, k1, h1, h⟩ := and_of h;obtain ⟨d, k2, h2, h3⟩ := and_of h;obtain ⟨_, w1⟩ := want_pc h1;have hp : p.wg := by rcases hw with ⟨rfl, rfl⟩ | ⟨rfl, rfl⟩ | ⟨rfl, rfl⟩ | ⟨rfl, rfl⟩ <;> exact trivial
       obtain ⟨z, kz, g1, g2⟩ := row_part hw (ih p _ _ _ hp h2);generalize markT ks i = m at *;obtain ⟨y, ky, g3, g4⟩ := ih (.rowGo p ms ((a.then d).under (opOfT m) 0 [])) _ _ _ hw h3 _ _ ((hx.then g1).under (opOfT m) 0 []);refine ⟨y, ky, g3, ?_⟩;have e0 : an (wOf p - 1) ⟨opOfT m, (((Fs.cons x kx .nil).app (.cons z kz .nil)).count : Int), ((0 : Nat) : Int), []⟩ ((Fs.cons x kx .nil).app (.cons z kz .nil)) = an (wOf p - 1) x kx + an (wOf p) z kz := by
         show an (wOf p - 1) ⟨opOfT m, 2, 0, []⟩ (.cons x kx (.cons z kz .nil)) = _
         rw [an_wide (by show wOf p - 1 ≤ widthN (opOfT m); omega), nb_left o1, o2, show wOf p - 1 + 1 = wOf p by omega]
       omega
     · cases h
       exact ⟨x, kx, hx, Nat.le_refl _⟩
theorem least {x : Tw} {k : Fs} (hok : (Fs.cons x k .nil).ok) {q : NT} (hq : q = .flow ∨ q = .expr) {f j : Nat} {c : Ch} (h : gP ks f q 0 = .ok c j) (hc : c.ts = x :: k.flat) : oc (showL x k) ≤ pc ks j := by
 have hr : One ks 1 c 0 j := by
   rcases hq with rfl | rfl
   · exact gP_res f .flow 0 c j trivial h
   · exact gP_res f .expr 0 c j trivial h
 obtain ⟨y, l, g1, g2⟩ := One.bare hr;have hf : (Fs.cons y l .nil).flat ++ [] = (Fs.cons x k .nil).flat ++ [] := by
   rw [← g1.1, hc];show _ = (x :: (k.flat ++ [])) ++ []
   simp
 obtain ⟨e, -⟩ := cnt_one _ _ [] [] g1.2.2 (ok_cnt hok) rfl hf;injection e with e1 e2;subst e1 e2;rw [show showL y l = bareS y l from atS_one y l];have : pc ks 0 = 0 := rfl;unfold bn at g2;omega
end
end Go.Proofs.YtjiemkidmlgbeaaGreatDoor
