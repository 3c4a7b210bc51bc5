/- The document's Kids (layer 8) of a twig at any place of a right tree, walked. No condition. -/
import Derived.Test.YtnghfjlmmmjekaaOffs
import Derived.Test.YtnghfjlmmmjekaaFs
namespace Go.Proofs.Ytnghfjlmmmjekaa
open Go.RowKit Go.Shelf

/-- Where trees begin, one behind the other, from place i on. -/
def offsF : Fs → Nat → List Nat
  | .nil, _ => []
  | .cons _ k r, i => i :: offsF r (i + 1 + k.flat.length)
theorem offsF_len : ∀ (F : Fs) (i : Nat), (offsF F i).length = F.count
  | .nil, _ => rfl
  | .cons _ k r, i => by show (offsF r _).length + 1 = r.count + 1; rw [offsF_len r]
theorem forest_end (rest : List Tw) : ∀ (F : Fs) (m n : Nat), F.ok → endL rest m = some n → endL (F.flat ++ rest) (F.count + m) = some (F.flat.length + n)
  | .nil, m, n, _, h => by
    show endL rest (0 + m) = some (0 + n)
    rw [Nat.zero_add, Nat.zero_add]
    exact h
  | .cons x k r, m, n, ⟨_, hn, hk, hr⟩, h => by
    have hrr := forest_end rest r m n hr h
    have hkk := forest_end (r.flat ++ rest) k (r.count + m) (r.flat.length + n) hk hrr
    show endL ((x :: (k.flat ++ r.flat)) ++ rest) (r.count + 1 + m) = some ((x :: (k.flat ++ r.flat)).length + n)
    rw [show r.count + 1 + m = (r.count + m) + 1 by omega, List.cons_append, List.append_assoc]
    show (endL (k.flat ++ (r.flat ++ rest)) (r.count + m + x.kids.toNat)).map (· + 1) = _
    rw [hn, Int.toNat_natCast, Nat.add_comm (r.count + m), hkk]
    show some (k.flat.length + (r.flat.length + n) + 1) = _
    congr 1
    rw [List.length_cons, List.length_append]
    omega
theorem tree_end {x : Tw} {k : Fs} (h : k.ok) (hn : x.kids = (k.count : Int)) (rest : List Tw) : endL (x :: (k.flat ++ rest)) 1 = some (1 + k.flat.length) := by
  have h1 := forest_end rest k 0 0 h (endL_zero rest)
  show (endL (k.flat ++ rest) (0 + x.kids.toNat)).map (· + 1) = _
  rw [hn, Int.toNat_natCast, Nat.zero_add]
  rw [Nat.add_zero, Nat.add_zero] at h1
  rw [h1]
  show some (k.flat.length + 1) = _
  congr 1
  omega
theorem fs_lens : ∀ (F : Fs), F.count ≤ F.flat.length
  | .nil => Nat.le_refl _
  | .cons x k r => by
    have := fs_lens r
    show r.count + 1 ≤ (x :: (k.flat ++ r.flat)).length
    rw [List.length_cons, List.length_append]
    omega
set_option maxRecDepth 20000 in
set_option maxHeartbeats 2000000 in
theorem KidsAt_any {v : Value} {ts : List Tw} (w : World) (hT : TwIn w v ts) (hk : ∀ x ∈ ts, 0 ≤ x.kids ∧ x.kids ≤ 2048) (hl : ts.length ≤ 2048) {x : Tw} {K : Fs} {rest : List Tw} {i : Nat} (hd : ts.drop i = x :: (K.flat ++ rest)) (hx : x.kids = (K.count : Int)) (hok : K.ok) :
    Calls Try.prog 22 #[v, .int .i64 (i : Nat)] w fun e w' => ∃ v', e = .returned v' ∧ OffsAt w' w.heap.size v' (offsF K (i + 1)) ∧ Below w.heap.size w w' := by
  have hE := fun W (hTW : TwIn W v ts) o n ho hn => refEnd_any W hTW hk (Nat.le_trans hl (by omega)) (ts.length - o) o n (Nat.le_refl _) ho hn
  have hTT := Lib.hid hT
  have hil : i < ts.length := by
    rcases Nat.lt_or_ge i ts.length with h | h
    · exact h
    · rw [List.drop_eq_nil_of_le h] at hd; cases hd
  obtain ⟨a, cap, rfl, hlc, hcm, h3⟩ := hT
  obtain ⟨g, off, rfl, hg, hcell⟩ := h3 (by omega)
  have p1 := hcell i hil 1 (by omega)
  have hxi : ts[i] = x := by
    have := List.drop_eq_getElem_cons hil
    rw [hd] at this
    injection this with h _
    exact h.symm
  rw [hxi] at p1
  rcases x with ⟨op, kids, num, text⟩
  dsimp only at hx
  subst hx
  simp only [twC, List.getElem?_cons_succ, List.getElem?_cons_zero] at p1
  have hd1 : ts.drop (i + 1) = K.flat ++ rest := by
    rw [← List.drop_drop, hd]
    rfl
  have hcnt : K.count ≤ 2048 := by
    have h1 := fs_lens K
    have h2 := congrArg List.length hd1
    rw [List.length_drop, List.length_append] at h2
    omega
  obtain ⟨N, hN⟩ := exHid ts.length
  rw [hN.out] at hTT hE ⊢
  rw [hN.out] at hil hl
  replace hE := Lib.hid hE
  obtain ⟨n, hn⟩ := exHid K.count
  rw [hn.out] at p1 hcnt
  replace hd1 := Lib.hid hd1
  replace hok := Lib.hid hok
  clear h3 hcell hk hlc hd hxi
  have hili : (i : Int) < (N : Int) := by omega
  go_enter Try.func22, Try.ntmps22
  go_wp2_with fail
  go_loopw [5, 6, 7] (fun t5 t6 t7 wr => ∃ (j o : Nat) (A : List Nat) (G : Fs), t7 = .int .i64 j ∧ t6 = .int .i64 o ∧ o ≤ N ∧ Hid (A.length = j) ∧ j + G.count = n ∧ Hid (offsF K (i + 1) = A ++ offsF G o) ∧ Hid (ts.drop o = G.flat ++ rest) ∧ Hid G.ok ∧ Hid (OffsAt wr w.heap.size t5 A) ∧ Hid (Below w.heap.size w wr)) (fun _ _ t7 _ => n - (intOf t7).toNat)
  case atStart => exact ⟨0, i + 1, [], K, rfl, by go_num, by omega, Lib.hid rfl, by rw [hn.out]; omega, Lib.hid rfl, hd1, hok, Lib.hid ⟨rfl, .inl ⟨rfl, rfl⟩⟩, Lib.hid (Below.refl _ _)⟩
  case round =>
    obtain ⟨j, o, A, G, rfl, rfl, ho, hA, hj, hoo, hdo, hGo, hO, hB⟩ := hrel
    have q1 := cell_on p1 hB.out
    cases G with
    | nil =>
      have hj2 : j = n := by have e : Fs.nil.count = 0 := rfl; omega
      subst hj2
      have hlti : ¬ ((j : Int) < (j : Int)) := by omega
      have hAK : A = offsF K (i + 1) := by
        rw [hoo.out]
        exact (List.append_nil A).symm
      have hO2 := hO.out
      rw [hAK] at hO2
      replace hO2 := Lib.hid hO2
      clear hAK
      clear hoo hO hj hA hdo hGo
      go_wp2_with fail
      go_ret
      exact ⟨_, rfl, hO2.out, hB.out⟩
    | cons x k r =>
      obtain ⟨_, hxn, hko, hro⟩ := hGo.out
      have hcc : (Fs.cons x k r).count = r.count + 1 := rfl
      have hlt : j < n := by omega
      have hlti : (j : Int) < (n : Int) := by omega
      have hdd : ts.drop o = x :: (k.flat ++ (r.flat ++ rest)) := by
        rw [hdo.out]
        show (x :: (k.flat ++ r.flat)) ++ rest = _
        rw [List.cons_append, List.append_assoc]
      have hend := tree_end hko hxn (r.flat ++ rest)
      rw [← hdd] at hend
      have hlen := congrArg List.length hdd
      rw [List.length_drop, hN.out, List.length_cons, List.length_append] at hlen
      have hdr : ts.drop (o + (1 + k.flat.length)) = r.flat ++ rest := by
        rw [← List.drop_drop, hdd, Nat.add_comm 1, List.drop_succ_cons, List.drop_left]
      have hon : offsF K (i + 1) = (A ++ [o]) ++ offsF r (o + (1 + k.flat.length)) := by
        rw [hoo.out, List.append_assoc]
        show A ++ (o :: offsF r (o + 1 + k.flat.length)) = _
        rw [Nat.add_assoc]
        rfl
      have cE := Lib.hid (fun W (hb : Below w.heap.size w W) => hE.out W (hTT.out.below hb) o _ ho hend)
      have hal := (Below.refl wr.heap.size wr).alloc (Nat.le_refl _) (.cells #[.int .i64 (o : Int)] 3)
      have hO' := Lib.hid (hO.out.below hal)
      have hB' := Lib.hid (hB.out.trans (hal.mono hB.out.size))
      have hcl := (one_cell wr #[.int .i64 (o : Int)] 3 0).trans (show _ = some (natV o) from rfl)
      have hlr2 : A.length ≤ 1000000000 := by rw [hA.out]; omega
      obtain ⟨a5, c5, e5, _, _⟩ := hO.out.shape
      rw [hA.out] at e5
      subst e5
      have hol : o + (1 + k.flat.length) ≤ N := by omega
      have hjr : j + 1 + r.count = n := by omega
      generalize 1 + k.flat.length = pl at *
      replace hon := Lib.hid hon
      replace hdr := Lib.hid hdr
      replace hro := Lib.hid hro
      clear hO hB hal hoo hdo hGo hdd hend hlen hko hxn hcc hj
      go_wp2_with (at_builtin; (refine wpList_append_nat (base := w.heap.size) (n := o) rfl _ _ rfl rfl hO'.out rfl hcl hlr2 hB'.out.size ?_; intro a6 c6 w5 hO5 hB5))
      have hB6 := Lib.hid (hB'.out.trans hB5)
      have hA6 : Hid ((A ++ [o]).length = j + 1) := Lib.hid (by rw [List.length_append, hA.out]; rfl)
      replace hO5 := Lib.hid hO5
      clear hO' hB' hcl hB5 hA hlr2
      go_wp2_with fail
      refine (cE.out _ hB6.out).mono ?_
      rintro e w6 ⟨rfl, rfl⟩
      go_wp2_with fail
      go_roundw
      case rel => exact ⟨j + 1, o + pl, A ++ [o], r, by go_num, by go_num, hol, hA6, hjr, hon, hdr, hro, hO5, hB6⟩
      case measure => simp [intOf]; omega
end Go.Proofs.Ytnghfjlmmmjekaa
