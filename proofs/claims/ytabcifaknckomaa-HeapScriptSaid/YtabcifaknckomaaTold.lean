/- The contract of told: a heap tells what the document's heap tells. -/
import Derived.Test.YtabcifaknckomaaRAll
namespace Go.Proofs.Ytabcifaknckomaa.RF
open Go.RowKit HI

theorem set_ge {xs : List Value} {k j : Nat} {u x : Value} (h : xs[j]? = some x) (hj : k < j) : (xs.set k u)[j]? = some x := by
  rw [List.getElem?_set, if_neg (by omega)]; exact h

set_option maxRecDepth 100000 in
set_option maxHeartbeats 4000000 in
theorem told_any {F : Nat → Prop} {w : World} {hb p r nx : Nat} {rv : Value} {L R : List T} (hH : Hp F w hb L p) (hR : RefAt w r rv R nx) (hr : Rising R) (hp : L.Perm R) :
    Calls Try.prog 18 #[.pointer (some ⟨hb, 0, none⟩), .pointer (some ⟨r, 0, none⟩)] w fun e w' => e = .returned (.bool true) ∧ Below w.heap.size w w' := by
  have A := Lib.hid (rall_any hR hr)
  have hlim := hR.len
  have hu : Unlike L := fun x hx y hy e => hH.nums.2.1 x hx y hy e
  replace hH := Lib.hid hH
  replace hp := Lib.hid hp
  replace hu := Lib.hid hu
  clear hR hr
  go_enter Try.func18, Try.ntmps18
  go_wp2_with fail
  refine A.out.mono ?_
  rintro e w1 ⟨S, v1, rfl, hpS, hoS, hrowS, hB1⟩
  have hH1 := hH.out.below hB1
  go_wp2_with fail
  refine (hp_keys hH1).mono ?_
  rintro e w2 ⟨S2, rfl, hp2, ho2, hrow2, hB2⟩
  have hH2 := hH1.below hB2
  go_wp2_with fail
  refine (hp_all hH2).mono ?_
  rintro e w3 ⟨S3, rfl, hp3, ho3, hrow3, hB3⟩
  obtain rfl : S2 = S := order_unique (hp2.trans (hp.out.trans hpS.symm)) ho2 hoS (fun x hx y hy e => hu.out x (hp2.mem_iff.1 hx) y (hp2.mem_iff.1 hy) e)
  obtain rfl : S3 = S2 := order_unique (hp3.trans hp2.symm) ho3 ho2 (fun x hx y hy e => hu.out x (hp3.mem_iff.1 hx) y (hp3.mem_iff.1 hy) e)
  have hn : S3.length = L.length := hp3.length_eq
  have hn2 : S3.length ≤ 100000 := by rw [hpS.length_eq]; exact hlim
  obtain ⟨oa, oc, rfl, _, _⟩ := ownsRow_shape hrowS
  have hl1 : w.heap.size ≤ w1.heap.size := hB1.size
  have hl2 : w1.heap.size < w2.heap.size := (hrow2.lt _ rfl).2
  have hl3 : w2.heap.size < w3.heap.size := (hrow3.lt _ rfl).2
  have hB13 := hB1.trans ((hB2.trans (hB3.mono hB2.size)).mono hl1)
  have hrowS3 := ownsRow_only (ownsRow_only hrowS (Only.of_below (F := fun _ => False) hB2) (fun _ _ h => h)) (Only.of_below (F := fun _ => False) hB3) (fun _ _ h => h)
  have hrow23 := ownsRow_only hrow2 (Only.of_below (F := fun _ => False) hB3) (fun _ _ h => h)
  have hown := Lib.hid (fun g hg => (hrowS.lt g hg).2)
  rw [← hn] at hrow23 hrow3 ⊢
  generalize hg2 : w1.heap.size = g2 at *
  generalize hg3 : w2.heap.size = g3 at *
  generalize hnn : S3.length = n at *
  have htk : ∀ j, 0 ≤ j → j < n → (S3.map fun x => Value.int .i64 x.key)[j]? = some (.int .i64 (at_ S3 j).key) := fun j _ hj => by
    rw [List.getElem?_map, List.getElem?_eq_getElem (by omega), at_eq S3 j (by omega)]; rfl
  have hta : ∀ j, 0 ≤ j → j < n → (S3.map fun x => Value.int .i64 x.v)[j]? = some (.int .i64 (at_ S3 j).v) := fun j _ hj => by
    rw [List.getElem?_map, List.getElem?_eq_getElem (by omega), at_eq S3 j (by omega)]; rfl
  clear hrowS hrow2 hB1 hB2 hB3 hp2 ho2 hp3 ho3 hH1 hH2 hpS hoS hg2 hg3 hn
  replace hnn := Lib.hid hnn
  go_wp2
  go_loopw [8] (fun i wr => ∃ (k : Nat) (ks vs : List Value), k ≤ n ∧ i = .int .i64 k ∧ wr.ownsRow w.heap.size 36 3 (.slice oa n oc) n (rowOf enc S3) ∧ wr.ownsRow g2 2 1 (.slice (some ⟨g2, 0, none⟩) n n) n ks ∧ wr.ownsRow g3 3 1 (.slice (some ⟨g3, 0, none⟩) n n) n vs ∧ (∀ j, k ≤ j → j < n → ks[j]? = some (.int .i64 (at_ S3 j).key)) ∧ (∀ j, k ≤ j → j < n → vs[j]? = some (.int .i64 (at_ S3 j).v)) ∧ Below w.heap.size w wr) (fun i _ => n - (intOf i).toNat)
  case atStart => exact ⟨0, _, _, Nat.zero_le _, rfl, hrowS3, hrow23, hrow3, htk, hta, hB13⟩
  case round =>
    obtain ⟨k, ks, vs, hk, rfl, hrS, hr2, hr3, hks, has, hB⟩ := hrel
    clear htk hta hrowS3 hrow23 hrow3 hB13
    replace hks := Lib.hid hks
    replace has := Lib.hid has
    by_cases hlt : k < n
    · have hi1 : (k : Int) < n := by omega
      have hv := ownsRow_head hrS (by omega)
      obtain ⟨gl, cap', hsv, _, _, _, _, _⟩ := hv
      obtain ⟨rfl, rfl⟩ : oa = some ⟨gl, 0, none⟩ ∧ oc = cap' := by simpa using hsv
      clear hsv
      have hgl : gl < g2 := hown.out gl rfl
      obtain ⟨x0, _, x2⟩ := ref_cells hrS hnn.out.symm (i := k) (by rw [hnn.out]; exact hlt)
      have y0 : wr.cell? ⟨g2, k, none⟩ = some (.int .i64 (at_ S3 k).key) := by rw [hr2.cellAt k (by omega)]; exact hks.out k (Nat.le_refl _) hlt
      have z0 : wr.cell? ⟨g3, k, none⟩ = some (.int .i64 (at_ S3 k).v) := by rw [hr3.cellAt k (by omega)]; exact has.out k (Nat.le_refl _) hlt
      have y1 := hr2.frozenAt k
      have z1 := hr3.frozenAt k
      obtain ⟨kk, hkk⟩ := exHid (at_ S3 k).key
      obtain ⟨kv, hkv⟩ := exHid (at_ S3 k).v
      rw [hkk.out] at x0 y0
      rw [hkv.out] at x2 z0
      have hne : ¬ g3 = g2 := by omega
      have b1 : (kk != kk) = false := by simp
      have b2 : (kv != kv) = false := by simp
      have K2 := fun (W : World) (h2 : W.ownsRow g2 2 1 (.slice (some ⟨g2, 0, none⟩) n n) n ks) => (h2.stored k (.int .i64 7)).1
      have o2 := fun (W : World) => (Only.refl (fun q => q = g2) W).setCell (p := ⟨g2, k, none⟩) (.inl rfl) (.int .i64 7)
      have o3 := fun (W : World) => (Only.refl (fun q => q = g3) W).setCell (p := ⟨g3, k, none⟩) (.inl rfl) (.int .i64 7)
      replace K2 := Lib.hid K2
      replace o2 := Lib.hid o2
      replace o3 := Lib.hid o3
      go_wp2
      go_quiet (fail)
      rename_i nq
      have hrSq : (wr.drewN nq).ownsRow w.heap.size 36 3 (.slice (some ⟨gl, 0, none⟩) n oc) n (rowOf enc S3) := hrS
      have hr2q : (wr.drewN nq).ownsRow g2 2 1 (.slice (some ⟨g2, 0, none⟩) n n) n ks := hr2
      have hr3q : (wr.drewN nq).ownsRow g3 3 1 (.slice (some ⟨g3, 0, none⟩) n n) n vs := hr3
      have hBq : Below w.heap.size w (wr.drewN nq) := ⟨hB.os, hB.tape, hB.output, hB.size, hB.block⟩
      have y0q : (wr.drewN nq).cell? ⟨g2, k, none⟩ = some (.int .i64 kk) := y0
      have z0q : (wr.drewN nq).cell? ⟨g3, k, none⟩ = some (.int .i64 kv) := z0
      have y1q : (wr.drewN nq).frozen? ⟨g2, k, none⟩ = false := y1
      have z1q : (wr.drewN nq).frozen? ⟨g3, k, none⟩ = false := z1
      clear hrS hr2 hr3 hB x0 x2 y0 z0 y1 z1
      generalize wr.drewN nq = wq at *
      go_wp2
      go_roundw
      case rel =>
        have r2 := (hr2q.stored k (.int .i64 7)).1
        have q2 := o2.out wq
        have rS := ownsRow_only hrSq q2 (fun g hg e => by injection hg with hg; simp only at hg; omega)
        have r3 := ownsRow_only hr3q q2 (fun g hg e => by injection hg with hg; simp only at hg; omega)
        have q3 := o3.out (wq.setCell ⟨g2, k, none⟩ (.int .i64 7))
        have r3' := (r3.stored k (.int .i64 7)).1
        have r2' := ownsRow_only r2 q3 (fun g hg e => by injection hg with hg; simp only at hg; omega)
        have rS' := ownsRow_only rS q3 (fun g hg e => by injection hg with hg; simp only at hg; omega)
        exact ⟨k + 1, _, _, by omega, by go_num, rS', r2', r3', fun j h1 h2 => set_ge (hks.out j (by omega) h2) (by omega), fun j h1 h2 => set_ge (has.out j (by omega) h2) (by omega), (hBq.trans (q2.below hBq.size (fun q hq h => by omega))).trans (q3.below (Nat.le_trans hBq.size q2.size) (fun q hq h => by omega))⟩
      case measure => simp [intOf]; omega
    · have hi1 : ¬ (k : Int) < n := by omega
      go_wp2
      go_ret
      exact ⟨rfl, hB⟩
end Go.Proofs.Ytabcifaknckomaa.RF
