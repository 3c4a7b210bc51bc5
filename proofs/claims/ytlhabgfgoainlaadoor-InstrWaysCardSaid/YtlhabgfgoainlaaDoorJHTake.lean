/- The contract of a heap's takeAway. -/
import Derived.Test.YtlhabgfgoainlaaDoorJHTk0
namespace Go.Proofs.YtlhabgfgoainlaaDoor.HI
open Go.RowKit

set_option maxRecDepth 100000 in
set_option maxHeartbeats 2000000 in
theorem take_any {b bm p s : Nat} {sv : Value} {d : List T} {w : World} (h : HeapAt w b bm sv d p) (hs : s < d.length) (hH : Heapy T.key T.num d) :
    Calls Tryd.prog 66 #[.pointer (some ⟨b, 0, none⟩), .int .i64 s] w fun e w' => e = .returned (.tuple #[]) ∧ ∃ d' sv', HeapAt w' b bm sv' d' p ∧ (at_ d s :: d').Perm d ∧ Heapy T.key T.num d' ∧ sv'.ownBlock = sv.ownBlock ∧ Only (Foot b bm sv) w w' := by
  obtain ⟨g, cap, rfl, _, hgl, hn, hcm, _⟩ := ownsRow_head h.row (by omega)
  obtain ⟨n, hn1⟩ : ∃ n, n + 1 = d.length := ⟨d.length - 1, by omega⟩
  rw [← hn1] at h ⊢ hn
  have c0 := h.c0
  have hlim : n + 1 ≤ 1099511627776 := by rw [hn1]; exact Nat.le_trans h.len h.lim
  have hsn : s < n + 1 := by omega
  have hnd : n < d.length := by omega
  have hlt : (n : Int) < (n : Int) + 1 := by omega
  have hcap : (n : Int) ≤ cap := by omega
  have hperm := Lib.hid (cutAt_perm hn1 hs)
  have hcl := Lib.hid (cutAt_length (s := s) hn1)
  have hex : s < n → Ex_ T.key T.num (cutAt d s n) s := fun hsl => ex_cut hn1 hsl hH
  have hcut : s = n → Heapy T.key T.num (cutAt d s n) := fun e => by
    subst e
    unfold cutAt
    rw [swp_same d s hs]
    exact heap_cut hH hn1
  replace hex := Lib.hid hex
  replace hcut := Lib.hid hcut
  replace h := Lib.hid h
  replace hn1 := Lib.hid hn1
  clear hH
  go_enter Tryd.func66, Tryd.ntmps66
  go_wp2_with (first
    | (go_at_call 83; refine (swap_at h.out (a := s) (c := n) rfl (by omega) hs hnd).mono ?_; rintro e w1 ⟨rfl, hH1, ho1⟩))
  have hll : (swp d s n).length = n + 1 := by rw [swp_length, hn1.out]
  have hrow1 := hH1.row
  rw [hll] at hrow1
  obtain ⟨_, x1, _⟩ := row_cells hrow1 hll.symm (i := n) (by omega)
  have y0 := hH1.c0
  have y1 := hH1.c1
  replace hll := Lib.hid hll
  replace hrow1 := Lib.hid hrow1
  obtain ⟨f, M1, hpl⟩ := hH1.map
  have hnn := hH1.i64n n (by rw [hll.out]; omega)
  have tf := fun w2 => take_fin (w2 := w2) hH1 hn1.out hs M1 hpl
  replace tf := Lib.hid tf
  have M1' := M1.drew
  rw [hll.out] at M1'
  replace M1' := Lib.hid M1'
  clear M1 hpl
  have hbm := hH1.bm_ne
  obtain ⟨hgb, hgm⟩ := hH1.g_ne (g := g) rfl
  have hb1 := hH1.lt
  have hg1 := hH1.ltg (g := g) rfl
  clear hH1
  obtain ⟨nn, hnu⟩ : ∃ nn, (at_ (swp d s n) n).num = nn := ⟨_, rfl⟩
  rw [hnu] at x1 hnn
  replace hnu := Lib.hid hnu
  go_region_held3 (fun w' => w'.cell? ⟨b, 0, none⟩ = some (.slice (some ⟨g, 0, none⟩) (n + 1) cap) ∧ w'.cell? ⟨b, 1, none⟩ = some (.map (some bm)) ∧ w'.cell? ⟨g, n * 3 + 1, none⟩ = some (.int .i64 nn))
    (first
      | exact ⟨y0, y1, x1⟩
      | exact hold)
    ((refine step_delete_f rfl (.tmp 18) (.tmp 26) 110 3 3 rfl Tryd.underlying3 Tryd.underlying110 bm (n + 1) f M1'.out nn rfl rfl hnn ?_; intro w2 M2 gr2; have hold : w2.cell? ⟨b, 0, none⟩ = some (.slice (some ⟨g, 0, none⟩) (n + 1) cap) ∧ w2.cell? ⟨b, 1, none⟩ = some (.map (some bm)) ∧ w2.cell? ⟨g, n * 3 + 1, none⟩ = some (.int .i64 nn) := (⟨((only_map gr2).cell (p := ⟨b, 0, none⟩) hb1 (fun e => hbm e.symm)).trans y0, ((only_map gr2).cell (p := ⟨b, 1, none⟩) hb1 (fun e => hbm e.symm)).trans y1, ((only_map gr2).cell (p := ⟨g, n * 3 + 1, none⟩) hg1 hgm).trans x1⟩)))
  rw [← hnu.out] at M2
  obtain ⟨⟨st2, row2⟩, F1, F2⟩ := tf.out w2 M2 gr2
  have z0 : w2.cell? ⟨b, 0, none⟩ = some (.slice (some ⟨g, 0, none⟩) (n + 1) cap) := hold.1
  obtain ⟨u0, u1, u2⟩ := row_cells row2 hll.out.symm (i := n) (by rw [hll.out]; omega)
  have f0 := row2.frozenAt (n * 3)
  have f1 := row2.frozenAt (n * 3 + 1)
  have f2 := row2.frozenAt (n * 3 + 2)
  have f3 : w2.frozen? ⟨b, 0, none⟩ = false := by simp [World.frozen?, st2]
  generalize (at_ (swp d s n) n).key = kk at u0
  generalize (at_ (swp d s n) n).num = ku at u1
  generalize (at_ (swp d s n) n).v = kv at u2
  replace F1 := Lib.hid F1
  replace F2 := Lib.hid (ho1.trans F2 (K := Foot b bm (.slice (some ⟨g, 0, none⟩) (n + 1) cap)) (fun k _ e => .inr e) (fun k _ e => by rcases e with e | e | e; exact .inl e; exact .inr (.inl e); exact .inr (.inr (by rw [e]; rfl))))
  clear M2 gr2 hold st2 row2 y0 y1 x1 ho1 c0
  have hgb' : ¬ b = g := fun e => hgb e.symm
  by_cases hsl : s < n
  · have hE := Lib.hid (hex.out hsl)
    go_wp2_with (go_at_call 84; refine (settle_any F1.out (s := s) (by rw [hcl.out]; exact hsl) hE.out).mono ?_; rintro e w3 ⟨rfl, d3, hH3, hp3, hD3, ho3⟩)
    go_end0
    exact ⟨rfl, d3, _, hH3, (hp3.cons _).trans hperm.out, hD3, rfl, F2.out.trans ho3 (fun k _ e => e) (fun k _ e => by rcases e with e | e; exact .inr (.inl e); exact .inr (.inr e))⟩
  · have hsn2 : s = n := by omega
    have hE := Lib.hid (hcut.out hsn2)
    go_wp2
    go_end0
    exact ⟨rfl, _, _, F1.out, hperm.out, hE.out, rfl, F2.out⟩
end Go.Proofs.YtlhabgfgoainlaaDoor.HI
