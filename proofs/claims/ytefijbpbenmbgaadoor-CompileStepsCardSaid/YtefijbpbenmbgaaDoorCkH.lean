/- check's scope (layer 11): hide, walked. No condition. -/
import Derived.Test.YtefijbpbenmbgaaDoorCkS
import Derived.Deep.AppendSrc
import Derived.Lib.SliceRun
namespace Go.Proofs.YtefijbpbenmbgaaDoor
open Go.RowKit Go.Shelf

/-- The names that were forgotten first, so many, are told no more. -/
def hidF (L : List (List UInt8 × Nat)) (n j : Nat) : List UInt8 → Option Nat := fun y => if y ∈ ((L.drop n).take j).map Prod.fst then none else findL L y
theorem hidF_zero (L : List (List UInt8 × Nat)) (n : Nat) : hidF L n 0 = findL L := by
  funext y
  unfold hidF
  simp
theorem hidF_end {L : List (List UInt8 × Nat)} (h : (L.map Prod.fst).Nodup) (n : Nat) : hidF L n (L.length - n) = findL (L.take n) := by
  funext y
  unfold hidF
  rw [findL_take h, List.take_of_length_le (by rw [List.length_drop]; exact Nat.le_refl _)]
theorem hid_step {L : List (List UInt8 × Nat)} (h : (L.map Prod.fst).Nodup) {n j : Nat} (hj : n + j < L.length) :
    (fun y => if y = L[n + j].1 then none else hidF L n j y) = hidF L n (j + 1) ∧ (hidF L n j L[n + j].1).isSome = true := by
  have hd : j < (L.drop n).length := by rw [List.length_drop]; omega
  have e1 : (L.drop n)[j] = L[n + j] := List.getElem_drop ..
  have e2 : (L.drop n).take (j + 1) = (L.drop n).take j ++ [L[n + j]] := by rw [List.take_add_one, List.getElem?_eq_getElem hd, e1]; rfl
  have e3 : L = L.take n ++ ((L.drop n).take j ++ L[n + j] :: (L.drop n).drop (j + 1)) := by
    rw [← e1]
    conv => lhs; rw [← List.take_append_drop n L, ← List.take_append_drop j (L.drop n), List.drop_eq_getElem_cons hd]
  refine ⟨?_, ?_⟩
  · funext y
    unfold hidF
    rw [e2, List.map_append, List.map_singleton]
    by_cases hy : y = L[n + j].1
    · rw [if_pos hy, if_pos (by rw [hy]; simp)]
    · rw [if_neg hy]
      by_cases hm : y ∈ ((L.drop n).take j).map Prod.fst
      · rw [if_pos hm, if_pos (List.mem_append.2 (.inl hm))]
      · rw [if_neg hm, if_neg (fun e => by rcases List.mem_append.1 e with e | e; exact hm e; exact hy (List.mem_singleton.1 e))]
  · unfold hidF
    have hnm : L[n + j].1 ∉ ((L.drop n).take j).map Prod.fst := by
      intro hm
      have h2 := h
      rw [e3, List.map_append, List.map_append, List.nodup_append] at h2
      have h3 := h2.2.1
      rw [List.nodup_append] at h3
      exact h3.2.2 _ hm _ (by simp) rfl
    rw [if_neg hnm]
    cases hF : findL L L[n + j].1 with
    | some v => rfl
    | none => exact absurd (List.mem_map.2 ⟨_, List.getElem_mem hj, rfl⟩) (findL_none.1 hF)
theorem size_str (W : World) : (sizeOf (Tryd.prog.elem 73)).run Tryd.prog W = .ok 1 W := by
  obtain ⟨i0, hi, _, hz1, _⟩ := st_parts
  have he : Tryd.prog.elem 73 = 9 := by kernel_rfl
  rw [he]
  simp [sizeOf, typeInfo, hi, hz1, Sem.run_bind, Result.andThen]
theorem add_zero (a : Addr) : a.add 0 = a := by
  obtain ⟨b, o, p⟩ := a
  simp [Addr.add]
section
variable {w : World} {base : Nat} {na : Option Addr} {N nc : Nat} {ns : List (List UInt8)}
theorem NamesAt.cells (h : NamesAt w base (.slice na N nc) ns) (hN : N = ns.length) (h0 : 0 < N) : ∃ g, na = some ⟨g, 0, none⟩ ∧ ∀ i (hi : i < ns.length), w.cell? ⟨g, i, none⟩ = some (strV ns[i]) := by
  subst hN
  obtain ⟨g, cap, e, _⟩ := ownsRow_head h h0
  injection e with e1 _ e3
  subst e1 e3
  refine ⟨g, rfl, fun i hi => ?_⟩
  rw [World.ownsRow.cellAt (g := g) (cap := nc) h i (by omega), List.getElem?_map, List.getElem?_eq_getElem hi]
  rfl
set_option maxRecDepth 20000 in
theorem run_tailN (na : Option Addr) (n M nc : Nat) : ∃ a' c', (∀ W, (Instr.slice 73 (.slice na (n + M) nc) (some (.int .i64 (n : Int))) none none).run Tryd.prog W = .ok (.slice a' M c') W) ∧ (0 < M → n + M ≤ nc → a' = na.map (·.add n)) := by
  refine ⟨if nc = n then na else na.map (·.add (n * 1)), nc - n, fun W => ?_, fun h h2 => ?_⟩
  · rw [run_slice_l (P := Tryd.prog) (w := W) 73 na (n + M) nc Tryd.underlying73 .i64 n (by omega) (by omega), size_str]
    simp only [Result.andThen, sliced, Int.toNat_natCast]
    rw [Nat.add_sub_cancel_left]
  · rw [if_neg (by omega), Nat.mul_one]
set_option maxRecDepth 20000 in
theorem run_headN (na : Option Addr) (N n nc : Nat) (h : n ≤ nc) : ∀ W, (Instr.slice 73 (.slice na N nc) none (some (.int .i64 (n : Int))) none).run Tryd.prog W = .ok (.slice na n nc) W := by
  intro W
  rw [run_slice_h (P := Tryd.prog) (w := W) 73 na N nc Tryd.underlying73 .i64 n (by omega) (by omega), size_str]
  simp only [Result.andThen, sliced, Int.toNat_natCast, Nat.zero_mul, Nat.sub_zero]
  congr 2
  split
  · rfl
  · cases na with
    | none => rfl
    | some a => show some (a.add 0) = _; rw [add_zero]
theorem NamesAt.head (h : NamesAt w base (.slice na N nc) ns) (hN : N = ns.length) {n : Nat} (hn : n ≤ N) : NamesAt w base (.slice na n nc) (ns.take n) := by
  subst hN
  unfold NamesAt
  rw [List.length_take, Nat.min_eq_left hn, List.map_take]
  rcases Nat.eq_zero_or_pos ns.length with h0 | h0
  · have : n = 0 := by omega
    subst this
    obtain rfl := List.length_eq_zero_iff.1 h0
    exact h
  · obtain ⟨g, cap, e, _⟩ := ownsRow_head h h0
    injection e with e1 _ e3
    subst e1 e3
    have := ownsRow_cut h hn
    rw [Nat.mul_one] at this
    exact this
end
set_option maxRecDepth 20000 in
set_option maxHeartbeats 1000000 in
/-- Only the first so many are seen from now on. -/
theorem hide_any {w : World} {base gs : Nat} {L : List (List UInt8 × Nat)} {made : Nat} (h : Sc w base gs L made) (hnd : (L.map Prod.fst).Nodup) (hlen : ∀ p ∈ L, p.1.length ≤ 9223372036854775807) (hL : L.length ≤ 1000000) {n : Nat} (hn : n ≤ L.length) :
    Calls Tryd.prog 36 #[.pointer (some ⟨gs, 0, none⟩), .int .i64 n] w fun e w' => e = .returned (.tuple #[]) ∧ Sc w' base gs (L.take n) made ∧ Only (Fsc base w) w w' := by
  obtain ⟨b, nv, hs, hm, hnm, hbb, hgb⟩ := h
  have hbg : b ≠ gs := hm.ne_cells hs
  obtain ⟨ns, hns⟩ := exHid (L.map Prod.fst)
  obtain ⟨M, hM⟩ : ∃ M, L.length = n + M := ⟨L.length - n, by omega⟩
  have hLn : ns.length = n + M := by rw [← hns.out, List.length_map]; exact hM
  rw [hns.out] at hnm
  have hgl := (Array.getElem?_eq_some_iff.1 hs).1
  obtain ⟨na, nc, rfl, hn1, hn2⟩ := id hnm.shape
  rw [hLn] at hn1 hs hnm
  have c1 : w.cell? ⟨gs, 1, none⟩ = some (.slice na (n + M) nc) := by simp [World.cell?, hs]
  obtain ⟨a', c', hsl, ha'⟩ := run_tailN na n M nc
  have hsh := run_headN na (n + M) n nc (by omega)
  have hcl := fun h0 => hnm.cells hLn.symm h0
  have hnh := Lib.hid (hnm.head hLn.symm (Nat.le_add_right n M))
  have hownb : ∀ k, (Value.slice na (n + M) nc).ownBlock = some k → k ≠ b := by
    intro k hk e
    obtain ⟨_, _, cur, h3⟩ := hnm.block hk
    rw [e] at h3
    exact hm.ne_cells h3 rfl
  have hapart := Lib.hid (name_apart hnm hs)
  have hMM := Lib.hid hM
  replace ha' := Lib.hid ha'
  replace hcl := Lib.hid hcl
  replace hLn := Lib.hid hLn
  have hMb : M ≤ 1000000 := by omega
  replace hownb := Lib.hid hownb
  have hs0 := Lib.hid hs
  have M0 := Lib.hid hm
  replace hnd := Lib.hid hnd
  replace hlen := Lib.hid hlen
  have hnb : n + M ≤ 1000000 := by omega
  clear hm hs hnm hL hn hM
  go_enter Tryd.func36, Tryd.ntmps36
  go_wp2_with fail
  go_loopw [5, 13] (fun t5 t13 wr => ∃ j : Nat, j ≤ M ∧ t13 = .int .i64 j ∧ Hid (MapS Tryd.prog 9 3 wr b (hidF L n j) (n + M - j)) ∧ Hid (Only (fun k => k = b) w wr)) (fun _ t13 _ => M - (intOf t13).toNat)
  case atStart => exact ⟨0, by omega, rfl, Lib.hid (by rw [hidF_zero, Nat.sub_zero, ← hMM.out]; exact M0.out), Lib.hid (Only.refl _ _)⟩
  case round =>
    obtain ⟨j, hj, rfl, hmj, hoj⟩ := hrel
    have hsr := (hoj.out.block gs hgl (fun e => hbg e.symm)).trans hs0.out
    rcases Nat.lt_or_ge j M with hlt | hge
    · have hlti : (j : Int) < (M : Int) := by omega
      obtain ⟨g, rfl, hcc⟩ := hcl.out (by omega)
      have hnl := hLn.out
      have hjL : n + j < L.length := by have := hMM.out; omega
      have hgb' := hownb.out g rfl
      have hx : ns[n + j]'(by omega) = L[n + j].1 := by
        have := hns.out
        subst this
        simp
      have y0 := hcc (n + j) (by omega)
      rw [hx] at y0
      have ha2 := ha'.out (by omega) hn1
      have y1 : wr.cell? ⟨g, n + j, none⟩ = some (.string ⟨L[n + j].1.toArray⟩) := (hoj.out.cell (World.block_lt_of_cell? _ _ y0) hgb').trans y0
      simp only [Option.map_some, Addr.add, Nat.zero_add] at ha2
      have ha3 : a' = some ⟨g, n, none⟩ := by
        rw [ha2]
        by_cases h0 : n = 0
        · rw [if_pos h0, h0]
        · rw [if_neg h0]
      clear ha2
      subst ha3
      have hk := hlen.out L[n + j] (List.getElem_mem hjL)
      obtain ⟨hf1, hf2⟩ := hid_step hnd.out hjL
      have hcnt : n + M - j - 1 = n + M - (j + 1) := by omega
      obtain ⟨key, hkey⟩ := exHid L[n + j].1
      rw [hkey.out] at y1 hk hf1 hf2
      replace hf1 := Lib.hid hf1
      replace hf2 := Lib.hid hf2
      have x0 : wr.cell? ⟨gs, 0, none⟩ = some (.map (some b)) := by simp [World.cell?, hsr]
      clear hx hnl hjL hsr hkey hcc y0
      obtain ⟨w2, hrun, hm2, hg2⟩ := hmj.out.drop Tryd.underlying9 Tryd.underlying72 hk 0
      rw [hf1.out, hf2.out] at hm2
      simp only [↓reduceIte, hcnt] at hm2
      have ho2 := hoj.out.then (Only.of_grown (F := fun k => k = b) hg2 (fun k hk => by cases hk; rfl))
      replace hm2 := Lib.hid hm2
      replace ho2 := Lib.hid ho2
      clear hg2
      go_wp2_with fail
      go_roundw
      case rel => exact ⟨j + 1, by omega, by go_num, hm2, ho2⟩
      case measure => simp [intOf]; omega
    · obtain rfl : j = M := by omega
      have hlti : ¬ ((j : Int) < (j : Int)) := by omega
      have x1 : wr.cell? ⟨gs, 1, none⟩ = some (.slice na (n + j) nc) := by simp [World.cell?, hsr]
      have f1 : wr.frozen? ⟨gs, 1, none⟩ = false := by simp [World.frozen?, hsr]
      replace hsr := Lib.hid hsr
      have hne := hapart.out
      have hsT := scOnly wr gs 1 (.slice na n nc)
      have hmE := hmj.out
      have e1 : j = L.length - n := by have := hMM.out; omega
      have e2 : n + j - j = (L.take n).length := by rw [List.length_take]; have := hMM.out; omega
      have e3 : (L.take n).map Prod.fst = ns.take n := by rw [← hns.out, List.map_take]
      have hmF : MapS Tryd.prog 9 3 wr b (findL (L.take n)) (L.take n).length := by
        rw [← e2, ← hidF_end hnd.out n, ← e1]
        exact hmE
      have hnE : NamesAt wr base (.slice na n nc) (ns.take n) := ownsRow_only hnh.out hoj.out (fun g hg e => hownb.out g (by cases na <;> first | (simp [Value.ownBlock] at hg; done) | simpa [Value.ownBlock] using hg) e)
      have hfin : Sc (wr.setCell ⟨gs, 1, none⟩ (.slice na n nc)) base gs (L.take n) made := by
        refine ⟨b, .slice na n nc, ?_, hmF.kept hsT hbg, ?_, hbb, hgb⟩
        · have := heap_setCell_same wr gs 1 _ _ (.slice na n nc) hsr.out
          simpa using this
        · rw [e3]
          exact ownsRow_only hnE hsT (fun g hg e => by subst e; exact name_apart hnE hsr.out hg)
      have hofin : Only (Fsc base w) w (wr.setCell ⟨gs, 1, none⟩ (.slice na n nc)) := by
        refine hoj.out.trans (K := Fsc base w) hsT ?_ ?_
        · intro k _ e
          subst e
          exact ⟨hbb, fun c t fr hc => absurd rfl (M0.out.ne_cells hc)⟩
        · intro k _ e
          subst e
          refine ⟨hgb, fun c t fr hc => ?_⟩
          rw [hs0.out] at hc
          injection hc with hc
          injection hc with _ hc _
          exact .inl hc.symm
      replace hfin := Lib.hid hfin
      replace hofin := Lib.hid hofin
      clear hsT hmE e1 e2 e3 hmF hnE
      go_wp2_with fail
      refine bodyPost_end (results_none rfl _ _ _) rfl ?_
      exact ⟨rfl, hfin.out, hofin.out⟩
end Go.Proofs.YtefijbpbenmbgaaDoor
