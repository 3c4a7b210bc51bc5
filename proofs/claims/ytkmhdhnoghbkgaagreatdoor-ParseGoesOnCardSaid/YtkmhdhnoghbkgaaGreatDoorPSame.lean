/- The grammar of layer 9, plain: what is read hangs on the tokens' kinds, texts and numbers alone. No condition. -/
import Derived.Test.YtkmhdhnoghbkgaaGreatDoorQ03
set_option linter.unusedVariables false
namespace Go.Proofs.YtkmhdhnoghbkgaaGreatDoor
open Go.RowKit Tok

def keyT (x : Tk) : Nat × List UInt8 × Nat := (x.kind, x.text, x.num)
theorem markT_same {ks ls : List Tk} (h : ks.map keyT = ls.map keyT) : markT ks = markT ls := by
  funext i
  have hi : (ks.map keyT)[i]? = (ls.map keyT)[i]? := by rw [h]
  rw [List.getElem?_map, List.getElem?_map] at hi
  unfold markT
  cases hk : ks[i]? with
  | none =>
    cases hl : ls[i]? with
    | none => rfl
    | some y => rw [hk, hl] at hi; cases hi
  | some x =>
    cases hl : ls[i]? with
    | none => rw [hk, hl] at hi; cases hi
    | some y =>
      rw [hk, hl] at hi
      have h2 : keyT x = keyT y := by simpa using hi
      unfold keyT at h2
      injection h2 with e1 h2
      injection h2 with e2 e3
      dsimp only
      rw [e1, e2]
theorem ownT_same {ks ls : List Tk} (h : ks.map keyT = ls.map keyT) : ownT ks = ownT ls := by
  funext i
  have hi : (ks.map keyT)[i]? = (ls.map keyT)[i]? := by rw [h]
  rw [List.getElem?_map, List.getElem?_map] at hi
  unfold ownT
  cases hk : ks[i]? with
  | none =>
    cases hl : ls[i]? with
    | none => rfl
    | some y => rw [hk, hl] at hi; cases hi
  | some x =>
    cases hl : ls[i]? with
    | none => rw [hk, hl] at hi; cases hi
    | some y =>
      rw [hk, hl] at hi
      have h2 : keyT x = keyT y := by simpa using hi
      unfold keyT at h2
      injection h2 with e1 h2
      injection h2 with e2 e3
      dsimp only
      rw [e1, e2]
theorem wantT_same {ks ls : List Tk} (h : ks.map keyT = ls.map keyT) : wantT ks = wantT ls := by
  funext m i
  unfold wantT
  rw [markT_same h]
theorem gP_same {ks ls : List Tk} (h : ks.map keyT = ls.map keyT) : gP ks = gP ls := by
  have hm := markT_same h
  have ho := ownT_same h
  have hw := wantT_same h
  have hM : gM ks = gM ls := by
    funext G m i
    unfold gM
    rw [ho, hw]
  funext f
  induction f with
  | zero => rfl
  | succ f ih =>
    funext q i
    cases q
    case prim =>
      unfold gP
      dsimp only
      rw [hm, hM, ih]
      have hi : (ks.map keyT)[i]? = (ls.map keyT)[i]? := by rw [h]
      rw [List.getElem?_map, List.getElem?_map] at hi
      cases hk : ks[i]? with
      | none =>
        cases hl : ls[i]? with
        | none => rfl
        | some y => rw [hk, hl] at hi; cases hi
      | some x =>
        cases hl : ls[i]? with
        | none => rw [hk, hl] at hi; cases hi
        | some y =>
          rw [hk, hl] at hi
          have h2 : keyT x = keyT y := by simpa using hi
          unfold keyT at h2
          injection h2 with e1 h2
          injection h2 with e2 e3
          dsimp only
          rw [e1, e2, e3]
    all_goals
      unfold gP
      dsimp only
      simp only [hm, ho, hw, ih]
end Go.Proofs.YtkmhdhnoghbkgaaGreatDoor
