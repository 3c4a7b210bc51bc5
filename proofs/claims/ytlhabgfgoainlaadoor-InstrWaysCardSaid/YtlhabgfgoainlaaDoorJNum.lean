/- Small plain facts for the walks of the heap, over Num: no program stands in them, no condition. -/
import Derived.Test.YtlhabgfgoainlaaDoorNum
import Derived.Lib.Hide
namespace Go.Proofs.YtlhabgfgoainlaaDoor
open Go.RowKit

theorem wf_of_i64 {a : Int} (h : I64 a) : (Lit.int .i64 a).wf = true := by
  obtain ⟨h1, h2⟩ := h
  simp [Lit.wf, IntKind.min, IntKind.max, IntKind.signed, IntKind.bits]
  omega
/-- What the newest block holds. -/
theorem cell_top {W : World} {c : Array Value} {t : TypeId} {n j : Nat} {v : Value} (h : n = W.heap.size) (hv : c[j]? = some v) : (W.alloc (.cells c t)).cell? ⟨n, j, none⟩ = some v := by
  subst h
  rw [World.cell?_alloc_new]
  exact hv
theorem cell_top_drew {W : World} {c : Array Value} {t : TypeId} {n j : Nat} {v : Value} (h : n = W.heap.size) (hv : c[j]? = some v) : (W.alloc (.cells c t)).drew.cell? ⟨n, j, none⟩ = some v := cell_top h hv

/-- Which of two numbers is less: below 0, 0, above 0. -/
def cmpI (a b : Int) : Int := if a < b then -1 else if b < a then 1 else 0
/-- The first one that is not 0. -/
def orI (a b : Int) : Int := if a = 0 then b else a
/-- Which of two pairs comes first. -/
def ordI (k1 n1 k2 n2 : Int) : Int := orI (cmpI k1 k2) (cmpI n1 n2)
/-- A pair is ahead of another one. -/
def lexLt (k1 n1 k2 n2 : Int) : Prop := k1 < k2 ∨ (k1 = k2 ∧ n1 < n2)
theorem ordI_neg (k1 n1 k2 n2 : Int) : ordI k1 n1 k2 n2 < 0 ↔ lexLt k1 n1 k2 n2 := by
  unfold ordI orI cmpI lexLt
  (repeat' split) <;> constructor <;> intro h <;> omega
theorem ordI_range (k1 n1 k2 n2 : Int) : -1 ≤ ordI k1 n1 k2 n2 ∧ ordI k1 n1 k2 n2 ≤ 1 := by
  unfold ordI orI cmpI
  (repeat' split) <;> omega
end Go.Proofs.YtlhabgfgoainlaaDoor
