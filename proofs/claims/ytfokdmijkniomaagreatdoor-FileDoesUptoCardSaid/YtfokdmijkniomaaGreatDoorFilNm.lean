/-
  A path's names, one more; how often each node is named, name by name: on values. A slice of counts.
-/
import Derived.Test.YtfokdmijkniomaaGreatDoorFilNs
import Derived.Test.YtfokdmijkniomaaGreatDoorFilFr
import Derived.Test.YtfokdmijkniomaaGreatDoorC4
import Derived.OwnWalk
import Derived.Deep.CutRange
namespace Go.Proofs.YtfokdmijkniomaaGreatDoor
open Go.RowKit Go Go.Maps

section
variable {T : List Nod}
end

/-! ### A slice of counts -/
def intsO (n : Nat) (f : Nat → Int) : Obj := .cells ((List.range n).map (fun i => Value.int .i64 (f i))).toArray 3 (0, 0)
def updN (f : Nat → Int) (j : Nat) (v : Int) : Nat → Int := fun i => if i = j then v else f i
section
variable {w : World} {p i n : Nat} {f : Nat → Int}
theorem intsO.cell (h : w.heap[p]? = some (intsO n f)) (hi : i < n) : w.cell? ⟨p, i, none⟩ = some (.int .i64 (f i)) := by simp [World.cell?, h, intsO, hi]
theorem intsO.fr (h : w.heap[p]? = some (intsO n f)) (i : Nat) : w.frozen? ⟨p, i, none⟩ = false := by simp [World.frozen?, h, intsO]
theorem intsO.set (h : w.heap[p]? = some (intsO n f)) (v : Int) : (w.setCell ⟨p, i, none⟩ (.int .i64 v)).heap[p]? = some (intsO n (updN f i v)) := by
  rw [heap_set h]
  unfold intsO
  simp only [List.setIfInBounds_toArray]
  congr 3
  apply List.ext_getElem
  · simp
  · intro j h1 h2
    simp only [List.getElem_set, List.getElem_map, List.getElem_range, updN]
    by_cases e : i = j
    · subst e; simp
    · rw [if_neg e, if_neg (fun h => e h.symm)]
end

theorem intOf_int (k : IntKind) (z : Int) : intOf (.int k z) = z := rfl
theorem meas_v {t n : Nat} {u v : Value} (h : t < n) (hw : RowKit.wrap64 ((t : Int) + 1) = (t : Int) + 1) (hv : v = .int .i64 (RowKit.wrap64 ((t : Int) + 1))) (hu : u = .int .i64 t) : n - (intOf v).toNat < n - (intOf u).toNat := by
  subst hv; subst hu
  rw [intOf_int, intOf_int, hw]
  clear hw
  omega
theorem meas_u {t n : Nat} {u v : Value} (h : t < n) (hv : v = .int .i64 ((t : Int) + 1)) (hu : u = .int .i64 t) : n - (intOf v).toNat < n - (intOf u).toNat := by
  subst hv; subst hu
  rw [intOf_int, intOf_int]
  omega
theorem num_up {t : Nat} (hw : RowKit.wrap64 ((t : Int) + 1) = (t : Int) + 1) : Value.int .i64 (RowKit.wrap64 ((t : Int) + 1)) = .int .i64 ((t + 1 : Nat) : Int) := by rw [hw]; rfl
theorem w64_cnt {z : Int} (h0 : 0 ≤ z) (h1 : z ≤ 2000000000000000000) : RowKit.wrap64 (z + 1) = z + 1 := by
  simp [RowKit.wrap64]; omega
section
variable {w w' : World} {c m : Nat} {P : Int → Nat} {G : Int → Option Nat} {T : List Nod} {D : DataW Unit}
end
end Go.Proofs.YtfokdmijkniomaaGreatDoor

