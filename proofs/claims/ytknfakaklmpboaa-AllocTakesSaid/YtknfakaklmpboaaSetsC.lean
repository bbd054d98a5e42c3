/-
  The iterator over two sets' bytes side by side.
-/
import Derived.RangeFuncNested
import Derived.RangeFuncBound
import Derived.RangeFuncCalls
import Derived.RangeFuncLeaves
import Derived.RangeFuncBox
import Derived.Shelf.Abstract
import Derived.Shelf.RegionOpen
import Derived.OwnWalkIn
import Derived.TacticsInMore
import Derived.LoopNIn
import Derived.LoopIn
import Derived.Maps.AppendAt
import Derived.Test.YtknfakaklmpboaaSetsB
namespace Go.Proofs.Ytknfakaklmpboaa
open Go.RowKit Go.Shelf Go SM
attribute [local go_sem] Oper.semAt_some

/-- THE BOXES THAT ARE KEPT: what each holds. -/
def KeepB (l : List (Nat × TypeId × Value)) (A B : World) : Prop := ∀ p ∈ l, Boxed A p.1 p.2.1 p.2.2 → Boxed B p.1 p.2.1 p.2.2
theorem KeepB.trans {l : List (Nat × TypeId × Value)} {A B C : World} (h1 : KeepB l A B) (h2 : KeepB l B C) : KeepB l A C := fun p hp h => h2 p hp (h1 p hp h)
theorem KeepB.refl {l : List (Nat × TypeId × Value)} {A : World} : KeepB l A A := fun _ _ h => h
theorem KeepB.put {l : List (Nat × TypeId × Value)} (W : World) (k : Nat) (o o' : Obj) (ho : W.heap[k]? = some o) (hc : o.isCells = false) : KeepB l W (W.putObj k o') := fun p _ h =>
  h.kept (grownBy_putObj' W k o') (fun e => by
    obtain rfl : p.1 = k := by simpa using e
    rw [show W.heap[p.1]? = _ from h] at ho; cases ho; cases hc)

abbrev encs2 (p : UInt8 × UInt8) : Array Value := #[.int .u8 p.1.toNat, .int .u8 p.2.toNat]
def pairsL (a b : List UInt8) : List (UInt8 × UInt8) := (List.range (max a.length b.length)).map fun i => (gd a i, gd b i)
theorem pairsL_length (a b : List UInt8) : (pairsL a b).length = max a.length b.length := by simp [pairsL]
theorem pairsL_take (a b : List UInt8) (k : Nat) (h : k < max a.length b.length) : (pairsL a b).take (k + 1) = (pairsL a b).take k ++ [(gd a k, gd b k)] := by
  rw [List.take_succ_eq_append_getElem (by rw [pairsL_length]; exact h)]
  simp [pairsL]

theorem grownBy_drew (W : World) : W.grownBy W.drew none := ⟨rfl, rfl, rfl, Nat.le_refl _, fun _ _ _ => rfl⟩

end Go.Proofs.Ytknfakaklmpboaa

