/-
  What each law's statement needs besides its walk, in a seat of ONE listed type handle: what the listed variable's condition gives; a world for the witness; lists in structs.
-/
import Derived.Test.YtffebghkmobeoaaGreatDoorCards
import Derived.Test.YtffebghkmobeoaaGreatDoorTie
import Derived.Test.YtffebghkmobeoaaGreatDoorKitL
import Derived.Test.YtffebghkmobeoaaGreatDoorWirB
import Derived.Test.YtffebghkmobeoaaGreatDoorTabO
import Derived.LaidHandle
import Derived.LaidLaws
namespace Go.Proofs.YtffebghkmobeoaaGreatDoor
open Go.ChangeShapes Go.WideShapes Go.ChangeAt Go.RowKit Go

theorem et : Tryz.prog.globalNamed "errors.errorType" = some 0 := by kernel_rfl
theorem rtt : (Tryz.prog.cutTypes.find? (·.1 == "internal/reflectlite.rtype")).map (·.2) = some 142 := by kernel_rfl
theorem typesSize : Tryz.prog.types.size = 183 := by kernel_rfl
theorem oneRow : ((List.range 183).filter fun t => Tryz.prog.rowNamed t [101, 114, 114, 111, 114]) = [107] := by kernel_rfl
/-- what the condition gives a walk: the variable's one cell -/
theorem handle_of_laid {W : World} (h : laidMetH Tryz.prog Rows.tableSnapsRow.laid W) : GE W := by
  have h' : laidMet Tryz.prog [] W ∧ handlesMet Tryz.prog Rows.tableSnapsRow.laid W := h
  obtain ⟨name, u, ty, e1, e2, e3, e4, e5⟩ := h'.2 _ (List.mem_singleton.2 rfl)
  have en : name = [101, 114, 114, 111, 114] := (Option.some.inj e1).symm
  subst en
  obtain rfl := Option.some.inj (rtt.symm.trans e2)
  have hm : ty ∈ (List.range 183).filter fun t => Tryz.prog.rowNamed t [101, 114, 114, 111, 114] := List.mem_filter.2 ⟨List.mem_range.2 (by rw [← typesSize]; exact e3), e4⟩
  rw [oneRow] at hm
  obtain rfl := List.mem_singleton.1 hm
  have hh : typeHandle Tryz.prog 107 = .pointer (some ⟨2, 107, none⟩) := by kernel_rfl
  rw [hh] at e5
  have := World.var?_cell et e5 0
  simpa [GE] using this
/-- a world for the witness: the variable's cell laid -/
noncomputable def laidWorldH (os : Os) : World :=
  { World.holding Tryz.prog os ⟨#[], #[], []⟩ with heap := (World.holding Tryz.prog os ⟨#[], #[], []⟩).heap.modify 0 fun
      | .cells _ t frozen => .cells #[rty 107] t frozen
      | o => o }
theorem laid_metH (os : Os) (args : Array Value) : laidMetH Tryz.prog Rows.tableSnapsRow.laid ((laidWorldH os).forCall (fun _ _ => 0) ⟨#[], args, []⟩).memory :=
  laidMetH_of_parts (laidMet_nil _ _) (by kernel_rfl)
theorem weights_of {H : Type} {ts : List TypeId} {ds : List (DataW H)} {t : TypeId} {d : DataW H} {j : Nat} (hreach : (DataW.weightsEach Tryz.prog ts ds).all (· ≤ reachBytes) = true) (hts : ts[j]? = some t) (hds : ds[j]? = some d) : ∀ m ∈ DataW.weights Tryz.prog t d, m ≤ reachBytes := fun m hm => by
  have := List.all_eq_true.1 hreach _ (DataW.weights_mem_each hts hds m hm)
  simpa using this
end Go.Proofs.YtffebghkmobeoaaGreatDoor

