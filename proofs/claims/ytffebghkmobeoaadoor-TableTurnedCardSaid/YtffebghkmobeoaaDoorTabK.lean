/-
  What each law's statement needs besides its walk, in a seat of ONE listed type handle: what the listed variable's condition gives; a world for the witness; lists in structs.
-/
import Derived.Test.YtffebghkmobeoaaDoorCards
import Derived.Test.YtffebghkmobeoaaDoorTie
import Derived.Test.YtffebghkmobeoaaDoorKitL
import Derived.Test.YtffebghkmobeoaaDoorWirB
import Derived.Test.YtffebghkmobeoaaDoorTabO
import Derived.LaidHandle
import Derived.LaidLaws
namespace Go.Proofs.YtffebghkmobeoaaDoor
open Go.ChangeShapes Go.WideShapes Go.ChangeAt Go.RowKit Go

theorem et : Tryd.prog.globalNamed "errors.errorType" = some 1 := by kernel_rfl
theorem rtt : (Tryd.prog.cutTypes.find? (·.1 == "internal/reflectlite.rtype")).map (·.2) = some 149 := by kernel_rfl
theorem typesSize : Tryd.prog.types.size = 190 := by kernel_rfl
theorem oneRow : ((List.range 190).filter fun t => Tryd.prog.rowNamed t [101, 114, 114, 111, 114]) = [118] := by kernel_rfl
/-- what the condition gives a walk: the variable's one cell -/
theorem handle_of_laid {W : World} (h : laidMetH Tryd.prog Rows.tableSizesRow.laid W) : GE W := by
  have h' : laidMet Tryd.prog [] W ∧ handlesMet Tryd.prog Rows.tableSizesRow.laid W := h
  obtain ⟨name, u, ty, e1, e2, e3, e4, e5⟩ := h'.2 _ (List.mem_singleton.2 rfl)
  have en : name = [101, 114, 114, 111, 114] := (Option.some.inj e1).symm
  subst en
  obtain rfl := Option.some.inj (rtt.symm.trans e2)
  have hm : ty ∈ (List.range 190).filter fun t => Tryd.prog.rowNamed t [101, 114, 114, 111, 114] := List.mem_filter.2 ⟨List.mem_range.2 (by rw [← typesSize]; exact e3), e4⟩
  rw [oneRow] at hm
  obtain rfl := List.mem_singleton.1 hm
  have hh : typeHandle Tryd.prog 118 = .pointer (some ⟨2, 118, none⟩) := by kernel_rfl
  rw [hh] at e5
  have := World.var?_cell et e5 0
  simpa [GE] using this
/-- a world for the witness: the variable's cell laid -/
noncomputable def laidWorldH (os : Os) : World :=
  { World.holding Tryd.prog os ⟨#[], #[], []⟩ with heap := (World.holding Tryd.prog os ⟨#[], #[], []⟩).heap.modify 1 fun
      | .cells _ t frozen => .cells #[rty 118] t frozen
      | o => o }
theorem laid_metH (os : Os) (args : Array Value) : laidMetH Tryd.prog Rows.tableSizesRow.laid ((laidWorldH os).forCall (fun _ _ => 0) ⟨#[], args, []⟩).memory :=
  laidMetH_of_parts (laidMet_nil _ _) (by kernel_rfl)
theorem weights_of {H : Type} {ts : List TypeId} {ds : List (DataW H)} {t : TypeId} {d : DataW H} {j : Nat} (hreach : (DataW.weightsEach Tryd.prog ts ds).all (· ≤ reachBytes) = true) (hts : ts[j]? = some t) (hds : ds[j]? = some d) : ∀ m ∈ DataW.weights Tryd.prog t d, m ≤ reachBytes := fun m hm => by
  have := List.all_eq_true.1 hreach _ (DataW.weights_mem_each hts hds m hm)
  simpa using this
end Go.Proofs.YtffebghkmobeoaaDoor

