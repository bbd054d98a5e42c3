/-
  The nearest message that may be.
-/
import Derived.Test.YtgeggiafjojgdaaDoorFrmB
namespace Go.Proofs.YtgeggiafjojgdaaDoor
open Go.RowKit Go

set_option maxRecDepth 100000 in
set_option maxHeartbeats 8000000 in
theorem nearest_any (f : Fr) (hf : FrIn f) (w : World) :
    Calls Tryd.prog 23 #[frV f] w fun e w' => e = .returned (frV (nearF f)) ∧ Below w.heap.size w w' := by
  sorry
end Go.Proofs.YtgeggiafjojgdaaDoor

