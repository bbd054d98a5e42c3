/-
  A text's copy (strings.Clone), of any size.
-/
import Derived.Test.YtmloljjllmmkoaaDoorCmdLs
import Derived.Test.YtmloljjllmmkoaaDoorKitW
namespace Go.Proofs.YtmloljjllmmkoaaDoor
open Go.RowKit Go
theorem clone_any (s : ByteArray) (hs : s.size ≤ 281474976710656) (w : World) :
    Calls Tryd.prog 21 #[.string s] w fun e w' => e = .returned (.string s) ∧ Below w.heap.size w w' := by
  have C := fun w => Any.stringslite_Clone Tryd.laysM316 s w hs
  go_enter Tryd.func21, Tryd.ntmps21
  go_wp2_with fail
  refine (C _).mono ?_
  rintro e w' ⟨rfl, hB⟩
  go_wp2_with fail
  go_ret
  exact ⟨rfl, hB⟩
end Go.Proofs.YtmloljjllmmkoaaDoor

