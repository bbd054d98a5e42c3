/-
  List: a new list of a set's numbers, rising.
-/
import Derived.Test.YtknfakaklmpboaaSetsD
import Derived.Test.YtknfakaklmpboaaSetsE
namespace Go.Proofs.Ytknfakaklmpboaa
open Go.RowKit Go.Shelf Go SM
attribute [local go_sem] Oper.semAt_some

theorem info3 : (Try.prog.info? 3).map (fun i => (i.zero, i.size, i.bytes)) = some (some (.int .i64 0), 1, 8) := by kernel_rfl
def ints (l : List Nat) : List Value := l.map fun n : Nat => Value.int .i64 n

end Go.Proofs.Ytknfakaklmpboaa

