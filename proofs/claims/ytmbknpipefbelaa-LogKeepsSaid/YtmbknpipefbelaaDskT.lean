/-
  The law's own text of a byte.
-/
import Derived.Test.YtmbknpipefbelaaDskO
import Derived.LoopNIn
namespace Go.Proofs.Ytmbknpipefbelaa
open Go.RowKit Go Go.Maps SM

/-- how many bytes -/
def secN (more : Int) : Nat := (64 + max (-64) (min more 136)).toNat
def sec (c : UInt8) (more : Int) : ByteArray := ⟨(List.replicate (secN more) c).toArray⟩
theorem size_sec (c : UInt8) (more : Int) : (sec c more).size = secN more := by simp [sec, ByteArray.size]
theorem secN_le (more : Int) : secN more ≤ 200 := by unfold secN; omega
theorem secN_zero : secN 0 = 64 := by decide

theorem row_step (c : UInt8) (N k : Nat) (h : k < N) : (List.replicate k c ++ List.replicate (N - k) (0 : UInt8)).set k c = List.replicate (k + 1) c ++ List.replicate (N - (k + 1)) 0 := by
  rw [List.set_append_right _ _ (by simp), List.length_replicate, Nat.sub_self, show N - k = (N - (k + 1)) + 1 by omega, List.replicate_succ, List.set_cons_zero, List.replicate_succ', List.append_assoc]
  rfl

end Go.Proofs.Ytmbknpipefbelaa
