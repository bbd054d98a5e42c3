/-
  The reference's Open of a volume.
-/
import Derived.Test.YtmloljjllmmkoaaGreatBE
import Derived.Test.YtmloljjllmmkoaaGreatBS
import Derived.Test.YtmloljjllmmkoaaGreatNL
namespace Go.Proofs.YtmloljjllmmkoaaGreat
open Go.RowKit Go Go.Maps SM

theorem rLen_at (x : ByteArray) (hx : 8 < x.size) : rLen x = (x[8]'hx).toNat := by
  unfold rLen
  have h1 : 8 < x.data.toList.length := by simpa using hx
  have : (x.data.toList.drop 8).take 1 = [x[8]'hx] := by
    rw [List.drop_eq_getElem_cons h1]
    simp
    rfl
  rw [this]
  simp [valN]
theorem index_eight (x : ByteArray) (hx : x.size = 64) (W : World) : (Instr.index 9 (.string x) (.int .i64 8)).run Tryz.prog W = .ok (.int .u8 (rLen x : Nat)) W := by
  have h8 : 8 < x.size := by omega
  have := run_index_string (P := Tryz.prog) (w := W) 9 x .i64 8 Tryz.underlying9
  rw [this, rLen_at x h8, dif_pos ⟨by omega, by omega⟩]
  rfl
section
variable {r base : Nat} {s : DS} {zs : List Int} {v0 v1 v2 : Value} {kp : ByteArray} {w w' : World}
theorem RVO.set1 {q r n c : Nat} {t t' : ByteArray} {dead : Bool} {w : World} (h : w.heap[q]? = some (RVO r t n c dead)) : (w.setCell ⟨q, 1, none⟩ (.string t')).heap[q]? = some (RVO r t' n c dead) := by
  rw [heap_set h]; rfl
theorem RVO.set2 {q r n n' c : Nat} {t : ByteArray} {dead : Bool} {w : World} (h : w.heap[q]? = some (RVO r t n c dead)) : (w.setCell ⟨q, 2, none⟩ (.int .i64 n')).heap[q]? = some (RVO r t n' c dead) := by
  rw [heap_set h]; rfl
end
end Go.Proofs.YtmloljjllmmkoaaGreat

