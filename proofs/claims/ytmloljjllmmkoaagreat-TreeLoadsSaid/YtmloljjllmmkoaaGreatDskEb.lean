/-
  A disk: Bad.
-/
import Derived.Test.YtmloljjllmmkoaaGreatMC
import Derived.Test.YtmloljjllmmkoaaGreatSX
import Derived.Shelf.SlMaps.Clone
import Derived.Lib.ConvBytes
import Derived.Lib.SliceRun
import Derived.OwnWalk
namespace Go.Proofs.YtmloljjllmmkoaaGreat
open Go.RowKit Go Go.Maps SM

section
variable {b g cap m : Nat} {B : ByteArray} {a : Int} {s : DS} {cur : Array Value} {D : DataW Unit} {w w' : World}

/-! ### Bad -/
theorem bit_mk (f : UInt8 → UInt8 → UInt8) (hf : f 0 0 = 0) (c : Bool → Bool → Bool) (h : ∀ x y k, k < 8 → (f x y).toNat.testBit k = c (x.toNat.testBit k) (y.toNat.testBit k)) (p q : List UInt8) (n : Nat) : bit (mk f p q) n = c (bit p n) (bit q n) := by
  simp only [bit, gd_mk f hf]
  exact h _ _ _ (Nat.mod_lt _ (by decide))
theorem bitI_one {n : Nat} (hn : n ≤ 65535) (k : Int) : bitI (ofL [(n : Int)]) k = decide (k = n) := by
  have hok : okI [(n : Int)] = true := by simp [okI]; omega
  unfold bitI
  by_cases h : 0 ≤ k
  · obtain ⟨j, rfl⟩ := Int.eq_ofNat_of_zero_le h
    rw [Int.toNat_natCast, bit_ofL hok]
    simp
  · simp [h]; omega
theorem bitI_bor (p q : List UInt8) (k : Int) : bitI (mk bor p q) k = (bitI p k || bitI q k) := by
  unfold bitI
  rw [bit_mk bor (by decide) (· || ·) (fun x y k _ => tb_bor x y k)]
  cases decide (0 ≤ k) <;> simp
theorem bitI_bsub (p q : List UInt8) (k : Int) : bitI (mk bsub p q) k = (bitI p k && !bitI q k) := by
  unfold bitI
  rw [bit_mk bsub (by decide) (fun x y => x && !y) (fun x y k hk => tb_bsub x y k hk)]
  cases decide (0 ≤ k) <;> simp
theorem ints_one (w : World) (n : Int) (t : TypeId) : IntsAt (w.alloc (.cells #[.int .i64 n] t)) (.slice (some ⟨w.heap.size, 0, none⟩) 1 1) [n] := by
  refine .inr ⟨w.heap.size, 0, 1, rfl, by simp, fun j hj => ?_⟩
  obtain rfl : j = 0 := by simpa using hj
  simp

end
end Go.Proofs.YtmloljjllmmkoaaGreat

