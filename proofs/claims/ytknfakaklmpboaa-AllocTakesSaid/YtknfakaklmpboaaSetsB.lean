/-
  bytes.TrimRight by one byte 0.
-/
import Derived.Test.YtknfakaklmpboaaSetsA
namespace Go.Proofs.Ytknfakaklmpboaa
open Go.RowKit Go SM

theorem ret_slice {p : Option Addr} {a b c : Nat} (h : a = b) : Ending.returned (.slice p a c) = .returned (.slice p b c) := by rw [h]
def sliceLen : Value → Nat
  | .slice _ n _ => n
  | _ => 0

theorem least_take_zero (bs : List UInt8) (j : Nat) (h : j < bs.length) (hz : gd bs j = 0) : least (bs.take (j + 1)) = least (bs.take j) := by
  rw [List.take_succ_eq_append_getElem h, least_snoc, if_pos (by rw [← gd_lt h]; exact hz)]
theorem least_take_self (bs : List UInt8) (j : Nat) (h : j < bs.length) (hz : gd bs j ≠ 0) : least (bs.take (j + 1)) = bs.take (j + 1) := by
  rw [List.take_succ_eq_append_getElem h, least_snoc, if_neg (by rw [← gd_lt h]; exact hz)]
theorem u8_ne {b : UInt8} (h : b ≠ 0) : ((b.toNat : Int) == 0) = false := by
  rw [beq_eq_false_iff_ne]; intro e; exact h (UInt8.toNat_inj.1 (by simpa using e))

end Go.Proofs.Ytknfakaklmpboaa

