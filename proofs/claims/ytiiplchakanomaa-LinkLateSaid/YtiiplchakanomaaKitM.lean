/-
  A counting loop's end, free of the walk's own facts (as in FilNm).
-/
import Derived.Test.YtiiplchakanomaaKitL
namespace Go.Proofs.Ytiiplchakanomaa
open Go.RowKit Go
theorem intOf_int (k : IntKind) (z : Int) : intOf (.int k z) = z := rfl
theorem meas_v {t n : Nat} {u v : Value} (h : t < n) (hw : RowKit.wrap64 ((t : Int) + 1) = (t : Int) + 1) (hv : v = .int .i64 (RowKit.wrap64 ((t : Int) + 1))) (hu : u = .int .i64 t) : n - (intOf v).toNat < n - (intOf u).toNat := by
  subst hv; subst hu
  rw [intOf_int, intOf_int, hw]
  clear hw
  omega
theorem meas_u {t n : Nat} {u v : Value} (h : t < n) (hv : v = .int .i64 ((t : Int) + 1)) (hu : u = .int .i64 t) : n - (intOf v).toNat < n - (intOf u).toNat := by
  subst hv; subst hu
  rw [intOf_int, intOf_int]
  omega
theorem num_up {t : Nat} (hw : RowKit.wrap64 ((t : Int) + 1) = (t : Int) + 1) : Value.int .i64 (RowKit.wrap64 ((t : Int) + 1)) = .int .i64 ((t + 1 : Nat) : Int) := by rw [hw]; rfl
theorem wrap_up {t n : Nat} (h : t < n) (hn : n ≤ 9223372036854775807) : RowKit.wrap64 ((t : Int) + 1) = (t : Int) + 1 := by unfold RowKit.wrap64; omega
end Go.Proofs.Ytiiplchakanomaa

