/-
  A blob as an argument, by value.
-/
import Derived.Test.YtmloljjllmmkoaaGreatMA
import Derived.Lib.SmallJoins
namespace Go.Proofs.YtmloljjllmmkoaaGreat
open Go.ChangeShapes Go.WideShapes Go.ChangeAt Go.RowKit Go
set_option maxRecDepth 100000 in
theorem blob_open {H : Type} {enc : TypeId × Value → H} {W : World} {base : Nat} {v : Value} {d : DataW H} {p : List MemPlace}
    (hval : Value.okWide Tryz.prog W .any base 24 v) (h0 : DataW.Trod enc Tryz.prog W 0 (fun _ => true) true 24 v d p) :
    ∃ (b f : Int), v = .agg #[.int .i64 b, .int .i64 f] ∧ (-9223372036854775808 ≤ b ∧ b ≤ 9223372036854775807) ∧ (-9223372036854775808 ≤ f ∧ f ≤ 9223372036854775807) ∧ p = [] ∧ ∀ (W' : World) (sp : Nat → Bool), DataW.Trod enc Tryz.prog W' 0 sp true 24 v d [] := by
  obtain ⟨v1, v2, y1, y2, n, rfl, rfl, rfl, g1, g2⟩ := Joins.open_agg2 Tryz.underlying24 (by kernel_rfl) (by kernel_rfl) hval h0
  obtain ⟨n1, e1, z1, w1⟩ := DataW.trod_int Tryz.underlying3 g1
  obtain ⟨n2, e2, z2, w2⟩ := DataW.trod_int Tryz.underlying3 g2
  simp only [List.cons.injEq, and_true] at e1 e2
  subst e1 e2 z1 z2
  refine ⟨n1, n2, rfl, int_range w1, int_range w2, by simp, fun W' sp => ?_⟩
  exact Joins.shut_agg2 (y0 := (.lit (.int .i64 n1), [])) (y1 := (.lit (.int .i64 n2), [])) Tryz.underlying24 (by kernel_rfl) (by kernel_rfl)
    (Joins.field_of_Trod (shut_int Tryz.underlying3 w1) rfl) (Joins.field_of_Trod (shut_int Tryz.underlying3 w2) rfl)
end Go.Proofs.YtmloljjllmmkoaaGreat

