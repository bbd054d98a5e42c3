/-
  What is asked of a pool, as an argument: a text and three numbers, by value.
-/
import Derived.Test.YtknfakaklmpboaaKitL
import Derived.Lib.SmallJoins
namespace Go.Proofs.Ytknfakaklmpboaa
open Go.ChangeShapes Go.WideShapes Go.ChangeAt Go.RowKit Go
/-- what is asked, as a value -/
def askV (u : ByteArray) (b f m : Int) : Value := .agg #[.string u, .int .i64 b, .int .i64 f, .int .i64 m]
structure AskOk (u : ByteArray) (b f m : Int) : Prop where
  size : u.size ≤ 140737488351232
  blocks : IntOk b
  place : IntOk f
  many : IntOk m
set_option maxRecDepth 100000 in
theorem ask_open {H : Type} {enc : TypeId × Value → H} {W : World} {base : Nat} {v : Value} {d : DataW H} {p : List MemPlace}
    (hval : Value.okWide Try.prog W .any base 23 v) (h0 : DataW.Trod enc Try.prog W 0 (fun _ => true) true 23 v d p)
    {ts : List TypeId} {ds : List (DataW H)} {j : Nat} (hreach : (DataW.weightsEach Try.prog ts ds).all (· ≤ reachBytes) = true) (hts : ts[j]? = some 23) (hds : ds[j]? = some d) :
    ∃ (u : ByteArray) (b f m : Int), v = askV u b f m ∧ AskOk u b f m ∧ p = [] ∧ ∀ (W' : World) (sp : Nat → Bool), DataW.Trod enc Try.prog W' 0 sp true 23 v d [] := by
  obtain ⟨v0, v1, v2, v3, y0, y1, y2, y3, n, rfl, rfl, rfl, g0, g1, g2, g3⟩ := Joins.open_agg4 Try.underlying23 (by kernel_rfl) (by kernel_rfl) hval h0
  obtain ⟨s, e0, z0, w0⟩ := DataW.trod_string Try.underlying9 g0
  obtain ⟨n1, e1, z1, w1⟩ := DataW.trod_int Try.underlying3 g1
  obtain ⟨n2, e2, z2, w2⟩ := DataW.trod_int Try.underlying3 g2
  obtain ⟨n3, e3, z3, w3⟩ := DataW.trod_int Try.underlying3 g3
  simp only [List.cons.injEq, and_true] at e0 e1 e2 e3
  subst e0 e1 e2 e3 z0 z1 z2 z3
  have hs : s.data.toList.length ≤ reachBytes := by
    have := List.all_eq_true.1 hreach _ (DataW.weights_mem_each hts hds s.data.toList.length (by
      simp only [DataW.weights, Try.underlying23]
      exact DataW.weights_mem_each (j := 0) (t := 9) (d := .lit (.string s.data.toList)) rfl rfl _ (by simp [DataW.weights])))
    simpa using this
  refine ⟨s, n1, n2, n3, rfl, ⟨reach_size hs, int_range w1, int_range w2, int_range w3⟩, by simp, fun W' sp => ?_⟩
  exact Joins.shut_agg4 (y0 := (.lit (.string s.data.toList), [])) (y1 := (.lit (.int .i64 n1), [])) (y2 := (.lit (.int .i64 n2), [])) (y3 := (.lit (.int .i64 n3), [])) Try.underlying23 (by kernel_rfl) (by kernel_rfl)
    (Joins.field_of_Trod (Go.ChangeMaps.shut_string Try.underlying9 w0) rfl) (Joins.field_of_Trod (shut_int Try.underlying3 w1) rfl) (Joins.field_of_Trod (shut_int Try.underlying3 w2) rfl) (Joins.field_of_Trod (shut_int Try.underlying3 w3) rfl)
end Go.Proofs.Ytknfakaklmpboaa

