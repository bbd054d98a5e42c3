/-
  What each law's statement needs besides its walk, in a seat of ONE listed type handle; a message as an argument, by value.
-/
import Derived.Test.YtgeggiafjojgdaaDoorCards
import Derived.Test.YtgeggiafjojgdaaDoorTie
import Derived.Test.YtgeggiafjojgdaaDoorKitL
import Derived.Test.YtgeggiafjojgdaaDoorWirB
import Derived.Test.YtgeggiafjojgdaaDoorFrmMath
import Derived.Lib.SmallJoins
import Derived.LaidHandle
import Derived.LaidLaws
namespace Go.Proofs.YtgeggiafjojgdaaDoor
open Go.ChangeShapes Go.WideShapes Go.ChangeAt Go.RowKit Go

theorem et : Tryd.prog.globalNamed "errors.errorType" = some 0 := by kernel_rfl
theorem rtt : (Tryd.prog.cutTypes.find? (·.1 == "internal/reflectlite.rtype")).map (·.2) = some 101 := by kernel_rfl
theorem typesSize : Tryd.prog.types.size = 143 := by kernel_rfl
theorem oneRow : ((List.range 143).filter fun t => Tryd.prog.rowNamed t [101, 114, 114, 111, 114]) = [65] := by kernel_rfl
/-- what the condition gives a walk: the variable's one cell -/
theorem handle_of_laid {W : World} (h : laidMetH Tryd.prog Rows.frameSealsRow.laid W) : GE W := by
  have h' : laidMet Tryd.prog [] W ∧ handlesMet Tryd.prog Rows.frameSealsRow.laid W := h
  obtain ⟨name, u, ty, e1, e2, e3, e4, e5⟩ := h'.2 _ (List.mem_singleton.2 rfl)
  have en : name = [101, 114, 114, 111, 114] := (Option.some.inj e1).symm
  subst en
  obtain rfl := Option.some.inj (rtt.symm.trans e2)
  have hm : ty ∈ (List.range 143).filter fun t => Tryd.prog.rowNamed t [101, 114, 114, 111, 114] := List.mem_filter.2 ⟨List.mem_range.2 (by rw [← typesSize]; exact e3), e4⟩
  rw [oneRow] at hm
  obtain rfl := List.mem_singleton.1 hm
  have hh : typeHandle Tryd.prog 65 = .pointer (some ⟨1, 65, none⟩) := by kernel_rfl
  rw [hh] at e5
  have := World.var?_cell et e5 0
  simpa [GE] using this
/-- a world for the witness: the variable's cell laid -/
noncomputable def laidWorldH (os : Os) : World :=
  { World.holding Tryd.prog os ⟨#[], #[], []⟩ with heap := (World.holding Tryd.prog os ⟨#[], #[], []⟩).heap.modify 0 fun
      | .cells _ t frozen => .cells #[rty 65] t frozen
      | o => o }
theorem laid_metH (os : Os) (args : Array Value) : laidMetH Tryd.prog Rows.frameSealsRow.laid ((laidWorldH os).forCall (fun _ _ => 0) ⟨#[], args, []⟩).memory :=
  laidMetH_of_parts (laidMet_nil _ _) (by kernel_rfl)
def frD {H : Type} (c : Fr) : DataW H := .agg [.lit (.int .i64 c.kind), .lit (.int .i64 c.ses), .lit (.int .i64 c.seq), .lit (.string c.body.data.toList)]
theorem array4 {α : Type} {cs : Array α} (h : cs.size = 4) : ∃ c0 c1 c2 c3, cs = #[c0, c1, c2, c3] := by
  obtain ⟨l⟩ := cs
  match l, h with
  | [c0, c1, c2, c3], _ => exact ⟨c0, c1, c2, c3, rfl⟩
set_option maxRecDepth 100000 in
theorem fr_open {H : Type} {enc : TypeId × Value → H} {W : World} {base : Nat} {v : Value} {d : DataW H} {p : List MemPlace}
    (hval : Value.okWide Tryd.prog W .any base 23 v) (h0 : DataW.Trod enc Tryd.prog W 0 (fun _ => true) true 23 v d p)
    {ts : List TypeId} {ds : List (DataW H)} {j : Nat} (hreach : (DataW.weightsEach Tryd.prog ts ds).all (· ≤ reachBytes) = true) (hts : ts[j]? = some 23) (hds : ds[j]? = some d) :
    ∃ c : Fr, v = frV c ∧ FrIn c ∧ p = [] ∧ (∀ (W' : World) (sp : Nat → Bool), DataW.Trod enc Tryd.prog W' 0 sp true 23 v d []) ∧ d = frD c := by
  obtain ⟨cs, rfl, hsz⟩ := okWide_struct Tryd.underlying23 hval
  obtain ⟨v0, v1, v2, v3, rfl⟩ := array4 (hsz.trans (show Tryd.prog.cellsOf 23 = 4 by kernel_rfl))
  obtain ⟨fuel, hf⟩ := h0
  obtain ⟨xs, n, _, hx, hl, hlen, hfs⟩ := DataW.trod_struct Tryd.underlying23 hf
  have ci : Tryd.prog.cellsOf 3 = 1 := by kernel_rfl
  have cs : Tryd.prog.cellsOf 9 = 1 := by kernel_rfl
  match xs, hlen, hx, hfs with
  | [y0, y1, y2, y3], _, hx, hfs =>
    have g0 := hfs 0 _ rfl
    have g1 := hfs 1 _ rfl
    have g2 := hfs 2 _ rfl
    have g3 := hfs 3 _ rfl
    simp [Value.cells, ci, cs] at g0 g1 g2 g3
    obtain ⟨n0, a0, z0, w0⟩ := DataW.trod_int Tryd.underlying3 g0
    obtain ⟨n1, a1, z1, w1⟩ := DataW.trod_int Tryd.underlying3 g1
    obtain ⟨n2, a2, z2, w2⟩ := DataW.trod_int Tryd.underlying3 g2
    obtain ⟨s3, a3, z3, w3⟩ := DataW.trod_string Tryd.underlying9 g3
    simp only [List.cons.injEq, and_true] at a0 a1 a2 a3
    subst a0 a1 a2 a3 z0 z1 z2 z3
    simp at hx
    obtain ⟨rfl, rfl⟩ := hx
    have key : (DataW.weightsEach Tryd.prog [3, 3, 3, 9] [DataW.lit (H := H) (.int .i64 n0), .lit (.int .i64 n1), .lit (.int .i64 n2), .lit (.string s3.data.toList)]).all (· ≤ reachBytes) = true := by
      refine List.all_eq_true.2 fun m hm => ?_
      have := List.all_eq_true.1 hreach m (DataW.weights_mem_each hts hds m (by
        simp only [DataW.weights, Tryd.underlying23]
        exact hm))
      exact this
    refine ⟨⟨n0, n1, n2, s3⟩, rfl, ⟨int_range w0, int_range w1, int_range w2, reach_size (sized_string key (j := 3) rfl rfl)⟩, rfl, fun W' sp => ?_, rfl⟩
    obtain ⟨m0, t0⟩ := Joins.field_of_Trod (enc := enc) (P := Tryd.prog) (w := W') (base := 0) (spare := sp) (held := true) (shut_int Tryd.underlying3 w0) rfl
    obtain ⟨m1, t1⟩ := Joins.field_of_Trod (enc := enc) (P := Tryd.prog) (w := W') (base := 0) (spare := sp) (held := true) (shut_int Tryd.underlying3 w1) rfl
    obtain ⟨m2, t2⟩ := Joins.field_of_Trod (enc := enc) (P := Tryd.prog) (w := W') (base := 0) (spare := sp) (held := true) (shut_int Tryd.underlying3 w2) rfl
    obtain ⟨m3, t3⟩ := Joins.field_of_Trod (enc := enc) (P := Tryd.prog) (w := W') (base := 0) (spare := sp) (held := true) (Go.ChangeMaps.shut_string Tryd.underlying9 w3) rfl
    have q0 := DataW.trod_le (show m0 ≤ m0 + m1 + m2 + m3 by omega) t0
    have q1 := DataW.trod_le (show m1 ≤ m0 + m1 + m2 + m3 by omega) t1
    have q2 := DataW.trod_le (show m2 ≤ m0 + m1 + m2 + m3 by omega) t2
    have q3 := DataW.trod_le (show m3 ≤ m0 + m1 + m2 + m3 by omega) t3
    have := trod_struct_mk (enc := enc) (w := W') (base := 0) (spare := sp) (held := true) (n := m0 + m1 + m2 + m3) (cs := [.int .i64 n0, .int .i64 n1, .int .i64 n2, .string s3]) (xs := [(.lit (.int .i64 n0), []), (.lit (.int .i64 n1), []), (.lit (.int .i64 n2), []), (.lit (.string s3.data.toList), [])]) Tryd.underlying23 hl (by simp [ci, cs, q0, q1, q2, q3])
    exact ⟨_, by simpa [Value.cells] using this⟩
end Go.Proofs.YtgeggiafjojgdaaDoor

