/-
  A command as an argument, by value.
-/
import Derived.Test.YtmloljjllmmkoaaDoorCmdX
import Derived.Lib.SmallJoins
namespace Go.Proofs.YtmloljjllmmkoaaDoor
open Go.ChangeShapes Go.WideShapes Go.ChangeAt Go.RowKit Go
structure CmdOk (c : Cmd) : Prop where
  kind : IntOk c.kind
  place : IntOk c.place
  path : c.path.size ≤ 140737488351232
  dest : c.dest.size ≤ 140737488351232
  data : c.data.size ≤ 140737488351232
theorem CmdOk.in_ {c : Cmd} (h : CmdOk c) : CmdIn c := ⟨h.kind, h.place, Nat.le_trans h.path (by decide), Nat.le_trans h.dest (by decide), Nat.le_trans h.data (by decide)⟩
def cmdD {H : Type} (c : Cmd) : DataW H := .agg [.lit (.int .i64 c.kind), .lit (.string c.path.data.toList), .lit (.string c.dest.data.toList), .lit (.int .i64 c.place), .lit (.string c.data.data.toList)]
theorem array5 {α : Type} {cs : Array α} (h : cs.size = 5) : ∃ c0 c1 c2 c3 c4, cs = #[c0, c1, c2, c3, c4] := by
  obtain ⟨l⟩ := cs
  match l, h with
  | [c0, c1, c2, c3, c4], _ => exact ⟨c0, c1, c2, c3, c4, rfl⟩
set_option maxRecDepth 100000 in
theorem cmd_open {H : Type} {enc : TypeId × Value → H} {W : World} {base : Nat} {v : Value} {d : DataW H} {p : List MemPlace}
    (hval : Value.okWide Tryd.prog W .any base 30 v) (h0 : DataW.Trod enc Tryd.prog W 0 (fun _ => true) true 30 v d p)
    {ts : List TypeId} {ds : List (DataW H)} {j : Nat} (hreach : (DataW.weightsEach Tryd.prog ts ds).all (· ≤ reachBytes) = true) (hts : ts[j]? = some 30) (hds : ds[j]? = some d) :
    ∃ c : Cmd, v = cmdV c ∧ CmdOk c ∧ p = [] ∧ (∀ (W' : World) (sp : Nat → Bool), DataW.Trod enc Tryd.prog W' 0 sp true 30 v d []) ∧ d = cmdD c := by
  obtain ⟨cs, rfl, hsz⟩ := okWide_struct Tryd.underlying30 hval
  obtain ⟨v0, v1, v2, v3, v4, rfl⟩ := array5 (hsz.trans (show Tryd.prog.cellsOf 30 = 5 by kernel_rfl))
  obtain ⟨fuel, hf⟩ := h0
  obtain ⟨xs, n, _, hx, hl, hlen, hfs⟩ := DataW.trod_struct Tryd.underlying30 hf
  have ci : Tryd.prog.cellsOf 3 = 1 := by kernel_rfl
  have cs : Tryd.prog.cellsOf 9 = 1 := by kernel_rfl
  match xs, hlen, hx, hfs with
  | [y0, y1, y2, y3, y4], _, hx, hfs =>
    have g0 := hfs 0 _ rfl
    have g1 := hfs 1 _ rfl
    have g2 := hfs 2 _ rfl
    have g3 := hfs 3 _ rfl
    have g4 := hfs 4 _ rfl
    simp [Value.cells, ci, cs] at g0 g1 g2 g3 g4
    obtain ⟨n0, a0, z0, w0⟩ := DataW.trod_int Tryd.underlying3 g0
    obtain ⟨s1, a1, z1, w1⟩ := DataW.trod_string Tryd.underlying9 g1
    obtain ⟨s2, a2, z2, w2⟩ := DataW.trod_string Tryd.underlying9 g2
    obtain ⟨n3, a3, z3, w3⟩ := DataW.trod_int Tryd.underlying3 g3
    obtain ⟨s4, a4, z4, w4⟩ := DataW.trod_string Tryd.underlying9 g4
    simp only [List.cons.injEq, and_true] at a0 a1 a2 a3 a4
    subst a0 a1 a2 a3 a4 z0 z1 z2 z3 z4
    simp at hx
    obtain ⟨rfl, rfl⟩ := hx
    have key : ∀ (i : Nat) (l : List UInt8), (DataW.weightsEach Tryd.prog [3, 9, 9, 3, 9] [DataW.lit (H := H) (.int .i64 n0), .lit (.string s1.data.toList), .lit (.string s2.data.toList), .lit (.int .i64 n3), .lit (.string s4.data.toList)]).all (· ≤ reachBytes) = true := fun _ _ => by
      refine List.all_eq_true.2 fun m hm => ?_
      have := List.all_eq_true.1 hreach m (DataW.weights_mem_each hts hds m (by
        simp only [DataW.weights, Tryd.underlying30]
        exact hm))
      exact this
    have K := key 0 []
    refine ⟨⟨n0, s1, s2, n3, s4⟩, rfl, ⟨int_range w0, int_range w3, reach_size (sized_string K (j := 1) rfl rfl), reach_size (sized_string K (j := 2) rfl rfl), reach_size (sized_string K (j := 4) rfl rfl)⟩, rfl, fun W' sp => ?_, rfl⟩
    obtain ⟨m0, t0⟩ := Joins.field_of_Trod (enc := enc) (P := Tryd.prog) (w := W') (base := 0) (spare := sp) (held := true) (shut_int Tryd.underlying3 w0) rfl
    obtain ⟨m1, t1⟩ := Joins.field_of_Trod (enc := enc) (P := Tryd.prog) (w := W') (base := 0) (spare := sp) (held := true) (Go.ChangeMaps.shut_string Tryd.underlying9 w1) rfl
    obtain ⟨m2, t2⟩ := Joins.field_of_Trod (enc := enc) (P := Tryd.prog) (w := W') (base := 0) (spare := sp) (held := true) (Go.ChangeMaps.shut_string Tryd.underlying9 w2) rfl
    obtain ⟨m3, t3⟩ := Joins.field_of_Trod (enc := enc) (P := Tryd.prog) (w := W') (base := 0) (spare := sp) (held := true) (shut_int Tryd.underlying3 w3) rfl
    obtain ⟨m4, t4⟩ := Joins.field_of_Trod (enc := enc) (P := Tryd.prog) (w := W') (base := 0) (spare := sp) (held := true) (Go.ChangeMaps.shut_string Tryd.underlying9 w4) rfl
    have q0 := DataW.trod_le (show m0 ≤ m0 + m1 + m2 + m3 + m4 by omega) t0
    have q1 := DataW.trod_le (show m1 ≤ m0 + m1 + m2 + m3 + m4 by omega) t1
    have q2 := DataW.trod_le (show m2 ≤ m0 + m1 + m2 + m3 + m4 by omega) t2
    have q3 := DataW.trod_le (show m3 ≤ m0 + m1 + m2 + m3 + m4 by omega) t3
    have q4 := DataW.trod_le (show m4 ≤ m0 + m1 + m2 + m3 + m4 by omega) t4
    have := trod_struct_mk (enc := enc) (w := W') (base := 0) (spare := sp) (held := true) (n := m0 + m1 + m2 + m3 + m4) (cs := [.int .i64 n0, .string s1, .string s2, .int .i64 n3, .string s4]) (xs := [(.lit (.int .i64 n0), []), (.lit (.string s1.data.toList), []), (.lit (.string s2.data.toList), []), (.lit (.int .i64 n3), []), (.lit (.string s4.data.toList), [])]) Tryd.underlying30 hl (by simp [ci, cs, q0, q1, q2, q3, q4])
    exact ⟨_, by simpa [Value.cells] using this⟩
/-- of a bulk that is bounded: so are the texts -/
theorem small_cmd {H : Type} {c : Cmd} {n : Nat} (h : Rows.uptoBulk (cmdD (H := H) c) ≤ n) : c.path.size + c.dest.size + c.data.size ≤ n := by
  have h1 : c.path.data.toList.length = c.path.size := Array.length_toList (xs := c.path.data)
  have h2 : c.dest.data.toList.length = c.dest.size := Array.length_toList (xs := c.dest.data)
  have h3 : c.data.data.toList.length = c.data.size := Array.length_toList (xs := c.data.data)
  simp only [cmdD, Rows.uptoBulk, Rows.uptoBulkAll] at h
  omega
end Go.Proofs.YtmloljjllmmkoaaDoor

