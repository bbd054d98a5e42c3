/-
  A list of calls on a map, as an argument of a bulk of at most 1048576.
-/
import Derived.Test.YteboacjniokfpaaDoorPlnOps
namespace Go.Proofs.YteboacjniokfpaaDoor
open Go.ChangeShapes Go.WideShapes Go.ChangeAt Go.RowKit Go
theorem bulk_part {H : Type} {d : DataW H} {l : List (DataW H)} (h : d ∈ l) : Rows.uptoBulk d ≤ Rows.uptoBulkAll l := by
  induction l with
  | nil => cases h
  | cons x r ih =>
    simp only [Rows.uptoBulkAll]
    cases List.mem_cons.1 h with
    | inl e => subst e; omega
    | inr e => have := ih e; omega
section
variable {H : Type} {enc : TypeId × Value → H} {W : World} {base : Nat} {v : Value} {d : DataW H} {p : List MemPlace}
set_option maxRecDepth 100000 in
theorem op_bulk {n : Nat} {cs : List Value} {x : DataW H × List MemPlace} {sp : Nat → Bool} {hd : Bool} {bb : Nat} (h : DataW.trod enc Tryd.prog W bb sp hd n 39 cs = some x) :
    ∃ (a b c : Int) (s : ByteArray), cs = [.int .i64 a, .int .i64 b, .int .i64 c, .string s] ∧ s.data.toList.length ≤ Rows.uptoBulk x.1 := by
  obtain ⟨f0, f1, f2, f3, hu, o0, o1, o2, o3, t0, t1, t2, t3⟩ := op_fields
  obtain ⟨xs, k, _, hx, hl, hxl, hf⟩ := DataW.trod_struct hu h
  rw [cellsOp] at hl
  match xs, hxl, cs, hl with
  | [y0, y1, y2, y3], _, [v0, v1, v2, v3], _ =>
    have g0 := hf 0 f0 rfl
    rw [o0, t0, cells3] at g0
    have g1 := hf 1 f1 rfl
    rw [o1, t1, cells3] at g1
    have g2 := hf 2 f2 rfl
    rw [o2, t2, cells3] at g2
    have g3 := hf 3 f3 rfl
    rw [o3, t3, cells9] at g3
    obtain ⟨n0, e0, z0, r0⟩ := DataW.trod_int Tryd.underlying3 g0
    obtain ⟨n1, e1, z1, r1⟩ := DataW.trod_int Tryd.underlying3 g1
    obtain ⟨n2, e2, z2, r2⟩ := DataW.trod_int Tryd.underlying3 g2
    obtain ⟨n3, e3, z3, _⟩ := DataW.trod_string Tryd.underlying9 g3
    simp at e0 e1 e2 e3
    refine ⟨n0, n1, n2, n3, by rw [e0, e1, e2, e3], ?_⟩
    have hy : y3.1 = .lit (.string n3.data.toList) := by simpa using congrArg Prod.fst z3
    have hb : Rows.uptoBulk y3.1 = n3.data.toList.length + 1 := by rw [hy]; rfl
    have hm : y3.1 ∈ List.map (fun x => x.fst) [y0, y1, y2, y3] := List.mem_map.2 ⟨y3, by simp, rfl⟩
    have := bulk_part hm
    rw [hx]
    simp only [Rows.uptoBulk]
    omega
/-- the texts of a list of calls of small bulk are short -/
theorem ops_up (h0 : DataW.Trod enc Tryd.prog W 0 (fun _ => true) true 36 v d p) {l : List (Int × Int × Int × ByteArray)} (hl : OpsAt W v l) (hb : Rows.uptoBulk d ≤ 1048576) : ∀ q ∈ l, q.2.2.2.size ≤ 1048576 := by
  obtain ⟨a0, cap, rfl, hcell⟩ := hl
  intro q hq
  obtain ⟨i, hi, rfl⟩ := List.getElem_of_mem hq
  obtain ⟨b, off, rfl, _, hc⟩ := hcell (by intro e; rw [e] at hi; simp at hi)
  obtain ⟨fuel, hf⟩ := id h0
  rcases Deep.open_slice Tryd.underlying36 hf with ⟨hcs, hx⟩ | ⟨a, len', cap', m, n, D, Pl, hcs, hb', hl', hm, hmm, hx, hel⟩
  · simp [Value.cells] at hcs
  · simp [Value.cells] at hcs
    obtain ⟨rfl, rfl, rfl⟩ := hcs
    simp only [Prod.mk.injEq] at hx
    obtain ⟨rfl, rfl⟩ := hx
    simp only [if_true] at hmm
    obtain ⟨cs', h1, h2⟩ := hel i (by omega)
    obtain ⟨x0, x1, x2, s, rfl, hs⟩ := op_bulk h2
    rw [cellsOp] at h1
    obtain ⟨_, _, hc'⟩ := World.cells?_some h1
    have e3 := hc' 3 (by omega)
    rw [Deep.add_add, Addr.add_lit] at e3
    have c3 := (hc i hi).2.2.2
    rw [Nat.add_assoc] at c3
    rw [c3] at e3
    simp at e3
    have hD : (D i) ∈ (List.range l.length).map D := List.mem_map.2 ⟨i, List.mem_range.2 hi, rfl⟩
    have k1 := bulk_part hD
    simp only [Rows.uptoBulk] at hb
    have hs' : s.data.toList.length ≤ Rows.uptoBulk (D i) := hs
    have hsz : s.data.toList.length = s.size := by simp
    rw [e3]
    omega
end
end Go.Proofs.YteboacjniokfpaaDoor

