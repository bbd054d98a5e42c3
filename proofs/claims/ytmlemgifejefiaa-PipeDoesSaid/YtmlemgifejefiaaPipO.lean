/-
  A list of calls, as an argument.
-/
import Derived.Test.YtmlemgifejefiaaKitI
namespace Go.Proofs.Ytmlemgifejefiaa
open Go.ChangeShapes Go.WideShapes Go.ChangeAt Go.RowKit Go
theorem cellsOp : Try.prog.cellsOf 40 = 4 := by kernel_rfl
/-- a list of calls, at a world -/
def OpsAt (W : World) (v : Value) (l : List (Int × Int × Int × Int)) : Prop :=
  ∃ a cap, v = .slice a l.length cap ∧ (l ≠ [] → ∃ b off, a = some ⟨b, off, none⟩ ∧ b < W.heap.size ∧ ∀ j (h : j < l.length),
    W.cell? ⟨b, off + j * 4, none⟩ = some (.int .i64 l[j].1) ∧ W.cell? ⟨b, off + j * 4 + 1, none⟩ = some (.int .i64 l[j].2.1) ∧ W.cell? ⟨b, off + j * 4 + 2, none⟩ = some (.int .i64 l[j].2.2.1) ∧ W.cell? ⟨b, off + j * 4 + 3, none⟩ = some (.int .i64 l[j].2.2.2))
def OpsOk (l : List (Int × Int × Int × Int)) : Prop := l.length ≤ 9223372036854775807 ∧ ∀ q ∈ l, IntOk q.1 ∧ IntOk q.2.1 ∧ IntOk q.2.2.1 ∧ IntOk q.2.2.2
section
variable {H : Type} {enc : TypeId × Value → H} {W : World} {base : Nat} {v : Value} {d : DataW H} {p : List MemPlace}
theorem op_fields : ∃ f0 f1 f2 f3 : Field, Try.prog.underlying 40 = some (.struct #[f0, f1, f2, f3]) ∧ f0.offset = 0 ∧ f1.offset = 1 ∧ f2.offset = 2 ∧ f3.offset = 3 ∧ f0.type = 3 ∧ f1.type = 3 ∧ f2.type = 3 ∧ f3.type = 3 :=
  ⟨_, _, _, _, Try.underlying40, rfl, rfl, rfl, rfl, rfl, rfl, rfl, rfl⟩
set_option maxRecDepth 100000 in
theorem op_read {n : Nat} {cs : List Value} {x : DataW H × List MemPlace} {sp : Nat → Bool} {hd : Bool} {bb : Nat} (h : DataW.trod enc Try.prog W bb sp hd n 40 cs = some x) :
    ∃ q : Int × Int × Int × Int, cs = [.int .i64 q.1, .int .i64 q.2.1, .int .i64 q.2.2.1, .int .i64 q.2.2.2] ∧ IntOk q.1 ∧ IntOk q.2.1 ∧ IntOk q.2.2.1 ∧ IntOk q.2.2.2 := by
  obtain ⟨f0, f1, f2, f3, hu, o0, o1, o2, o3, t0, t1, t2, t3⟩ := op_fields
  obtain ⟨xs, k, _, _, hl, hxl, hf⟩ := DataW.trod_struct hu h
  rw [cellsOp] at hl
  match xs, hxl, cs, hl with
  | [y0, y1, y2, y3], _, [v0, v1, v2, v3], _ =>
    have g0 := hf 0 f0 rfl
    rw [o0, t0, cells3] at g0
    have g1 := hf 1 f1 rfl
    rw [o1, t1, cells3] at g1
    have g2 := hf 2 f2 rfl
    rw [o2, t2, cells3] at g2
    have g3 := hf 3 f3 rfl
    rw [o3, t3, cells3] at g3
    obtain ⟨n0, e0, _, r0⟩ := DataW.trod_int Try.underlying3 g0
    obtain ⟨n1, e1, _, r1⟩ := DataW.trod_int Try.underlying3 g1
    obtain ⟨n2, e2, _, r2⟩ := DataW.trod_int Try.underlying3 g2
    obtain ⟨n3, e3, _, r3⟩ := DataW.trod_int Try.underlying3 g3
    simp at e0 e1 e2 e3
    exact ⟨(n0, n1, n2, n3), by rw [e0, e1, e2, e3], int_range r0, int_range r1, int_range r2, int_range r3⟩

set_option maxRecDepth 100000 in
theorem ops_open (hval : Value.okWide Try.prog W .any base 30 v) (h0 : DataW.Trod enc Try.prog W 0 (fun _ => true) true 30 v d p) (hlt : ∀ x ∈ p, x.block < W.heap.size) :
    ∃ l : List (Int × Int × Int × Int), OpsAt W v l ∧ OpsOk l := by
  obtain ⟨a0, len, cap, rfl⟩ := okWide_slice Try.underlying30 hval
  by_cases hl0 : len = 0
  · subst hl0
    exact ⟨[], ⟨a0, cap, rfl, fun e => absurd rfl e⟩, by simp, by simp⟩
  · obtain ⟨fuel, hf⟩ := id h0
    rcases Deep.open_slice Try.underlying30 hf with ⟨hcs, hx⟩ | ⟨a, len', cap', m, n, D, Pl, hcs, hb, hl, hm, hmm, hx, hel⟩
    · simp [Value.cells] at hcs
      exact absurd hcs.2.1 hl0
    · simp [Value.cells] at hcs
      obtain ⟨rfl, rfl, rfl⟩ := hcs
      simp only [Prod.mk.injEq] at hx
      obtain ⟨rfl, rfl⟩ := hx
      simp only [if_true] at hmm
      have each : ∀ i, i < len → ∃ q : Int × Int × Int × Int, W.cell? (a.add (i * 4)) = some (.int .i64 q.1) ∧ W.cell? (a.add (i * 4 + 1)) = some (.int .i64 q.2.1) ∧ W.cell? (a.add (i * 4 + 2)) = some (.int .i64 q.2.2.1) ∧ W.cell? (a.add (i * 4 + 3)) = some (.int .i64 q.2.2.2) ∧ IntOk q.1 ∧ IntOk q.2.1 ∧ IntOk q.2.2.1 ∧ IntOk q.2.2.2 := by
        intro i hi
        obtain ⟨cs', h1, h2⟩ := hel i (by omega)
        obtain ⟨q, rfl, hk0, hk1, hk2, hk3⟩ := op_read h2
        rw [cellsOp] at h1
        obtain ⟨_, _, hc⟩ := World.cells?_some h1
        have e0 := hc 0 (by omega)
        have e1 := hc 1 (by omega)
        have e2 := hc 2 (by omega)
        have e3 := hc 3 (by omega)
        rw [Deep.add_add] at e0 e1 e2 e3
        exact ⟨q, by simpa using e0, by simpa using e1, by simpa using e2, by simpa using e3, hk0, hk1, hk2, hk3⟩
      obtain ⟨q, hq⟩ := Deep.choose_lt each
      obtain ⟨b, off, spot⟩ := a
      have hspot : spot = none := by
        have := (hq 0 (by omega)).1
        simpa [Addr.add] using World.cell?_spot this
      subst hspot
      have hbW : b < W.heap.size := hlt (.cell b off) (List.mem_append_left _ (MemPlace.mem_row.2 ⟨0, by rw [cellsOp]; omega, by simp⟩))
      have hml : cap ≤ 9223372036854775807 := hm
      refine ⟨(List.range len).map q, ⟨_, cap, by simp, fun _ => ⟨b, off, rfl, hbW, fun j hj => ?_⟩⟩, by simp; omega, fun x hx => ?_⟩
      rotate_left
      · obtain ⟨j, hj, rfl⟩ := List.mem_map.1 hx
        exact (hq j (by simpa using hj)).2.2.2.2
      have hj' : j < len := by simpa using hj
      have := hq j hj'
      rw [Addr.add_lit, Addr.add_lit, Addr.add_lit, Addr.add_lit] at this
      simp only [List.getElem_map, List.getElem_range]
      exact ⟨this.1, by rw [Nat.add_assoc]; exact this.2.1, by rw [Nat.add_assoc]; exact this.2.2.1, by rw [Nat.add_assoc]; exact this.2.2.2.1⟩
end
theorem OpsAt.later {W W' : World} {v : Value} {l : List (Int × Int × Int × Int)} (h : OpsAt W v l) (hB : Below W.heap.size W W') : OpsAt W' v l := by
  obtain ⟨a, cap, h1, h2⟩ := h
  refine ⟨a, cap, h1, fun hne => ?_⟩
  obtain ⟨b, off, e, hb, hc⟩ := h2 hne
  have hk : ∀ i, W'.cell? ⟨b, i, none⟩ = W.cell? ⟨b, i, none⟩ := fun i => World.cell?_of_block (w := W) (hB.block b hb)
  refine ⟨b, off, e, Nat.lt_of_lt_of_le hb hB.size, fun j hj => ?_⟩
  rw [hk, hk, hk, hk]
  exact hc j hj
end Go.Proofs.Ytmlemgifejefiaa
