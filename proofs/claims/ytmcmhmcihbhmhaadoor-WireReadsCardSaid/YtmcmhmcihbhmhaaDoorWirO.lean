/-
  A list of reads that came in: three numbers each.
-/
import Derived.Test.YtmcmhmcihbhmhaaDoorWirK
import Derived.Deep.Slices
import Derived.ChangeArms
namespace Go.Proofs.YtmcmhmcihbhmhaaDoor
open Go.ChangeShapes Go.WideShapes Go.ChangeAt Go.RowKit Go

theorem cellsOp : Tryd.prog.cellsOf 37 = 3 := by kernel_rfl
theorem bytesOp : Tryd.prog.bytesOf 37 = 24 := by kernel_rfl
/-- a list of reads, at a world -/
def OpsAt (W : World) (v : Value) (l : List (Int × Int × Int)) : Prop :=
  ∃ a cap, v = .slice a l.length cap ∧ (l ≠ [] → ∃ b off, a = some ⟨b, off, none⟩ ∧ b < W.heap.size ∧ ∀ j (h : j < l.length),
    W.cell? ⟨b, off + j * 3, none⟩ = some (.int .i64 l[j].1) ∧ W.cell? ⟨b, off + j * 3 + 1, none⟩ = some (.int .i64 l[j].2.1) ∧ W.cell? ⟨b, off + j * 3 + 2, none⟩ = some (.int .i64 l[j].2.2))
section
variable {H : Type} {enc : TypeId × Value → H} {W : World} {base : Nat} {v : Value} {d : DataW H} {p : List MemPlace}
theorem op_fields : ∃ f0 f1 f2 : Field, Tryd.prog.underlying 37 = some (.struct #[f0, f1, f2]) ∧ f0.offset = 0 ∧ f1.offset = 1 ∧ f2.offset = 2 ∧ f0.type = 3 ∧ f1.type = 3 ∧ f2.type = 3 :=
  ⟨_, _, _, Tryd.underlying37, rfl, rfl, rfl, rfl, rfl, rfl⟩
set_option maxRecDepth 100000 in
theorem op_read {n : Nat} {cs : List Value} {x : DataW H × List MemPlace} {sp : Nat → Bool} {hd : Bool} {bb : Nat} (h : DataW.trod enc Tryd.prog W bb sp hd n 37 cs = some x) :
    ∃ q : Int × Int × Int, cs = [.int .i64 q.1, .int .i64 q.2.1, .int .i64 q.2.2] := by
  obtain ⟨f0, f1, f2, hu, o0, o1, o2, t0, t1, t2⟩ := op_fields
  obtain ⟨xs, k, _, _, hl, hxl, hf⟩ := DataW.trod_struct hu h
  rw [cellsOp] at hl
  match xs, hxl, cs, hl with
  | [y0, y1, y2], _, [v0, v1, v2], _ =>
    have g0 := hf 0 f0 rfl
    have g1 := hf 1 f1 rfl
    have g2 := hf 2 f2 rfl
    rw [o0, t0, cells3] at g0
    rw [o1, t1, cells3] at g1
    rw [o2, t2, cells3] at g2
    obtain ⟨n0, e0, _⟩ := DataW.trod_int Tryd.underlying3 g0
    obtain ⟨n1, e1, _⟩ := DataW.trod_int Tryd.underlying3 g1
    obtain ⟨n2, e2, _⟩ := DataW.trod_int Tryd.underlying3 g2
    simp at e0 e1 e2
    exact ⟨(n0, n1, n2), by rw [e0, e1, e2]⟩

set_option maxRecDepth 100000 in
theorem ops_open (hval : Value.okWide Tryd.prog W .any base 30 v) (h0 : DataW.Trod enc Tryd.prog W 0 (fun _ => true) true 30 v d p) (hlt : ∀ x ∈ p, x.block < W.heap.size) :
    ∃ l : List (Int × Int × Int), OpsAt W v l ∧ l.length ≤ 9223372036854775807 := by
  obtain ⟨a0, len, cap, rfl⟩ := okWide_slice Tryd.underlying30 hval
  by_cases hl0 : len = 0
  · subst hl0
    exact ⟨[], ⟨a0, cap, rfl, fun e => absurd rfl e⟩, by simp⟩
  · obtain ⟨fuel, hf⟩ := id h0
    rcases Deep.open_slice Tryd.underlying30 hf with ⟨hcs, hx⟩ | ⟨a, len', cap', m, n, D, Pl, hcs, hb, hl, hm, hmm, hx, hel⟩
    · simp [Value.cells] at hcs
      exact absurd hcs.2.1 hl0
    · simp [Value.cells] at hcs
      obtain ⟨rfl, rfl, rfl⟩ := hcs
      simp only [Prod.mk.injEq] at hx
      obtain ⟨rfl, rfl⟩ := hx
      simp only [if_true] at hmm
      have each : ∀ i, i < len → ∃ q : Int × Int × Int, W.cell? (a.add (i * 3)) = some (.int .i64 q.1) ∧ W.cell? (a.add (i * 3 + 1)) = some (.int .i64 q.2.1) ∧ W.cell? (a.add (i * 3 + 2)) = some (.int .i64 q.2.2) := by
        intro i hi
        obtain ⟨cs', h1, h2⟩ := hel i (by omega)
        obtain ⟨q, rfl⟩ := op_read h2
        rw [cellsOp] at h1
        obtain ⟨_, _, hc⟩ := World.cells?_some h1
        have e0 := hc 0 (by omega)
        have e1 := hc 1 (by omega)
        have e2 := hc 2 (by omega)
        rw [Deep.add_add] at e0 e1 e2
        exact ⟨q, by simpa using e0, by simpa using e1, by simpa using e2⟩
      obtain ⟨q, hq⟩ := Deep.choose_lt each
      obtain ⟨b, off, spot⟩ := a
      have hspot : spot = none := by
        have := (hq 0 (by omega)).1
        simpa [Addr.add] using World.cell?_spot this
      subst hspot
      have hbW : b < W.heap.size := hlt (.cell b off) (List.mem_append_left _ (MemPlace.mem_row.2 ⟨0, by rw [cellsOp]; omega, by simp⟩))
      have hml : cap ≤ 9223372036854775807 := hm
      refine ⟨(List.range len).map q, ⟨_, cap, by simp, fun _ => ⟨b, off, rfl, hbW, fun j hj => ?_⟩⟩, by simp; omega⟩
      have hj' : j < len := by simpa using hj
      have := hq j hj'
      rw [Addr.add_lit, Addr.add_lit, Addr.add_lit] at this
      simp only [List.getElem_map, List.getElem_range]
      exact ⟨this.1, by rw [Nat.add_assoc]; exact this.2.1, by rw [Nat.add_assoc]; exact this.2.2⟩
end
theorem OpsAt.later {W W' : World} {v : Value} {l : List (Int × Int × Int)} (h : OpsAt W v l) (hB : Below W.heap.size W W') : OpsAt W' v l := by
  obtain ⟨a, cap, h1, h2⟩ := h
  refine ⟨a, cap, h1, fun hne => ?_⟩
  obtain ⟨b, off, e, hb, hc⟩ := h2 hne
  have hk : ∀ i, W'.cell? ⟨b, i, none⟩ = W.cell? ⟨b, i, none⟩ := fun i => World.cell?_of_block (w := W) (hB.block b hb)
  refine ⟨b, off, e, Nat.lt_of_lt_of_le hb hB.size, fun j hj => ?_⟩
  rw [hk, hk, hk]
  exact hc j hj
end Go.Proofs.YtmcmhmcihbhmhaaDoor
