/-
  A list of truths, as an argument.
-/
import Derived.Test.YtiiplchakanomaaKitL
namespace Go.Proofs.Ytiiplchakanomaa
open Go.ChangeShapes Go.WideShapes Go.ChangeAt Go.RowKit Go
theorem cellsB : Try.prog.cellsOf 4 = 1 := by kernel_rfl
theorem bytesB : Try.prog.bytesOf 4 = 1 := by kernel_rfl
/-- a list of truths, at a world -/
def BoolsAt (W : World) (v : Value) (l : List Bool) : Prop :=
  ∃ a cap, v = .slice a l.length cap ∧ (l ≠ [] → ∃ b off, a = some ⟨b, off, none⟩ ∧ b < W.heap.size ∧ ∀ j (h : j < l.length), W.cell? ⟨b, off + j, none⟩ = some (.bool l[j]))
section
variable {H : Type} {enc : TypeId × Value → H} {W : World} {base : Nat} {v : Value} {d : DataW H} {p : List MemPlace}
set_option maxRecDepth 100000 in
theorem bools_open (hval : Value.okWide Try.prog W .any base 43 v) (h0 : DataW.Trod enc Try.prog W 0 (fun _ => true) true 43 v d p) (hlt : ∀ x ∈ p, x.block < W.heap.size) :
    ∃ l : List Bool, BoolsAt W v l ∧ l.length ≤ 9223372036854775807 := by
  obtain ⟨a0, len, cap, rfl⟩ := okWide_slice Try.underlying43 hval
  by_cases hl0 : len = 0
  · subst hl0
    exact ⟨[], ⟨a0, cap, rfl, fun e => absurd rfl e⟩, by simp⟩
  · obtain ⟨fuel, hf⟩ := id h0
    rcases Deep.open_slice Try.underlying43 hf with ⟨hcs, hx⟩ | ⟨a, len', cap', m, n, D, Pl, hcs, hb, hl, hm, hmm, hx, hel⟩
    · simp [Value.cells] at hcs
      exact absurd hcs.2.1 hl0
    · simp [Value.cells] at hcs
      obtain ⟨rfl, rfl, rfl⟩ := hcs
      simp only [Prod.mk.injEq] at hx
      obtain ⟨rfl, rfl⟩ := hx
      simp only [if_true] at hmm
      have each : ∀ i, i < len → ∃ q : Bool, W.cell? (a.add i) = some (.bool q) := by
        intro i hi
        obtain ⟨cs', h1, h2⟩ := hel i (by omega)
        obtain ⟨q, e, -⟩ := DataW.trod_bool Try.underlying4 h2
        rw [cellsB] at h1
        obtain ⟨_, _, hc⟩ := World.cells?_some h1
        have e0 := hc 0 (by omega)
        rw [Deep.add_add] at e0
        subst e
        exact ⟨q, by simpa using e0⟩
      obtain ⟨q, hq⟩ := Deep.choose_lt each
      obtain ⟨b, off, spot⟩ := a
      have hspot : spot = none := by
        have := hq 0 (by omega)
        simpa [Addr.add] using World.cell?_spot this
      subst hspot
      have hbW : b < W.heap.size := hlt (.cell b off) (List.mem_append_left _ (MemPlace.mem_row.2 ⟨0, by rw [cellsB]; omega, by simp⟩))
      have hml : cap ≤ 9223372036854775807 := hm
      refine ⟨(List.range len).map q, ⟨_, cap, by simp, fun _ => ⟨b, off, rfl, hbW, fun j hj => ?_⟩⟩, by simp; omega⟩
      have hj' : j < len := by simpa using hj
      have := hq j hj'
      rw [Addr.add_lit] at this
      simpa using this
end
end Go.Proofs.Ytiiplchakanomaa

