/-
  A list of numbers, as an argument.
-/
import Derived.Test.YtiiplchakanomaaKitL
namespace Go.Proofs.Ytiiplchakanomaa
open Go.ChangeShapes Go.WideShapes Go.ChangeAt Go.RowKit Go
theorem cells3 : Try.prog.cellsOf 3 = 1 := by kernel_rfl
theorem bytes3 : Try.prog.bytesOf 3 = 8 := by kernel_rfl
/-- a slice of numbers, at a world -/
def IntsAt (W : World) (v : Value) (zs : List Int) : Prop :=
  ∃ a cap, v = .slice a zs.length cap ∧ (zs ≠ [] → ∃ b off, a = some ⟨b, off, none⟩ ∧ b < W.heap.size ∧ ∀ j (h : j < zs.length), W.cell? ⟨b, off + j, none⟩ = some (.int .i64 zs[j]))
theorem IntsAt.later {W W' : World} {v : Value} {zs : List Int} (h : IntsAt W v zs) (hB : Below W.heap.size W W') : IntsAt W' v zs := by
  obtain ⟨a, cap, h1, h2⟩ := h
  refine ⟨a, cap, h1, fun hne => ?_⟩
  obtain ⟨b, off, e, hb, hc⟩ := h2 hne
  exact ⟨b, off, e, Nat.lt_of_lt_of_le hb hB.size, fun j hj => (World.cell?_of_block (w := W) (hB.block b hb)).trans (hc j hj)⟩
theorem IntsAt.of_row {W : World} {base : Nat} {v : Value} {zs : List Int} (h : W.ownsRow base 3 1 v zs.length (intVals zs)) : IntsAt W v zs := by
  rcases h.2 with ⟨e, h0⟩ | ⟨g, cap, cur, h1, h2, h3, h4, h5, h6, h7⟩
  · obtain rfl : zs = [] := List.eq_nil_of_length_eq_zero h0
    exact ⟨none, 0, e, fun e => absurd rfl e⟩
  · refine ⟨_, cap, h1, fun _ => ⟨g, 0, rfl, lt_of_heap h3, fun j hj => ?_⟩⟩
    subst h1
    rw [Nat.zero_add, h.cellAt j (by omega)]
    simp [intVals, hj]

section
variable {H : Type} {enc : TypeId × Value → H} {W : World} {base : Nat} {v : Value} {d : DataW H} {p : List MemPlace} {ts : List TypeId} {ds : List (DataW H)} {j : Nat}
set_option maxRecDepth 100000 in
theorem ints_open (hval : Value.okWide Try.prog W .any base 47 v) (h0 : DataW.Trod enc Try.prog W 0 (fun _ => true) true 47 v d p) (hlt : ∀ x ∈ p, x.block < W.heap.size)
    (hreach : (DataW.weightsEach Try.prog ts ds).all (· ≤ reachBytes) = true) (hts : ts[j]? = some 47) (hds : ds[j]? = some d) :
    ∃ zs : List Int, IntsAt W v zs ∧ zs.length ≤ 140737488351232 ∧ ∀ z ∈ zs, IntOk z := by
  obtain ⟨a0, len, cap, rfl⟩ := okWide_slice Try.underlying47 hval
  by_cases hl0 : len = 0
  · subst hl0
    exact ⟨[], ⟨_, _, rfl, fun e => absurd rfl e⟩, by simp, by simp⟩
  · obtain ⟨fuel, hf⟩ := id h0
    rcases open_ints Try.underlying47 Try.underlying3 cells3 hf with ⟨hcs, hx⟩ | ⟨a, len', cap', zs, hcs, _, hl, hm, hz, hx, hcell, hwz⟩
    · simp [Value.cells] at hcs
      exact absurd hcs.2.1 hl0
    · simp [Value.cells] at hcs
      obtain ⟨rfl, rfl, rfl⟩ := hcs
      simp only [Prod.mk.injEq] at hx
      obtain ⟨rfl, rfl⟩ := hx
      simp only [if_true] at hz
      have hr : len * 8 ≤ 140737488351232 := by
        have := sized_slice hreach (j := j) (t := 47) (e := 3) hts hds Try.underlying47
        rw [bytes3] at this
        simp only [lits, List.length_map, List.length_take, List.length_drop, reachBytes] at this
        omega
      obtain ⟨b, off, spot⟩ := a
      have hspot : spot = none := by simpa [Addr.add] using World.cell?_spot (hcell 0 (by omega))
      subst hspot
      have hbW : b < W.heap.size := hlt (.cell b off) (MemPlace.mem_row.2 ⟨0, by omega, by simp⟩)
      have hlen : (zs.take len).length = len := by rw [List.length_take]; omega
      refine ⟨zs.take len, ⟨_, cap, by rw [hlen], fun _ => ⟨b, off, rfl, hbW, fun i hi => ?_⟩⟩, by omega, fun z hz => int_range (hwz z (List.mem_of_mem_take hz))⟩
      have hi' : i < zs.length := by rw [hlen] at hi; omega
      rw [← addr_plain, hcell i hi']
      simp [List.getD, List.getElem?_eq_getElem hi']
end
end Go.Proofs.Ytiiplchakanomaa

