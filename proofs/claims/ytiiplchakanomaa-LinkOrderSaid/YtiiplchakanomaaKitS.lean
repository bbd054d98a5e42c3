/-
  A list of texts, as an argument.
-/
import Derived.Test.YtiiplchakanomaaKitL
namespace Go.Proofs.Ytiiplchakanomaa
open Go.ChangeShapes Go.WideShapes Go.ChangeAt Go.RowKit Go
theorem cells9 : Try.prog.cellsOf 9 = 1 := by kernel_rfl
theorem bytes9 : Try.prog.bytesOf 9 = 16 := by kernel_rfl
section
variable {H : Type} {enc : TypeId × Value → H} {W : World} {base : Nat} {v : Value} {d : DataW H} {p : List MemPlace} {ts : List TypeId} {ds : List (DataW H)} {j : Nat}
/-- a list of texts, at a world -/
def StrsAt (W : World) (v : Value) (l : List ByteArray) : Prop :=
  ∃ a cap, v = .slice a l.length cap ∧ (l ≠ [] → ∃ b off, a = some ⟨b, off, none⟩ ∧ b < W.heap.size ∧ ∀ j (h : j < l.length), W.cell? ⟨b, off + j, none⟩ = some (.string l[j]))
theorem weights_strs (P : Program) (e : TypeId) : ∀ (l : List ByteArray) (s : ByteArray), s ∈ l → s.data.toList.length ∈ DataW.weightsAll P e (strs (H := H) l)
  | x :: r, s, h => by
    rcases List.mem_cons.1 h with rfl | h
    · simp [strs, DataW.weightsAll, DataW.weights]
    · have := weights_strs P e r s h
      simp only [strs, List.map_cons, DataW.weightsAll, List.mem_append]
      exact Or.inr this
  | [], _, h => by cases h
theorem sized_strs {P : Program} {t e : TypeId} {xs ys : List ByteArray} (h : (DataW.weightsEach P ts ds).all (· ≤ reachBytes) = true)
    (ht : ts[j]? = some t) (hd : ds[j]? = some (.slice (strs xs) (strs ys))) (hu : P.underlying t = some (.slice e)) (s : ByteArray) (hs : s ∈ xs) : s.size ≤ 140737488351232 := by
  have := List.all_eq_true.1 h _ (DataW.weights_mem_each ht hd s.data.toList.length (by
    simp only [DataW.weights, hu]
    exact List.mem_cons_of_mem _ (List.mem_append.2 (Or.inl (weights_strs P e xs s hs)))))
  exact reach_size (by simpa using this)
set_option maxRecDepth 100000 in
theorem strs_open (hval : Value.okWide Try.prog W .any base 29 v) (h0 : DataW.Trod enc Try.prog W 0 (fun _ => true) true 29 v d p) (hlt : ∀ x ∈ p, x.block < W.heap.size)
    (hreach : (DataW.weightsEach Try.prog ts ds).all (· ≤ reachBytes) = true) (hts : ts[j]? = some 29) (hds : ds[j]? = some d) :
    ∃ l : List ByteArray, StrsAt W v l ∧ l.length ≤ 140737488351232 ∧ ∀ s ∈ l, s.size ≤ 140737488351232 := by
  obtain ⟨a0, len, cap, rfl⟩ := okWide_slice Try.underlying29 hval
  by_cases hl0 : len = 0
  · subst hl0
    exact ⟨[], ⟨_, _, rfl, fun e => absurd rfl e⟩, by simp, fun s hs => by cases hs⟩
  · obtain ⟨fuel, hf⟩ := id h0
    rcases open_strings Try.underlying29 Try.underlying9 cells9 hf with ⟨hcs, hx⟩ | ⟨a, len', cap', ss, hcs, _, hl, hm, hz, hx, hcell, hsz⟩
    · simp [Value.cells] at hcs
      exact absurd hcs.2.1 hl0
    · simp [Value.cells] at hcs
      obtain ⟨rfl, rfl, rfl⟩ := hcs
      simp only [Prod.mk.injEq] at hx
      obtain ⟨rfl, rfl⟩ := hx
      simp only [if_true] at hz
      have hr : len * 16 ≤ 140737488351232 := by
        have := sized_slice hreach (j := j) (t := 29) (e := 9) hts hds Try.underlying29
        rw [bytes9] at this
        simp only [strs, List.length_map, List.length_take, List.length_drop, reachBytes] at this
        omega
      obtain ⟨b, off, spot⟩ := a
      have hspot : spot = none := by simpa [Addr.add] using World.cell?_spot (hcell 0 (by omega))
      subst hspot
      have hbW : b < W.heap.size := hlt (.cell b off) (MemPlace.mem_row.2 ⟨0, by omega, by simp⟩)
      have hlen : (ss.take len).length = len := by rw [List.length_take]; omega
      refine ⟨ss.take len, ⟨_, cap, by rw [hlen], fun _ => ⟨b, off, rfl, hbW, fun i hi => ?_⟩⟩, by omega, fun s hs => sized_strs hreach hts hds Try.underlying29 s hs⟩
      have hi' : i < ss.length := by rw [hlen] at hi; omega
      rw [← addr_plain, hcell i hi']
      simp [List.getD, List.getElem?_eq_getElem hi']
end
theorem StrsAt.later {W W' : World} {v : Value} {l : List ByteArray} (h : StrsAt W v l) (hB : Below W.heap.size W W') : StrsAt W' v l := by
  obtain ⟨a, cap, h1, h2⟩ := h
  refine ⟨a, cap, h1, fun hne => ?_⟩
  obtain ⟨b, off, e, hb, hc⟩ := h2 hne
  exact ⟨b, off, e, Nat.lt_of_lt_of_le hb hB.size, fun j hj => (World.cell?_of_block (w := W) (hB.block b hb)).trans (hc j hj)⟩
end Go.Proofs.Ytiiplchakanomaa

