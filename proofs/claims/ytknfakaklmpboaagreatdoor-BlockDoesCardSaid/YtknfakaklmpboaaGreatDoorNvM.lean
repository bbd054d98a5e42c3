/-
  A law's logs: laid; the same texts.
-/
import Derived.Test.YtknfakaklmpboaaGreatDoorNvL
import Derived.Test.YtknfakaklmpboaaGreatDoorMC
namespace Go.Proofs.YtknfakaklmpboaaGreatDoor
open Go.RowKit Go Go.Maps SM

theorem results_tmp5 {fn : Func} {t u v x y : Tmp} (h : fn.results = #[.tmp t, .tmp u, .tmp v, .tmp x, .tmp y]) (tmps : Array Value) (P : Program) (w : World) :
    (results fn tmps).run P w = .ok (.tuple #[tmps.getD t undef, tmps.getD u undef, tmps.getD v undef, tmps.getD x undef, tmps.getD y undef]) w := by
  simp [results, h]
theorem ref_new {w w' : World} {r n : Nat} (h : RNew w r n w') : ∃ v0, RefAt r w.heap.size (fresh (blank n)) [] v0 (.slice none 0 0) (.slice none 0 0) ⟨#[]⟩ w' ∧ w.heap.size ≤ r ∧ Below w.heap.size w w' := by
  obtain ⟨hl, a, c, e1, e2, e3⟩ := h
  have hln : (blank n).length = n := by simp [blank]
  refine ⟨.slice a n c, ⟨e1, ?_, World.ownsRow_nil _ _ _ _, World.ownsRow_nil _ _ _ _, fun k => by simp [fresh], Nat.zero_le _, fun h => absurd rfl h, Nat.zero_le _, hl⟩, hl, e3⟩
  show w'.ownsRow w.heap.size 9 1 (.slice a n c) (blank n).length (strVals (blank n))
  rw [hln]
  exact e2
section
variable {base b g m r q : Nat} {s : DS} {zs : List Int} {v v0 v1 v2 : Value} {kp : ByteArray} {x : LS} {l : Nat} {w w' : World}
theorem RefAt.lower {base' : Nat} (h : RefAt r base s zs v0 v1 v2 kp w) (hb : base' ≤ base) : RefAt r base' s zs v0 v1 v2 kp w :=
  ⟨h.obj, h.st.mono hb, h.lo.mono hb, h.ba.mono hb, h.bads, h.few, h.keep, h.kple, Nat.le_trans hb h.low⟩
/-! ### the same texts -/
/-- a slice of texts at a world -/
def TextsAt (W : World) (v : Value) (l : List ByteArray) : Prop :=
  ∃ a cap, v = .slice a l.length cap ∧ (l ≠ [] → ∃ b off, a = some ⟨b, off, none⟩ ∧ ∀ j (h : j < l.length), W.cell? ⟨b, off + j, none⟩ = some (.string l[j]))
theorem texts_of_row {W : World} {base : Nat} {v : Value} {l : List ByteArray} (h : W.ownsRow base 9 1 v l.length (strVals l)) : TextsAt W v l := by
  rcases h.2 with ⟨rfl, h0⟩ | ⟨g, cap, cur, rfl, _, hg, h4, h5, h6, h7⟩
  · exact ⟨none, 0, by rw [h0], fun hne => absurd (List.eq_nil_of_length_eq_zero h0) hne⟩
  · refine ⟨_, cap, rfl, fun _ => ⟨g, 0, rfl, fun i hi => ?_⟩⟩
    have := h.cellAt (g := g) (cap := cap) i (by omega)
    rw [Nat.zero_add, this]
    simp [strVals, hi]
theorem lt_of_cell {W : World} {a : Addr} {v : Value} (h : W.cell? a = some v) : a.block < W.heap.size := by
  rcases Nat.lt_or_ge a.block W.heap.size with h' | h'
  · exact h'
  · simp [World.cell?, Array.getElem?_eq_none h'] at h
theorem text_ne {a b : ByteArray} (h : a ≠ b) : (a.toList == b.toList) = false ∧ (a.toList != b.toList) = true := texts_ne h
end
end Go.Proofs.YtknfakaklmpboaaGreatDoor

