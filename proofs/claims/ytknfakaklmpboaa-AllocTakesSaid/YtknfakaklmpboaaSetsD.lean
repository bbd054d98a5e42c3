/-
  merge: the least text of what each pair of bytes makes.
-/
import Derived.Test.YtknfakaklmpboaaSetsC
import Derived.Test.YtknfakaklmpboaaRound
namespace Go.Proofs.Ytknfakaklmpboaa
open Go.RowKit Go.Shelf Go SM
attribute [local go_sem] Oper.semAt_some

/-- what a slice that owns its row holds, cell by cell -/
theorem row_cells {W : World} {base : Nat} {e : TypeId} {v : Value} {n : Nat} {xs : List Value} (h : W.ownsRow base e 1 v n xs) (hv : v ≠ .slice none 0 0) :
    ∃ g cap, v = .slice (some ⟨g, 0, none⟩) n cap ∧ base ≤ g ∧ g < W.heap.size ∧ n ≤ cap ∧ cap ≤ maxLen ∧ ∀ (i : Nat) u, xs[i]? = some u → W.cell? ⟨g, i, none⟩ = some u := by
  rcases h.2 with ⟨e, _⟩ | ⟨g, cap, cur, h1, h2, h3, h4, h5, h6, h7⟩
  · exact absurd e hv
  · refine ⟨g, cap, h1, h2, (Array.getElem?_eq_some_iff.1 h3).1, h4, h5, fun i u hu => ?_⟩
    have hi : i < n := by
      have := (List.getElem?_eq_some_iff.1 hu).1
      have := h.1
      omega
    rw [← h7, List.getElem?_take_of_lt (by omega)] at hu
    simp only [World.cell?, h3]
    simpa using hu

/-- boxes that are kept by an append to another box's slice -/
theorem keepB_appended {l : List (Nat × TypeId × Value)} {W w1 : World} {n₀ B : Nat} {e : TypeId} {v u : Value} {k : Nat} {xs : List Value} {tmp : Obj} (hl : ∀ p ∈ l, p.2.1 ≠ e ∧ p.1 ≠ B)
    (hrow : W.ownsRow n₀ e 1 v k xs) (hgrow : (W.alloc tmp).grownBy w1 v.ownBlock) : KeepB l W (w1.setCell ⟨B, 0, none⟩ u) := fun p hp h =>
  ((h.alloc tmp).kept hgrow (h.not_row (hl p hp).1 hrow)).other (hl p hp).2 u

theorem info5 : (Try.prog.info? 5).map (fun i => (i.zero, i.size, i.bytes)) = some (some (.int .u8 0), 1, 1) := by kernel_rfl

end Go.Proofs.Ytknfakaklmpboaa

