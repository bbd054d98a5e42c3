/-
  What is asked, in a law's own variable; a Pick beside the reference's; rows that are zeroed.
-/
import Derived.Test.YtknfakaklmpboaaDoorAlcF
import Derived.Test.YtknfakaklmpboaaDoorAlcO
namespace Go.Proofs.YtknfakaklmpboaaDoor
open Go.ChangeShapes Go.WideShapes Go.ChangeAt Go.RowKit Go.Shelf Go SM PL AL

def AskAt (q : Nat) (u : ByteArray) (b f m : Int) (w : World) : Prop := w.heap[q]? = some (.cells #[.string u, .int .i64 b, .int .i64 f, .int .i64 m] 23 (0, 0))
section
variable {q : Nat} {u : ByteArray} {b f m : Int} {w w' : World}
theorem AskAt.cells (h : AskAt q u b f m w) : w.cell? ⟨q, 0, none⟩ = some (.string u) ∧ w.cell? ⟨q, 1, none⟩ = some (.int .i64 b) ∧ w.cell? ⟨q, 2, none⟩ = some (.int .i64 f) ∧ w.cell? ⟨q, 3, none⟩ = some (.int .i64 m) := by
  have h : w.heap[q]? = _ := h
  refine ⟨?_, ?_, ?_, ?_⟩ <;> simp [World.cell?, h]
theorem AskAt.later (h : AskAt q u b f m w) (hB : Below w.heap.size w w') : AskAt q u b f m w' := keeps_of hB h
theorem AskAt.new (w : World) (u : ByteArray) (b f m : Int) : AskAt w.heap.size u b f m (w.alloc (.cells #[.string u, .int .i64 b, .int .i64 f, .int .i64 m] 23)) := heap_alloc_new _ _
theorem AskAt.stay {G : Nat → Prop} (h : AskAt q u b f m w) (s : Stir G w w') (hn : ¬ G q) : AskAt q u b f m w' := s.keep h hn
theorem irow_blk {base n : Nat} {v : Value} {xs : List Value} (h : w.ownsRow base 3 1 v n xs) (hn : 0 < n) : ∃ g cap C, v = .slice (some ⟨g, 0, none⟩) n cap ∧ base ≤ g ∧ n ≤ cap ∧ w.heap[g]? = some (.cells C 3 (0, 0)) ∧ n ≤ C.size := by
  rcases h.2 with ⟨_, h0⟩ | ⟨g, cap, cur, h1, h2, h3, h4, h5, h6, h7⟩
  · omega
  · exact ⟨g, cap, cur, h1, h2, h4, h3, by omega⟩
theorem iblk_set {g i n : Nat} {v : Value} (h : ∃ C, w.heap[g]? = some (.cells C 3 (0, 0)) ∧ n ≤ C.size) : ∃ C, (w.setCell ⟨g, i, none⟩ v).heap[g]? = some (.cells C 3 (0, 0)) ∧ n ≤ C.size := by
  obtain ⟨C, h1, h2⟩ := h
  exact ⟨_, heap_set h1 v, by simpa using h2⟩
end
end Go.Proofs.YtknfakaklmpboaaDoor

