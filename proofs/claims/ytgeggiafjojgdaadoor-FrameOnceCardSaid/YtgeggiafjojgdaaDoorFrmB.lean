/-
  A message in memory; the nearest one, whether one may be, its bytes.
-/
import Derived.Test.YtgeggiafjojgdaaDoorFrmA
import Derived.Test.YtgeggiafjojgdaaDoorKitW
import Derived.Test.YtgeggiafjojgdaaDoorWirG
import Derived.Deep.RegionHeldLaw
import Derived.Deep.RegionHeld3
namespace Go.Proofs.YtgeggiafjojgdaaDoor
open Go.RowKit Go

def FrObj (f : Fr) : Obj := .cells #[.int .i64 f.kind, .int .i64 f.ses, .int .i64 f.seq, .string f.body] 23
structure FrAt (f : Fr) (b : Nat) (w : World) : Prop where
  obj : w.heap[b]? = some (FrObj f)
section
variable {f : Fr} {b : Nat} {w w' : World}
theorem FrAt.cells (h : FrAt f b w) : w.cell? ⟨b, 0, none⟩ = some (.int .i64 f.kind) ∧ w.cell? ⟨b, 1, none⟩ = some (.int .i64 f.ses) ∧ w.cell? ⟨b, 2, none⟩ = some (.int .i64 f.seq) ∧ w.cell? ⟨b, 3, none⟩ = some (.string f.body) := by
  have := h.obj
  unfold FrObj at this
  refine ⟨?_, ?_, ?_, ?_⟩ <;> simp [World.cell?, this]
theorem FrAt.fr (h : FrAt f b w) (i : Nat) : w.frozen? ⟨b, i, none⟩ = false := by
  have := h.obj
  unfold FrObj at this
  simp [World.frozen?, this]
theorem FrAt.later (h : FrAt f b w) (hB : Below w.heap.size w w') : FrAt f b w' := ⟨keeps_of hB h.obj⟩
theorem FrAt.new (w : World) (f : Fr) : FrAt f w.heap.size (w.alloc (FrObj f)) := ⟨heap_alloc_new _ _⟩
theorem FrAt.lt (h : FrAt f b w) : b < w.heap.size := lt_of_heap h.obj
theorem FrAt.drew (h : FrAt f b w) : FrAt f b w.drew := ⟨h.obj⟩
end
/-- a message is stored, cell by cell -/
theorem fr_store {z : Fr} (c : Fr) {b : Nat} {w : World} (h : FrAt z b w) : ∃ u1 u2 u3 u4,
    (w.setCell ⟨b, 0, none⟩ (.int .i64 c.kind) = u1 ∧ u1.setCell ⟨b, 1, none⟩ (.int .i64 c.ses) = u2 ∧ u2.setCell ⟨b, 2, none⟩ (.int .i64 c.seq) = u3 ∧ u3.setCell ⟨b, 3, none⟩ (.string c.body) = u4) ∧
    (w.cell? ⟨b, 0, none⟩ = some (.int .i64 z.kind) ∧ u1.cell? ⟨b, 1, none⟩ = some (.int .i64 z.ses) ∧ u2.cell? ⟨b, 2, none⟩ = some (.int .i64 z.seq) ∧ u3.cell? ⟨b, 3, none⟩ = some (.string z.body)) ∧
    (w.frozen? ⟨b, 0, none⟩ = false ∧ u1.frozen? ⟨b, 1, none⟩ = false ∧ u2.frozen? ⟨b, 2, none⟩ = false ∧ u3.frozen? ⟨b, 3, none⟩ = false) ∧ FrAt c b u4 ∧ Stir (fun i => i = b) w u4 := by
  obtain ⟨h⟩ := h
  unfold FrObj at h
  obtain ⟨u1, e1⟩ : ∃ u, w.setCell ⟨b, 0, none⟩ (.int .i64 c.kind) = u := ⟨_, rfl⟩
  have h1 : u1.heap[b]? = some (.cells #[.int .i64 c.kind, .int .i64 z.ses, .int .i64 z.seq, .string z.body] 23) := by rw [← e1, heap_set h]; rfl
  obtain ⟨u2, e2⟩ : ∃ u, u1.setCell ⟨b, 1, none⟩ (.int .i64 c.ses) = u := ⟨_, rfl⟩
  have h2 : u2.heap[b]? = some (.cells #[.int .i64 c.kind, .int .i64 c.ses, .int .i64 z.seq, .string z.body] 23) := by rw [← e2, heap_set h1]; rfl
  obtain ⟨u3, e3⟩ : ∃ u, u2.setCell ⟨b, 2, none⟩ (.int .i64 c.seq) = u := ⟨_, rfl⟩
  have h3 : u3.heap[b]? = some (.cells #[.int .i64 c.kind, .int .i64 c.ses, .int .i64 c.seq, .string z.body] 23) := by rw [← e3, heap_set h2]; rfl
  obtain ⟨u4, e4⟩ : ∃ u, u3.setCell ⟨b, 3, none⟩ (.string c.body) = u := ⟨_, rfl⟩
  have h4 : u4.heap[b]? = some (FrObj c) := by rw [← e4, heap_set h3]; rfl
  refine ⟨u1, u2, u3, u4, ⟨e1, e2, e3, e4⟩, ⟨?_, ?_, ?_, ?_⟩, ⟨?_, ?_, ?_, ?_⟩, ⟨h4⟩, ?_⟩
  · simp [World.cell?, h]
  · simp [World.cell?, h1]
  · simp [World.cell?, h2]
  · simp [World.cell?, h3]
  · simp [World.frozen?, h]
  · simp [World.frozen?, h1]
  · simp [World.frozen?, h2]
  · simp [World.frozen?, h3]
  · rw [← e4, ← e3, ← e2, ← e1]
    exact ((((Stir.refl (fun i => i = b) w).set (.inl rfl) _).set (.inl rfl) _).set (.inl rfl) _).set (.inl rfl) _

end Go.Proofs.YtgeggiafjojgdaaDoor

