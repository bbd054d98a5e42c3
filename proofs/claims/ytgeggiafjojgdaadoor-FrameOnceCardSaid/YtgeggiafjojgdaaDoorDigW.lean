/-
  What a call does to one block of words, and to nothing else.
-/
import Derived.Test.YtgeggiafjojgdaaDoorDigMath
import Derived.Below
import Derived.Deep.Draws
namespace Go.Proofs.YtgeggiafjojgdaaDoor.DG
open Go.RowKit Go

/-- block b holds o now; nothing else has turned -/
structure Turned (b : Nat) (o : Obj) (w w' : World) : Prop where
  os : w'.os = w.os
  tape : w'.tape = w.tape
  output : w'.output = w.output
  size : w'.heap.size = w.heap.size
  here : w'.heap[b]? = some o
  block : ∀ k, k ≠ b → w'.heap[k]? = w.heap[k]?

theorem Turned.refl {b : Nat} {o : Obj} {w : World} (h : w.heap[b]? = some o) : Turned b o w w := ⟨rfl, rfl, rfl, rfl, h, fun _ _ => rfl⟩
theorem Turned.trans {b : Nat} {o o' : Obj} {w v u : World} (h : Turned b o w v) (k : Turned b o' v u) : Turned b o' w u :=
  ⟨k.os.trans h.os, k.tape.trans h.tape, k.output.trans h.output, k.size.trans h.size, k.here, fun i hi => (k.block i hi).trans (h.block i hi)⟩
theorem Turned.drew {b : Nat} {o : Obj} {w v : World} (h : Turned b o w v) : Turned b o w v.drew := ⟨h.os, h.tape, h.output, h.size, h.here, h.block⟩
theorem Turned.drewN {b n : Nat} {o : Obj} {w v : World} (h : Turned b o w v) : Turned b o w (v.drewN n) := ⟨h.os, h.tape, h.output, h.size, h.here, h.block⟩
theorem Turned.set {b i : Nat} {C : Array Value} {t : TypeId} {f : Nat × Nat} {w v : World} (h : Turned b (.cells C t f) w v) (u : Value) :
    Turned b (.cells (C.setIfInBounds i u) t f) w (v.setCell ⟨b, i, none⟩ u) := by
  refine ⟨h.os, h.tape, h.output, ?_, ?_, fun k hk => ?_⟩
  · simp [World.setCell, h.size]
  · simp [World.setCell, Array.getElem?_modify, h.here]
  · rw [Below.heap_setCell _ _ _ _ hk, h.block k hk]
theorem Turned.below {b B : Nat} {o : Obj} {w v : World} (h : Turned b o w v) (hb : B ≤ b) : Below B w v :=
  ⟨h.os, h.tape, h.output, Nat.le_of_eq h.size.symm, fun k hk => h.block k (by omega)⟩

/-- four words, and what lies behind them -/
def W4 (s : St) (r : List Value) (t : TypeId) : Obj := .cells ⟨u64 s.a :: u64 s.b :: u64 s.c :: u64 s.d :: r⟩ t (0, 0)
section
variable {w : World} {b : Nat} {s : St} {r : List Value} {t : TypeId}
theorem W4.c0 (h : w.heap[b]? = some (W4 s r t)) : w.cell? ⟨b, 0, none⟩ = some (.int .u64 s.a.toNat) := by simp [World.cell?, h, W4, u64]
theorem W4.c1 (h : w.heap[b]? = some (W4 s r t)) : w.cell? ⟨b, 1, none⟩ = some (.int .u64 s.b.toNat) := by simp [World.cell?, h, W4, u64]
theorem W4.c2 (h : w.heap[b]? = some (W4 s r t)) : w.cell? ⟨b, 2, none⟩ = some (.int .u64 s.c.toNat) := by simp [World.cell?, h, W4, u64]
theorem W4.c3 (h : w.heap[b]? = some (W4 s r t)) : w.cell? ⟨b, 3, none⟩ = some (.int .u64 s.d.toNat) := by simp [World.cell?, h, W4, u64]
theorem W4.fr (h : w.heap[b]? = some (W4 s r t)) (i : Nat) : w.frozen? ⟨b, i, none⟩ = false := by simp [World.frozen?, h, W4]
theorem W4.lt (h : w.heap[b]? = some (W4 s r t)) : b < w.heap.size := by
  rcases Nat.lt_or_ge b w.heap.size with hl | hg
  · exact hl
  · rw [Array.getElem?_eq_none hg] at h; cases h
theorem Turned.set0 {v : World} (h : Turned b (W4 s r t) w v) (x : UInt64) : Turned b (W4 ⟨x, s.b, s.c, s.d⟩ r t) w (v.setCell ⟨b, 0, none⟩ (.int .u64 x.toNat)) := by
  have := Turned.set (i := 0) h (.int .u64 x.toNat); simpa [W4, u64] using this
theorem Turned.set1 {v : World} (h : Turned b (W4 s r t) w v) (x : UInt64) : Turned b (W4 ⟨s.a, x, s.c, s.d⟩ r t) w (v.setCell ⟨b, 1, none⟩ (.int .u64 x.toNat)) := by
  have := Turned.set (i := 1) h (.int .u64 x.toNat); simpa [W4, u64] using this
theorem Turned.set2 {v : World} (h : Turned b (W4 s r t) w v) (x : UInt64) : Turned b (W4 ⟨s.a, s.b, x, s.d⟩ r t) w (v.setCell ⟨b, 2, none⟩ (.int .u64 x.toNat)) := by
  have := Turned.set (i := 2) h (.int .u64 x.toNat); simpa [W4, u64] using this
theorem Turned.set3 {v : World} (h : Turned b (W4 s r t) w v) (x : UInt64) : Turned b (W4 ⟨s.a, s.b, s.c, x⟩ r t) w (v.setCell ⟨b, 3, none⟩ (.int .u64 x.toNat)) := by
  have := Turned.set (i := 3) h (.int .u64 x.toNat); simpa [W4, u64] using this
end
end Go.Proofs.YtgeggiafjojgdaaDoor.DG

