/-
  What a call may turn: some blocks that were there, and what is new.
-/
import Derived.Test.YtiiplchakanomaaRows
import Derived.Below
import Derived.WalkKit
import Derived.Outline
import Derived.Lib.Hide
import Derived.Deep.Draws
import Derived.Maps.OwnSet
namespace Go.Proofs.Ytiiplchakanomaa
open Go.RowKit Go

/-- the blocks of F, and new ones, may have turned; nothing else has -/
structure Stir (F : Nat → Prop) (w w' : World) : Prop where
  os : w'.os = w.os
  tape : w'.tape = w.tape
  output : w'.output = w.output
  size : w.heap.size ≤ w'.heap.size
  block : ∀ k, k < w.heap.size → ¬ F k → w'.heap[k]? = w.heap[k]?

section
variable {F G : Nat → Prop} {w v u : World}
theorem Stir.refl (F : Nat → Prop) (w : World) : Stir F w w := ⟨rfl, rfl, rfl, Nat.le_refl _, fun _ _ _ => rfl⟩
theorem Stir.trans (h : Stir F w v) (k : Stir G v u) (hG : ∀ i, G i → F i ∨ w.heap.size ≤ i) : Stir F w u :=
  ⟨k.os.trans h.os, k.tape.trans h.tape, k.output.trans h.output, Nat.le_trans h.size k.size, fun i hi hn =>
    (k.block i (Nat.lt_of_lt_of_le hi h.size) (fun g => by rcases hG i g with h1 | h1; exact hn h1; omega)).trans (h.block i hi hn)⟩
theorem Stir.of_below (h : Below w.heap.size w v) : Stir F w v := ⟨h.os, h.tape, h.output, h.size, fun k hk _ => h.block k hk⟩
theorem Stir.and_below (h : Stir F w v) (k : Below v.heap.size v u) : Stir F w u := h.trans (Stir.of_below (F := fun _ => False) k) (fun _ h => h.elim)
theorem Stir.below {B : Nat} (h : Stir F w v) (hF : ∀ k, F k → B ≤ k) (hB : B ≤ w.heap.size) : Below B w v :=
  ⟨h.os, h.tape, h.output, h.size, fun k hk => h.block k (by omega) (fun f => by have := hF k f; omega)⟩
theorem Stir.weaken (h : Stir F w v) (hF : ∀ k, F k → G k) : Stir G w v := ⟨h.os, h.tape, h.output, h.size, fun k hk hn => h.block k hk (fun f => hn (hF k f))⟩
theorem Stir.drewN (h : Stir F w v) (n : Nat) : Stir F w (v.drewN n) := ⟨h.os, h.tape, h.output, h.size, h.block⟩
theorem Stir.drew (h : Stir F w v) : Stir F w v.drew := ⟨h.os, h.tape, h.output, h.size, h.block⟩
theorem Stir.set (h : Stir F w v) {b i : Nat} (hb : F b ∨ w.heap.size ≤ b) (x : Value) : Stir F w (v.setCell ⟨b, i, none⟩ x) := by
  refine ⟨h.os, h.tape, h.output, by simpa [World.setCell] using h.size, fun k hk hn => ?_⟩
  rw [Below.heap_setCell _ _ _ _ (by rintro rfl; rcases hb with h1 | h1; exact hn h1; omega), h.block k hk hn]
theorem Stir.turned (h : Stir F w v) {b : Nat} (hb : F b ∨ w.heap.size ≤ b) (k : v.mapTurned u b) : Stir F w u := by
  have g := k.grown
  exact ⟨g.os.trans h.os, g.tape.trans h.tape, g.output.trans h.output, Nat.le_trans h.size g.size, fun i hi hn =>
    (g.block i (Nat.lt_of_lt_of_le hi h.size) (by intro e; cases e; rcases hb with h1 | h1; exact hn h1; omega)).trans (h.block i hi hn)⟩
end
theorem lt_of_heap {w : World} {b : Nat} {o : Obj} (h : w.heap[b]? = some o) : b < w.heap.size := (Array.getElem?_eq_some_iff.1 h).1
theorem grown_of_below {w v : World} (h : Below w.heap.size w v) : w.grownBy v none := ⟨h.os, h.tape, h.output, h.size, fun k hk _ => h.block k hk⟩
theorem Stir.keep {F : Nat → Prop} {w v : World} (h : Stir F w v) {b : Nat} {o : Obj} (hb : w.heap[b]? = some o) (hn : ¬ F b) : v.heap[b]? = some o := (h.block b (lt_of_heap hb) hn).trans hb
theorem keeps_of {w v : World} {b : Nat} {o : Obj} (h : Below w.heap.size w v) (hb : w.heap[b]? = some o) : v.heap[b]? = some o := (h.block b (lt_of_heap hb)).trans hb
/-- a block with one cell turned -/
theorem heap_set {w : World} {b i : Nat} {C : Array Value} {t : TypeId} {f : Nat × Nat} (h : w.heap[b]? = some (.cells C t f)) (x : Value) : (w.setCell ⟨b, i, none⟩ x).heap[b]? = some (.cells (C.setIfInBounds i x) t f) := by
  simp [World.setCell, Array.getElem?_modify, h]
theorem heap_set_other {w : World} {b c i : Nat} {o : Obj} (h : w.heap[c]? = some o) (hn : c ≠ b) (x : Value) : (w.setCell ⟨b, i, none⟩ x).heap[c]? = some o := by
  rw [Below.heap_setCell _ _ _ _ hn]; exact h
theorem below_drewN {B : Nat} {a w : World} (h : Below B a w) (n : Nat) : Below B a (w.drewN n) := ⟨h.os, h.tape, h.output, h.size, h.block⟩

theorem Stir.alloc {F : Nat → Prop} {w v : World} (h : Stir F w v) (o : Obj) : Stir F w (v.alloc o) := h.and_below ((Below.refl _ v).alloc (Nat.le_refl _) o)
theorem heap_alloc_old {w : World} {b : Nat} {o : Obj} (h : w.heap[b]? = some o) (o' : Obj) : (w.alloc o').heap[b]? = some o := by
  rw [Below.heap_alloc w o' b (lt_of_heap h)]; exact h
theorem ne_of_heap {w : World} {b c : Nat} {o o' : Obj} (h : w.heap[b]? = some o) (h' : w.heap[c]? = some o') (hn : o ≠ o') : b ≠ c := by
  rintro rfl
  rw [h] at h'
  exact hn (Option.some.inj h')
def ptr (b : Nat) : Value := .pointer (some ⟨b, 0, none⟩)
end Go.Proofs.Ytiiplchakanomaa

