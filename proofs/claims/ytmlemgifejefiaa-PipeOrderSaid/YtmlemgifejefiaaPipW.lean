/-
  A channel's block.
-/
import Derived.Test.YtmlemgifejefiaaKitW
import Derived.Conc.LoneCalls
import Derived.Conc.LoneSelect
import Derived.Conc.LoneSelectN
namespace Go.Proofs.Ytmlemgifejefiaa
open Go.RowKit Go

theorem Stir.setChan {F : Nat → Prop} {w v : World} (h : Stir F w v) {c : Nat} (hc : F c ∨ w.heap.size ≤ c) (cap : Nat) (buf : Array Value) (cl : Bool) (s r : Nat) (tm : Bool) : Stir F w (v.setChan c cap buf cl s r tm) := by
  refine ⟨h.os, h.tape, h.output, by simpa [World.setChan] using h.size, fun k hk hn => ?_⟩
  have e : k ≠ c := by rintro rfl; rcases hc with h1 | h1; exact hn h1; omega
  simp only [World.setChan]
  rw [Array.getElem?_setIfInBounds_ne (Ne.symm e)]
  exact h.block k hk hn
theorem setChan_other {w : World} {c b : Nat} {o : Obj} (h : w.heap[b]? = some o) (hn : b ≠ c) (cap : Nat) (buf : Array Value) (cl : Bool) (s r : Nat) (tm : Bool) : (w.setChan c cap buf cl s r tm).heap[b]? = some o := by
  simp only [World.setChan]
  rw [Array.getElem?_setIfInBounds_ne (Ne.symm hn)]
  exact h
theorem setChan_here {w : World} {c : Nat} {o : Obj} (h : w.heap[c]? = some o) (cap : Nat) (buf : Array Value) (cl : Bool) (s r : Nat) (tm : Bool) : (w.setChan c cap buf cl s r tm).heap[c]? = some (.chan cap buf cl s r tm) := Go.Conc.heap_setChan w c cap buf cl s r tm (lt_of_heap h)
end Go.Proofs.Ytmlemgifejefiaa
