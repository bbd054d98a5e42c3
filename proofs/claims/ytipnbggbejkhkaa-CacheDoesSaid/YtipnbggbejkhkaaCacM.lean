/-
  A cache and the reference side by side.
-/
import Derived.Test.YtipnbggbejkhkaaCacIX
import Derived.Test.YtipnbggbejkhkaaCacJ
namespace Go.Proofs.Ytipnbggbejkhkaa
open Go.RowKit Go

/-- a cache and the reference, which share no block -/
structure Pair (w0 : World) (F : Nat → Prop) (c k : Nat) (L : List (Int × ByteArray)) (G : Nat → Prop) (m : Nat) (v : Value) (L' : List (Int × ByteArray)) (w : World) : Prop where
  cx : CI.CX w0 F c k L w
  ref : RefAt w0.heap.size G m k v L' w
  apart : ∀ i, F i → ¬ G i

section
variable {w0 w w' : World} {F F' G : Nat → Prop} {c k m : Nat} {L L' L2 : List (Int × ByteArray)} {v : Value}
theorem Pair.cache (h : Pair w0 F c k L G m v L' w) (hc : CI.CX w0 F' c k L2 w') (hs : Step F F' w w') : Pair w0 F' c k L2 G m v L' w' :=
  ⟨hc, h.ref.stay hs.1 (fun b hb hF => h.apart b hF hb), fun i hi hG => by
    rcases hs.2 i hi with h1 | h1
    · exact h.apart i h1 hG
    · have := h.ref.lt hG; omega⟩
theorem Pair.refs (h : Pair w0 F c k L G m v L' w) (hr : RefLeft w0.heap.size G m k L2 w w') : ∃ v2 G2, Pair w0 F c k L G2 m v2 L2 w' ∧ Stir G w w' := by
  obtain ⟨v2, G2, h1, h2, h3⟩ := hr
  exact ⟨v2, G2, ⟨h.cx.stay h2 (fun i hi => h.apart i hi) (fun i hi => h.ref.lowG hi), h1, fun i hi hG => by
    rcases h3 i hG with h4 | h4
    · exact h.apart i hi h4
    · have := h.cx.lt hi; omega⟩, h2⟩
theorem Pair.later (h : Pair w0 F c k L G m v L' w) (b : Below w.heap.size w w') : Pair w0 F c k L G m v L' w' :=
  ⟨h.cx.later b, h.ref.later b, h.apart⟩
/-- something else of the call's own has turned -/
theorem Pair.stay {X : Nat → Prop} (h : Pair w0 F c k L G m v L' w) (b : Stir X w w') (h1 : ∀ i, F i → ¬ X i) (h2 : ∀ i, G i → ¬ X i) (h3 : ∀ i, X i → w0.heap.size ≤ i) : Pair w0 F c k L G m v L' w' :=
  ⟨h.cx.stay b h1 h3, h.ref.stay b h2, h.apart⟩
end
theorem getV_form (L : List (Int × ByteArray)) (k : Int) : ∃ s b, CI.getV L k = .tuple #[.string s, .bool b] ∧ getV L k = .tuple #[.string s, .bool b] := by
  unfold CI.getV getV
  cases getL L k with
  | none => exact ⟨_, _, rfl, rfl⟩
  | some s => exact ⟨_, _, rfl, rfl⟩
theorem putV_form (r : Nat) (L : List (Int × ByteArray)) (k : Int) (s : ByteArray) : ∃ g b, CI.putV r L k s = .tuple #[.int .i64 g, .bool b] := by
  unfold CI.putV
  cases goneL r L k s with
  | none => exact ⟨_, _, rfl⟩
  | some s => exact ⟨_, _, rfl⟩
/-- the reference, when it is made -/
theorem ref_new {w0 w : World} {c k : Nat} {F : Nat → Prop} {L : List (Int × ByteArray)} (h : CI.CX w0 F c k L w) :
    Pair w0 F c k L (· = w.heap.size) w.heap.size (.slice none 0 0) [] (w.alloc (.cells #[.int .i64 k, .slice none 0 0] 34)) :=
  ⟨h.later ((Below.refl _ w).alloc (Nat.le_refl _) _), ⟨heap_alloc_new w _, World.ownsRow_nil _ _ _ _, fun i => by simp [Value.ownBlock], by simp [Value.ownBlock], h.2.size⟩, fun i hi e => by have := h.lt hi; omega⟩
end Go.Proofs.Ytipnbggbejkhkaa
