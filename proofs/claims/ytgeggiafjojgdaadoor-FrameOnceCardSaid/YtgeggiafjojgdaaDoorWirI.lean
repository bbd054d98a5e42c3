/-
  A reader: Nums.
-/
import Derived.Test.YtgeggiafjojgdaaDoorWirF
import Derived.Test.YtgeggiafjojgdaaDoorWirG
namespace Go.Proofs.YtgeggiafjojgdaaDoor
open Go.RowKit Go

theorem info3 : (Tryd.prog.info? 3).map (fun i => (i.zero, i.size, i.bytes)) = some (some (.int .i64 0), 1, 8) := by kernel_rfl
def ints (l : List Nat) : List Value := l.map fun n : Nat => Value.int .i64 n
def toInts (l : List Nat) : List Int := l.map fun n : Nat => (n : Int)
theorem ints_snoc (l : List Nat) (n : Nat) : ints (l ++ [n]) = ints l ++ [.int .i64 n] := by simp [ints]
theorem intsAt_of_owns {W : World} {base : Nat} {v : Value} {l : List Nat} (h : W.ownsRow base 3 1 v l.length (ints l)) : IntsAt W v (toInts l) := by
  by_cases hv : v = .slice none 0 0
  · have hl : l.length = 0 := by
      rcases h.2 with ⟨_, e⟩ | ⟨g, cap, cur, h1, _⟩
      · exact e
      · rw [hv] at h1; cases h1
    obtain rfl : l = [] := List.eq_nil_of_length_eq_zero hl
    exact IntsAt.empty hv
  · obtain ⟨g, cap, rfl, _, hg, _, _, hc⟩ := row_cells h hv
    refine IntsAt.at g 0 cap (by simp [toInts]) hg fun j hj => ?_
    have hj' : j < l.length := by simpa [toInts] using hj
    rw [Nat.zero_add, hc j (.int .i64 (l[j] : Nat)) (by simp [ints, hj'])]
    simp [toInts]
theorem owns_moved {W W' : World} {base : Nat} {e : TypeId} {v : Value} {n b : Nat} {o : Obj} {xs : List Value} (h : W.ownsRow base e 1 v n xs) (hM : Moved b o W W') (hb : b < base) : W'.ownsRow base e 1 v n xs := by
  refine ⟨h.1, ?_⟩
  rcases h.2 with h1 | ⟨g, cap, cur, h1, h2, h3, h4⟩
  · exact .inl h1
  · exact .inr ⟨g, cap, cur, h1, h2, (hM.block g (Array.getElem?_eq_some_iff.1 h3).1 (by omega)).trans h3, h4⟩
theorem owns_below {W W' : World} {base : Nat} {e : TypeId} {v : Value} {n : Nat} {xs : List Value} (h : W.ownsRow base e 1 v n xs) (hB : Below W.heap.size W W') : W'.ownsRow base e 1 v n xs := by
  refine ⟨h.1, ?_⟩
  rcases h.2 with h1 | ⟨g, cap, cur, h1, h2, h3, h4⟩
  · exact .inl h1
  · exact .inr ⟨g, cap, cur, h1, h2, (hB.block g (Array.getElem?_eq_some_iff.1 h3).1).trans h3, h4⟩
theorem Moved.andB {b : Nat} {o : Obj} {w v u : World} (h : Moved b o w v) (hb : b < w.heap.size) (k : Below w.heap.size v u) : Moved b o w u :=
  ⟨k.os.trans h.os, k.tape.trans h.tape, k.output.trans h.output, Nat.le_trans h.size k.size, (k.block b hb).trans h.here, fun i hi hn => (k.block i hi).trans (h.block i hi hn)⟩

theorem numsR_rest_many : ∀ (k : Nat) (r : Rd) (m : Int) (acc : List Nat), (manyR k r m acc).2.rest.length ≤ r.rest.length
  | 0, r, m, acc => Nat.le_refl _
  | k + 1, r, m, acc => by
    rw [manyR]
    split
    · exact Nat.le_trans (numsR_rest_many k _ m _) (numR_rest r m)
    · exact numR_rest r m
theorem numsR_rest (r : Rd) (many m : Int) : (numsR r many m).2.rest.length ≤ r.rest.length := Nat.le_trans (numsR_rest_many _ _ _ _) (numR_rest _ _)

end Go.Proofs.YtgeggiafjojgdaaDoor

