/-
  Bytes as a disk, as the reference's disk, and the reference's Open of a log in one answer.
-/
import Derived.Test.YteboacjniokfpaaGreatDoorNvU
import Derived.Test.YteboacjniokfpaaGreatDoorMC
namespace Go.Proofs.YteboacjniokfpaaGreatDoor
open Go.RowKit Go Go.Maps SM

theorem ref_bytes {x : ByteArray} {w w' : World} {r k : Nat} (h : Opening x w r k w') (hr : w.heap.size ≤ r) : ∃ v0, RefAt r w.heap.size (fresh (parts x k)) [] v0 (.slice none 0 0) (.slice none 0 0) ⟨#[]⟩ w' ∧ Below w.heap.size w w' := by
  obtain ⟨a, c, e1, e2, e3⟩ := h
  refine ⟨.slice a k c, ⟨e1, ?_, World.ownsRow_nil _ _ _ _, World.ownsRow_nil _ _ _ _, fun k => by simp [fresh], Nat.zero_le _, fun h => absurd rfl h, Nat.zero_le _, hr⟩, e3⟩
  show w'.ownsRow w.heap.size 9 1 (.slice a k c) (parts x k).length (strVals (parts x k))
  rw [parts_len]
  exact e2
section
variable {r base : Nat} {s : DS} {zs : List Int} {v0 v1 v2 : Value} {kp : ByteArray} {w : World}
theorem rlopen_row (h : RefAt r base s zs v0 v1 v2 kp w) (hk : s.Ok) (hm : s.made < 1099511627776) :
    Calls Tryz.prog 20 #[.pointer (some ⟨r, 0, none⟩)] w fun e w' =>
      ((openE s ≠ 0 ∧ e = .returned (.tuple #[.pointer none, .int .i64 (openE s)])) ∨
      (openE s = 0 ∧ ∃ q u, e = .returned (.tuple #[.pointer (some ⟨q, 0, none⟩), .int .i64 0]) ∧ RD q r (openG s) base u false s zs v0 v2 w' w' ∧ w'.ownsRow w.heap.size 9 1 u ((openRecs s).getD []).length (strVals ((openRecs s).getD [])) ∧ w.heap.size ≤ q)) ∧ Below w.heap.size w w' := by
  by_cases hno : s.stay.length < 5 ∨ s.readE 0 ≠ 0 ∨ openForm s = true
  · refine (rlopen_no h hk hm hno).mono ?_
    rintro e w' ⟨h1, h2, h3⟩
    exact ⟨.inl ⟨h2, h1⟩, h3⟩
  · have h1 : ¬ s.stay.length < 5 := fun e => hno (.inl e)
    have h2 : s.readE 0 = 0 := Classical.byContradiction fun e => hno (.inr (.inl e))
    have h3 : openForm s = false := Bool.eq_false_iff.2 fun e => hno (.inr (.inr e))
    refine (rlopen_yes h hk hm h1 h2 h3).mono ?_
    rintro e w' (⟨e1, e2, e3⟩ | ⟨e1, q, u, e2, e3, e4, e5⟩)
    · exact ⟨.inl ⟨e1, e2⟩, e3⟩
    · exact ⟨.inr ⟨e1, q, u, e2, e3, e4⟩, e5⟩
theorem rlopen_any (h : RefAt r base s zs v0 v1 v2 kp w) (hk : s.Ok) (hm : s.made < 1099511627776) :
    Calls Tryz.prog 20 #[.pointer (some ⟨r, 0, none⟩)] w fun e w' =>
      ((openE s ≠ 0 ∧ e = .returned (.tuple #[.pointer none, .int .i64 (openE s)])) ∨
      (openE s = 0 ∧ ∃ q u, e = .returned (.tuple #[.pointer (some ⟨q, 0, none⟩), .int .i64 0]) ∧ RD q r (openG s) base u false s zs v0 v2 w' w' ∧ TextsAt w' u ((openRecs s).getD []))) ∧ Below w.heap.size w w' := by
  refine (rlopen_row h hk hm).mono ?_
  rintro e w' ⟨h1 | ⟨e1, q, u, e2, e3, e4, _⟩, h3⟩
  · exact ⟨.inl h1, h3⟩
  · exact ⟨.inr ⟨e1, q, u, e2, e3, texts_of_row e4⟩, h3⟩
end
/-- what was read is at most a half -/
theorem openRecs_fits {s : DS} {l : List ByteArray} (h : openRecs s = some l) (hf : openForm s = false) : (recB l).length ≤ 64 * halfN s ∧ ∀ r ∈ l, r.size ≤ 1300 := by
  obtain ⟨h1, h2⟩ := recsOf_is h
  rw [openForm, Bool.or_eq_false_iff, decide_eq_false_iff_not] at hf
  refine ⟨?_, h2⟩
  rw [h1, List.length_take]
  have := hf.2
  omega
end Go.Proofs.YteboacjniokfpaaGreatDoor

