/-
  What a reader answers of what was laid, of what was laid and cut short; and what it took: on lists.
-/
import Derived.Test.YtgeggiafjojgdaaDoorWirMath
namespace Go.Proofs.YtgeggiafjojgdaaDoor
open Go.RowKit Go

theorem top_le {n : Nat} (h : n ≤ top) : n ≤ 9223372036854775807 := by unfold top at h; omega
theorem numR_dg {n : Nat} {m : Int} (h : n ≤ top) (hm : (n : Int) ≤ m) (r : List UInt8) : numR ⟨dg n ++ r, 0⟩ m = (n, ⟨r, 0⟩) := by
  rw [numR_ok (r := ⟨dg n ++ r, 0⟩) rfl (scan_dg (top_le h) r) hm h, List.drop_left]
theorem numR_dg_over {n : Nat} {m : Int} (h : n ≤ top) (hm : ¬ (n : Int) ≤ m) (r : List UInt8) : numR ⟨dg n ++ r, 0⟩ m = (0, ⟨dg n ++ r, 31⟩) :=
  numR_over (r := ⟨dg n ++ r, 0⟩) rfl (scan_dg (top_le h) r) (fun e => hm e.1)
theorem low_ge {k : Nat} {m : Int} (h : (k : Int) ≤ m) (h2 : k ≤ 65536) : (k : Int) ≤ low m := by unfold low; split <;> omega
theorem low_lt {k : Nat} {m : Int} (h : ¬ (k : Int) ≤ m) (h2 : k ≤ 65536) : ¬ (k : Int) ≤ low m := by unfold low; split <;> omega
theorem len_top {k : Nat} (h : k ≤ 65536) : k ≤ top := by unfold top; omega
theorem textR_of {r r1 r2 : Rd} {m : Int} {n : Nat} {l : List UInt8} (h1 : numR r (low m) = (n, r1)) (h2 : bytesR r1 n = (l, r2)) : textR r m = (l, r2) := by
  unfold textR; rw [h1]; exact h2
theorem bytesR_err {r : Rd} (h : r.err ≠ 0) (n : Nat) : bytesR r n = ([], r) := if_neg h
theorem textR_dg {l : List UInt8} {m : Int} (h : l.length ≤ 65536) (hm : (l.length : Int) ≤ m) (r : List UInt8) : textR ⟨dg l.length ++ l ++ r, 0⟩ m = (l, ⟨r, 0⟩) := by
  rw [List.append_assoc]
  refine textR_of (numR_dg (len_top h) (low_ge hm h) (l ++ r)) ?_
  unfold bytesR
  rw [if_pos rfl, if_pos (by simp)]
  simp
theorem textR_over {l : List UInt8} {m : Int} (h : l.length ≤ 65536) (hm : ¬ (l.length : Int) ≤ m) (r : List UInt8) : textR ⟨dg l.length ++ l ++ r, 0⟩ m = ([], ⟨dg l.length ++ l ++ r, 31⟩) := by
  rw [List.append_assoc]
  exact textR_of (numR_dg_over (len_top h) (low_lt hm h) (l ++ r)) (bytesR_err (show (31 : Int) ≠ 0 by decide) _)
theorem manyR_lay : ∀ (ns : List Nat) (m : Int) (acc : List Nat) (r : List UInt8), (∀ n ∈ ns, n ≤ top ∧ (n : Int) ≤ m) → manyR ns.length ⟨layL ns ++ r, 0⟩ m acc = (acc ++ ns, ⟨r, 0⟩)
  | [], m, acc, r, _ => by simp [manyR, layL]
  | n :: ns, m, acc, r, h => by
    have hn := h n (by simp)
    rw [List.length_cons, manyR, show layL (n :: ns) ++ r = dg n ++ (layL ns ++ r) by simp [layL], numR_dg hn.1 hn.2]
    rw [if_pos rfl]
    simp only
    rw [manyR_lay ns m (acc ++ [n]) r (fun k hk => h k (by simp [hk]))]
    simp
theorem numsR_lay {ns : List Nat} {k m : Int} (h : ns.length ≤ 65536) (hk : (ns.length : Int) ≤ k) (hm : ∀ n ∈ ns, n ≤ top ∧ (n : Int) ≤ m) (r : List UInt8) : numsR ⟨dg ns.length ++ layL ns ++ r, 0⟩ k m = (ns, ⟨r, 0⟩) := by
  unfold numsR
  rw [List.append_assoc, numR_dg (len_top h) (low_ge hk h) (layL ns ++ r)]
  simp only
  rw [manyR_lay ns m [] r hm]
  rfl
/-- cut short -/
theorem numR_cut {n j : Nat} {m : Int} (h : n ≤ 9223372036854775807) (hj : j < (dg n).length) : numR ⟨(dg n).take j, 0⟩ m = (0, ⟨(dg n).take j, 32⟩) :=
  numR_fin (r := ⟨(dg n).take j, 0⟩) rfl (scan_cut h hj)
theorem textR_cut {l : List UInt8} {m : Int} {j : Nat} (h : l.length ≤ 65536) (hm : (l.length : Int) ≤ m) (hj : j < (dg l.length ++ l).length) : ∃ r, textR ⟨(dg l.length ++ l).take j, 0⟩ m = ([], ⟨r, 32⟩) := by
  rw [List.length_append] at hj
  by_cases h1 : j < (dg l.length).length
  · rw [List.take_append_of_le_length (by omega)]
    exact ⟨_, textR_of (numR_cut (by omega) h1) (bytesR_err (show (32 : Int) ≠ 0 by decide) _)⟩
  · rw [List.take_append, List.take_of_length_le (by omega)]
    refine ⟨l.take (j - (dg l.length).length), textR_of (numR_dg (len_top h) (low_ge hm h) _) ?_⟩
    unfold bytesR
    rw [if_pos rfl, if_neg]
    simp; omega
/-- what was taken -/
theorem numR_inv {r r1 : Rd} {m : Int} {n : Nat} (h : numR r m = (n, r1)) (h0 : r.err = 0) (h1 : r1.err = 0) : r.rest = dg n ++ r1.rest ∧ n ≤ top := by
  cases hs : scan r.rest with
  | fin => rw [numR_fin h0 hs] at h; cases h; cases h1
  | form => rw [numR_form h0 hs] at h; cases h; cases h1
  | num k z =>
    by_cases hm : (k : Int) ≤ m ∧ k ≤ top
    · rw [numR_ok h0 hs hm.1 hm.2] at h
      cases h
      obtain ⟨e1, e2, _, e4, _⟩ := scan_only hs
      exact ⟨by rw [e1, List.take_append_drop], hm.2⟩
    · rw [numR_over h0 hs hm] at h; cases h; cases h1
theorem textR_inv {r r2 : Rd} {m : Int} {l : List UInt8} (h : textR r m = (l, r2)) (h0 : r.err = 0) (h1 : r2.err = 0) : r.rest = dg l.length ++ l ++ r2.rest ∧ l.length ≤ 65536 := by
  unfold textR at h
  obtain ⟨n, r1, hp⟩ : ∃ n r1, numR r (low m) = (n, r1) := ⟨_, _, rfl⟩
  have hl := numR_low r m
  rw [hp] at h hl
  simp only at h hl
  unfold bytesR at h
  split at h
  · rename_i e
    split at h
    · rename_i e2
      cases h
      obtain ⟨e3, _⟩ := numR_inv hp h0 e
      have e4 : (List.take n r1.rest).length = n := by rw [List.length_take]; omega
      rw [e4]
      exact ⟨by rw [e3, List.append_assoc, List.take_append_drop], hl⟩
    · cases h; cases h1
  · rename_i e
    cases h
    exact absurd h1 e
theorem textR_bad {r r2 : Rd} {m : Int} {l : List UInt8} (h : textR r m = (l, r2)) (h1 : r2.err ≠ 0) : l = [] := by
  unfold textR bytesR at h
  split at h
  · split at h
    · cases h; exact absurd rfl h1
    · cases h; rfl
  · cases h; rfl
theorem numR_bad {r r2 : Rd} {m : Int} {n : Nat} (h : numR r m = (n, r2)) (h1 : r2.err ≠ 0) : n = 0 := by
  have := numR_zero r m (by rw [h]; exact h1)
  rwa [h] at this
/-- what is kept of a number by its low sixteen bits -/
theorem and_low (n : Int) : ∃ z : Nat, bits .and .i64 n 65535 = (z : Int) ∧ z ≤ 65535 := by
  have h : (BitVec.ofInt 64 n &&& BitVec.ofInt 64 65535).toNat ≤ 65535 := by
    rw [BitVec.toNat_and]
    exact Nat.le_trans Nat.and_le_right (by decide)
  refine ⟨_, ?_, h⟩
  show IntKind.i64.wrap ((BitVec.ofInt 64 n &&& BitVec.ofInt 64 65535).toNat : Int) = _
  exact wrap64 _ (by omega) (by omega)
/-! ### The same with nothing behind -/
theorem numR_dg0 {n : Nat} {m : Int} (h : n ≤ top) (hm : (n : Int) ≤ m) : numR ⟨dg n, 0⟩ m = (n, ⟨[], 0⟩) := by
  have := numR_dg h hm []; rwa [List.append_nil] at this
theorem numR_dg0_over {n : Nat} {m : Int} (h : n ≤ top) (hm : ¬ (n : Int) ≤ m) : numR ⟨dg n, 0⟩ m = (0, ⟨dg n, 31⟩) := by
  have := numR_dg_over h hm []; rwa [List.append_nil] at this
theorem textR_dg0 {l : List UInt8} {m : Int} (h : l.length ≤ 65536) (hm : (l.length : Int) ≤ m) : textR ⟨dg l.length ++ l, 0⟩ m = (l, ⟨[], 0⟩) := by
  have := textR_dg h hm []; rwa [List.append_nil] at this
theorem textR_dg0_over {l : List UInt8} {m : Int} (h : l.length ≤ 65536) (hm : ¬ (l.length : Int) ≤ m) : textR ⟨dg l.length ++ l, 0⟩ m = ([], ⟨dg l.length ++ l, 31⟩) := by
  have := textR_over h hm []; rwa [List.append_nil] at this
end Go.Proofs.YtgeggiafjojgdaaDoor

