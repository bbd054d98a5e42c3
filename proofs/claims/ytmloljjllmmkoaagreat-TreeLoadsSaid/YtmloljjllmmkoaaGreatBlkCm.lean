/-
  What is kept, asked for from the one that was used longest ago on: the order is the same; put so, another has it.
-/
import Derived.Test.YtmloljjllmmkoaaGreatCA
namespace Go.Proofs.YtmloljjllmmkoaaGreat
open Go
/-- behind so many of the last ones were asked for -/
def backL (L : List (Int × ByteArray)) (i : Nat) : List (Int × ByteArray) := L.drop i ++ L.take i
theorem backL_all (L : List (Int × ByteArray)) : backL L L.length = L := by simp [backL]
theorem backL_zero (L : List (Int × ByteArray)) : backL L 0 = L := by simp [backL]
section
variable {L : List (Int × ByteArray)} {i : Nat}
theorem filter_keep {A : List (Int × ByteArray)} {k : Int} (h : ∀ y ∈ A, y.1 ≠ k) : CI.dropL A k = A := by
  unfold CI.dropL
  rw [List.filter_eq_self]
  intro y hy
  simpa using h y hy
theorem get_other {A B : List (Int × ByteArray)} {k : Int} (h : ∀ y ∈ A, y.1 ≠ k) : CI.getL (A ++ B) k = CI.getL B k := by
  unfold CI.getL
  rw [List.find?_append]
  have : A.find? (fun x => decide (x.1 = k)) = none := by
    rw [List.find?_eq_none]
    intro y hy
    simpa using h y hy
  rw [this, Option.none_or]
theorem apart_keys (hn : (CI.keysL L).Nodup) (hi : i < L.length) : (∀ y ∈ L.take i, y.1 ≠ L[i].1) ∧ ∀ y ∈ L.drop (i + 1), y.1 ≠ L[i].1 := by
  have e : L = L.take i ++ L[i] :: L.drop (i + 1) := by rw [← List.drop_eq_getElem_cons hi, List.take_append_drop]
  unfold CI.keysL at hn
  rw [e, List.map_append, List.map_cons, List.nodup_append] at hn
  obtain ⟨_, h2, h3⟩ := hn
  rw [List.nodup_cons] at h2
  refine ⟨fun y hy he => ?_, fun y hy he => ?_⟩
  · exact h3 y.1 (List.mem_map_of_mem hy) L[i].1 List.mem_cons_self he
  · exact h2.1 (by rw [← he]; exact List.mem_map_of_mem hy)
theorem take_snoc (hi : i < L.length) : L.take (i + 1) = L.take i ++ [L[i]] := List.take_succ_eq_append_getElem hi
theorem get_back (hn : (CI.keysL L).Nodup) (hi : i < L.length) : CI.getL (backL L (i + 1)) L[i].1 = some L[i].2 := by
  obtain ⟨h1, h2⟩ := apart_keys hn hi
  unfold backL
  rw [take_snoc hi, get_other h2, get_other h1]
  simp [CI.getL]
theorem use_back (hn : (CI.keysL L).Nodup) (hi : i < L.length) : (L[i].1, L[i].2) :: CI.dropL (backL L (i + 1)) L[i].1 = backL L i := by
  obtain ⟨h1, h2⟩ := apart_keys hn hi
  have e : CI.dropL (backL L (i + 1)) L[i].1 = L.drop (i + 1) ++ L.take i := by
    have f1 := filter_keep h1
    have f2 := filter_keep h2
    unfold CI.dropL at f1 f2 ⊢
    unfold backL
    rw [take_snoc hi, List.filter_append, List.filter_append, f1, f2]
    simp
  rw [e]
  unfold backL
  rw [List.drop_eq_getElem_cons hi]
  rfl
theorem put_back (hn : (CI.keysL L).Nodup) (hi : i < L.length) (hl : L.length ≤ 32) : CI.putL 32 (L.drop (i + 1)) L[i].1 L[i].2 = L.drop i := by
  obtain ⟨h1, h2⟩ := apart_keys hn hi
  unfold CI.putL
  rw [filter_keep h2, show (L[i].1, L[i].2) :: L.drop (i + 1) = L.drop i from (List.drop_eq_getElem_cons hi).symm]
  rw [List.take_of_length_le]
  rw [List.length_drop]
  omega
/-- a round: what stands at this place is asked for, and put -/
def stepC (L : List (Int × ByteArray)) (p : List (Int × ByteArray) × List (Int × ByteArray)) (j : Nat) : List (Int × ByteArray) × List (Int × ByteArray) :=
  (CI.useL p.1 ((CI.keysL L).getD (L.length - 1 - j) 0), CI.putL 32 p.2 ((CI.keysL L).getD (L.length - 1 - j) 0) ((CI.getL p.1 ((CI.keysL L).getD (L.length - 1 - j) 0)).getD ⟨#[]⟩))
theorem stepC_eq (L : List (Int × ByteArray)) (p : List (Int × ByteArray) × List (Int × ByteArray)) (j : Nat) : stepC L p j = (CI.useL p.1 ((CI.keysL L).getD (L.length - 1 - j) 0), CI.putL 32 p.2 ((CI.keysL L).getD (L.length - 1 - j) 0) ((CI.getL p.1 ((CI.keysL L).getD (L.length - 1 - j) 0)).getD ⟨#[]⟩)) := rfl
theorem fold_range (hn : (CI.keysL L).Nodup) (hl : L.length ≤ 32) : ∀ j, j ≤ L.length → (List.range j).foldl (stepC L) (L, []) = (backL L (L.length - j), L.drop (L.length - j))
  | 0, _ => by simp [backL_all]
  | j + 1, h => by
    rw [List.range_succ, List.foldl_append, fold_range hn hl j (by omega)]
    simp only [List.foldl_cons, List.foldl_nil]
    have hi : L.length - 1 - j < L.length := by omega
    obtain ⟨i, hii⟩ : ∃ i, L.length - 1 - j = i := ⟨_, rfl⟩
    rw [hii] at hi
    have e1 : L.length - j = i + 1 := by omega
    have e2 : L.length - (j + 1) = i := by omega
    have hk : (CI.keysL L).getD i 0 = L[i].1 := by simp [CI.keysL, hi]
    unfold stepC
    rw [hii, e1, e2, hk]
    simp only
    rw [get_back hn hi, Option.getD_some, put_back hn hi hl]
    congr 1
    unfold CI.useL
    rw [get_back hn hi]
    exact use_back hn hi
end
end Go.Proofs.YtmloljjllmmkoaaGreat

