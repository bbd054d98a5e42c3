/-
  A visit by places: a block of a row, that stands in its row at a place, of a tree of so many bytes: how many bytes are below it, how many pointers it has, and what its parts' places are.
-/
import Derived.Test.YtmloljjllmmkoaaGreatTA
namespace Go.Proofs.YtmloljjllmmkoaaGreat.TR
open Go

theorem sp_vals : sp 0 = 240 ∧ sp 1 = 14400 ∧ sp 2 = 864000 := ⟨rfl, rfl, rfl⟩
/-- how many blocks a row has -/
theorem rows_val {n l : Nat} (hn : n ≤ 16384) (hl : l < (rowsL n).length) : (rowsL n)[l] = (n + sp l - 1) / sp l := by
  obtain ⟨s0, s1, s2⟩ := sp_vals
  by_cases h0 : n = 0
  · subst h0
    have e : rowsL 0 = [] := rowsL_nil.2 rfl
    simp [e] at hl
  · have e := rows_is h0 hn
    have hc : cuts n = (n + 239) / 240 := rfl
    by_cases h1 : n ≤ 240
    · rw [if_pos h1] at e
      simp only [e] at hl ⊢
      have : l = 0 := by simp at hl; omega
      subst this
      rw [s0]
      simp only [List.getElem_cons_zero]
      omega
    · rw [if_neg h1] at e
      by_cases h2 : n ≤ 14400
      · rw [if_pos h2] at e
        simp only [e] at hl ⊢
        have : l = 0 ∨ l = 1 := by simp at hl; omega
        rcases this with rfl | rfl
        · rw [s0]
          simp only [List.getElem_cons_zero]
          omega
        · rw [s1]
          simp only [List.getElem_cons_succ, List.getElem_cons_zero]
          omega
      · rw [if_neg h2] at e
        simp only [e] at hl ⊢
        have : l = 0 ∨ l = 1 ∨ l = 2 := by simp at hl; omega
        rcases this with rfl | rfl | rfl
        · rw [s0]
          simp only [List.getElem_cons_zero]
          omega
        · rw [s1]
          simp only [List.getElem_cons_succ, List.getElem_cons_zero]
          omega
        · rw [s2]
          simp only [List.getElem_cons_succ, List.getElem_cons_zero]
          omega
theorem loopN_congr {f g : Nat → VS → RT} : ∀ (k i : Nat) (x : VS), (∀ j, i ≤ j → j < i + k → ∀ y, f j y = g j y) → loopN f k i x = loopN g k i x
  | 0, i, x, _ => rfl
  | k + 1, i, x, h => by
    rw [loopN, loopN, h i (Nat.le_refl _) (by omega)]
    split
    · rw [loopN_congr k (i + 1) _ (fun j h1 h2 => h j (by omega) (by omega))]
    · rfl
/-- so many bytes are below a block at a place -/
def below (s l a : Nat) : Nat := min (sp l) (s - sp l * a)
theorem below_part {s l a i : Nat} (hi : i < 60) : min (sp l) (below s (l + 1) a - i * sp l) = below s l (60 * a + i) := by
  unfold below
  rw [sp_succ]
  have hp := sp_pos l
  generalize sp l = E at *
  have e1 : E * (60 * a + i) = 60 * E * a + i * E := by rw [Nat.mul_add, Nat.mul_comm E i, ← Nat.mul_assoc, Nat.mul_comm E 60]
  have e2 : i * E + E ≤ 60 * E := by
    have : (i + 1) * E ≤ 60 * E := Nat.mul_le_mul_right _ (by omega)
    rw [Nat.add_mul, Nat.one_mul] at this
    exact this
  rw [e1]
  generalize i * E = X at *
  generalize 60 * E * a = Y at *
  omega
/-- a visit of a block at a place, by the places of its parts -/
theorem nd_place (chunks : Bool) (l : Nat) (x : VS) (v : Int) (s a : Nat) (ha : 60 * a < (s + sp l - 1) / sp l) :
    nd chunks (l + 1) x v (below s (l + 1) a) =
      if (rdOne x v (l + 1) (4 * manyN ((s + sp l - 1) / sp l) a)).e = 0 then
        (rdOne x v (l + 1) (4 * manyN ((s + sp l - 1) / sp l) a)).and (loopN (fun i y => nd chunks l y (ptrAt (x.read v).2.1 i) (below s l (60 * a + i))) (manyN ((s + sp l - 1) / sp l) a) 0 (rdOne x v (l + 1) (4 * manyN ((s + sp l - 1) / sp l) a)).x)
      else ⟨(rdOne x v (l + 1) (4 * manyN ((s + sp l - 1) / sp l) a)).e, [], (rdOne x v (l + 1) (4 * manyN ((s + sp l - 1) / sp l) a)).x⟩ := by
  have hp := pcs_many (sp_pos l) (rfl : (s + sp l - 1) / sp l = (s + sp l - 1) / sp l) ha
  have hb : below s (l + 1) a = min (60 * sp l) (s - 60 * sp l * a) := by unfold below; rw [sp_succ]
  rw [← hb] at hp
  rw [nd, hp]
  congr 2
  refine loopN_congr _ _ _ (fun j _ hj y => ?_)
  have hj60 : j < 60 := by unfold manyN at hj; omega
  rw [below_part hj60]
theorem nd_chunk (chunks : Bool) (x : VS) (v : Int) (s a : Nat) : nd chunks 0 x v (below s 0 a) = if chunks then rdOne x v 0 (min 240 (s - 240 * a)) else ⟨0, [(0, v, none0)], x⟩ := rfl
/-- a whole blob, as its root at the first place -/
theorem ndBlob_place (chunks : Bool) (x : VS) (root size : Int) (hb : badBlob root size = false) (h0 : size ≠ 0) : ndBlob chunks x root size = nd chunks ((rowsL size.toNat).length - 1) x root (below size.toNat ((rowsL size.toNat).length - 1) 0) := by
  have hs : 0 ≤ size ∧ size ≤ 16384 := by
    unfold badBlob at hb
    simp only [Bool.or_eq_false_iff, decide_eq_false_iff_not] at hb
    omega
  rw [ndBlob, if_neg (by rw [hb]; simp), if_neg h0]
  congr 1
  obtain ⟨n, rfl⟩ : ∃ n : Nat, size = (n : Int) := ⟨size.toNat, by omega⟩
  rw [Int.toNat_natCast]
  have hn0 : n ≠ 0 := by omega
  have hn : n ≤ 16384 := by omega
  obtain ⟨s0, s1, s2⟩ := sp_vals
  unfold below
  rw [Nat.mul_zero, Nat.sub_zero, rows_is hn0 hn]
  split
  · show n = min (sp 0) n; omega
  · split
    · show n = min (sp 1) n; omega
    · show n = min (sp 2) n; omega
end Go.Proofs.YtmloljjllmmkoaaGreat.TR

