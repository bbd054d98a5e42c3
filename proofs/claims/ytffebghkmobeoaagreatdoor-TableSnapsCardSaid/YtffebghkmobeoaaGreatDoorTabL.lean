/-
  The order of texts, byte by byte: no text is below itself; of two, one at most is below the other, and one is, unless they are one.
-/
import Derived.Test.YtffebghkmobeoaaGreatDoorTabMath
namespace Go.Proofs.YtffebghkmobeoaaGreatDoor
open Go.RowKit Go

theorem u8_lt_irrefl (a : UInt8) : ¬ a < a := by rw [UInt8.lt_iff_toNat_lt]; omega
theorem bl_irrefl : ∀ x : List UInt8, Op.bytesLess x x = false
  | [] => rfl
  | a :: x => by
    rw [Op.bytesLess, bl_irrefl x]
    simp
theorem bl_asymm : ∀ x y : List UInt8, Op.bytesLess x y = true → Op.bytesLess y x = false
  | [], [], h => by cases h
  | _ :: _, [], h => by cases h
  | [], _ :: _, _ => rfl
  | a :: x, b :: y, h => by
    rw [Op.bytesLess] at h ⊢
    simp only [Bool.or_eq_true, decide_eq_true_eq, Bool.and_eq_true, beq_iff_eq] at h
    rcases h with h | ⟨rfl, h⟩
    · have h1 : ¬ b < a := by rw [UInt8.lt_iff_toNat_lt] at h ⊢; omega
      have h2 : (b == a) = false := by
        rw [beq_eq_false_iff_ne]; rintro rfl; exact u8_lt_irrefl _ h
      simp [h1, h2]
    · rw [bl_asymm x y h]
      simp
theorem bl_total : ∀ x y : List UInt8, Op.bytesLess x y = false → (x == y) = false → Op.bytesLess y x = true
  | [], [], _, h => by cases h
  | _ :: _, [], _, _ => rfl
  | [], _ :: _, h, _ => by cases h
  | a :: x, b :: y, h, h2 => by
    rw [Op.bytesLess] at h ⊢
    simp only [Bool.or_eq_false_iff, decide_eq_false_iff_not, Bool.and_eq_false_iff] at h
    by_cases hab : a = b
    · subst hab
      have h3 : Op.bytesLess x y = false := by
        rcases h.2 with h | h
        · simp at h
        · exact h
      have h4 : (x == y) = false := by
        rw [beq_eq_false_iff_ne] at h2 ⊢
        intro e; exact h2 (by rw [e])
      rw [bl_total x y h3 h4]
      simp
    · have h1 : b < a := by
        have := h.1
        rw [UInt8.lt_iff_toNat_lt] at this ⊢
        have hne : a.toNat ≠ b.toNat := fun e => hab (UInt8.toNat_inj.1 e)
        omega
      simp [h1]
end Go.Proofs.YtffebghkmobeoaaGreatDoor

