/-
  What is written byte by byte is what is taken word by word.
-/
import Derived.Test.YtgeggiafjojgdaaDoorDigI0
namespace Go.Proofs.YtgeggiafjojgdaaDoor.DG
open Go.RowKit Go

theorem eat_append (s : St) (l m : List UInt8) (k : Nat) (h : 8 * k ≤ l.length) : eat s (l ++ m) k = eat s l k := by
  induction k with
  | zero => rfl
  | succ k ih =>
    simp only [eat]
    rw [ih (by omega), List.drop_append_of_le_length (by omega), List.take_append_of_le_length (by rw [List.length_drop]; omega)]

theorem word_or (l : List UInt8) (x : UInt8) (h : l.length < 8) : word l ||| (x.toUInt64 <<< UInt64.ofNat (8 * l.length)) = word (l ++ [x]) := by
  apply UInt64.toNat_inj.1
  rw [UInt64.toNat_or, word_toNat (by omega), word_toNat (by simp; omega), ← num_or l x h]
  congr 1
  rw [UInt64.toNat_shiftLeft, k64 _ (by omega), Nat.shiftLeft_eq, UInt8.toNat_toUInt64]
  exact Nat.mod_eq_of_lt (shl_lt x l.length h)

theorem ofNat_size (n : Nat) : (UInt8.ofNat n).toNat = n % 256 := UInt8.toNat_ofNat'
theorem size_succ (n : Nat) : UInt8.ofNat n + 1 = UInt8.ofNat (n + 1) := by
  apply UInt8.toNat_inj.1
  rw [UInt8.toNat_add, ofNat_size, ofNat_size, show (1 : UInt8).toNat = 1 from rfl]; omega

theorem puts_step (s : St) (l : List UInt8) (x : UInt8) (ih : puts ⟨s, 0, 0⟩ l = ⟨eat s l (l.length / 8), word (l.drop (8 * (l.length / 8))), UInt8.ofNat l.length⟩) :
    puts ⟨s, 0, 0⟩ (l ++ [x]) = ⟨eat s (l ++ [x]) ((l ++ [x]).length / 8), word ((l ++ [x]).drop (8 * ((l ++ [x]).length / 8))), UInt8.ofNat (l ++ [x]).length⟩ := by
  have hlen : (l ++ [x]).length = l.length + 1 := by simp
  have hr : (l.drop (8 * (l.length / 8))).length = l.length % 8 := by rw [List.length_drop]; omega
  have hp : word (l.drop (8 * (l.length / 8))) ||| (x.toUInt64 <<< UInt64.ofNat (8 * ((UInt8.ofNat l.length).toNat % 8))) = word (l.drop (8 * (l.length / 8)) ++ [x]) := by
    rw [ofNat_size, show l.length % 256 % 8 = l.length % 8 by omega, ← hr]
    exact word_or _ _ (by rw [hr]; omega)
  have hd : l.drop (8 * (l.length / 8)) ++ [x] = (l ++ [x]).drop (8 * (l.length / 8)) := by
    rw [List.drop_append_of_le_length (by omega)]
  rw [puts_append, ih]
  show put _ x = _
  rw [hlen, ← size_succ]
  simp only [put]
  rw [hp, hd]
  by_cases h8 : (UInt8.ofNat l.length + 1).toNat % 8 = 0
  · rw [if_pos h8]
    rw [size_succ, ofNat_size] at h8
    have hq : (l.length + 1) / 8 = l.length / 8 + 1 := by omega
    rw [hq]
    have e1 : eat s (l ++ [x]) (l.length / 8 + 1) = take (eat s l (l.length / 8)) (word ((l ++ [x]).drop (8 * (l.length / 8)))) := by
      simp only [eat]
      rw [eat_append s l [x] _ (by omega), List.take_of_length_le (by rw [List.length_drop, hlen]; omega)]
    have e2 : word ((l ++ [x]).drop (8 * (l.length / 8 + 1))) = 0 := by
      rw [List.drop_of_length_le (by rw [hlen]; omega)]; rfl
    rw [e1, e2]
  · rw [if_neg h8]
    rw [size_succ, ofNat_size] at h8
    have hq : (l.length + 1) / 8 = l.length / 8 := by omega
    rw [hq, eat_append s l [x] _ (by omega)]

theorem puts_len (s : St) : ∀ (n : Nat) (l : List UInt8), l.length = n → puts ⟨s, 0, 0⟩ l = ⟨eat s l (l.length / 8), word (l.drop (8 * (l.length / 8))), UInt8.ofNat l.length⟩
  | 0, l, h => by
    obtain rfl := List.eq_nil_of_length_eq_zero h
    rfl
  | n + 1, l, h => by
    have hne : l ≠ [] := fun e => by rw [e] at h; cases h
    have e := List.dropLast_concat_getLast hne
    have hd : l.dropLast.length = n := by rw [List.length_dropLast]; omega
    have := puts_step s l.dropLast (l.getLast hne) (puts_len s n l.dropLast hd)
    rwa [e] at this

/-- what stands behind any bytes -/
theorem puts_is (s : St) (l : List UInt8) : puts ⟨s, 0, 0⟩ l = ⟨eat s l (l.length / 8), word (l.drop (8 * (l.length / 8))), UInt8.ofNat l.length⟩ := puts_len s _ l rfl

theorem num_zeros (n : Nat) : num (List.replicate n 0) = 0 := by
  induction n with
  | zero => rfl
  | succ n ih => simp only [List.replicate_succ, num, ih]; rfl

/-- the last word: the rest, noughts, the length's byte -/
theorem last_word (r : List UInt8) (z : Nat) (c : UInt8) (h : r.length + z = 7) : word r ||| (c.toUInt64 <<< UInt64.ofNat 56) = word (r ++ List.replicate z 0 ++ [c]) := by
  have e : word r = word (r ++ List.replicate z 0) := by
    unfold word; rw [num_append, num_zeros]; rfl
  have := word_or (r ++ List.replicate z 0) c (by simp; omega)
  rw [e]
  rw [show (r ++ List.replicate z (0 : UInt8)).length = 7 by simp; omega, show 8 * 7 = 56 from rfl] at this
  exact this

/-- THE SUM, BYTE BY BYTE, IS THE SUM, WORD BY WORD. -/
theorem sum_words (key l : List UInt8) (z : Nat) (hz : 7 - l.length % 8 = z) :
    sum key l = close (eat (start (word (key.take 8)) (word (key.drop 8))) (l ++ List.replicate z 0 ++ [UInt8.ofNat l.length]) (l.length / 8 + 1)) := by
  unfold sum new
  rw [puts_is]
  unfold sumOf
  simp only
  rw [last_word _ z _ (by rw [List.length_drop]; omega)]
  generalize start (word (key.take 8)) (word (key.drop 8)) = s
  have h : eat s (l ++ List.replicate z 0 ++ [UInt8.ofNat l.length]) (l.length / 8 + 1) = take (eat s l (l.length / 8)) (word (l.drop (8 * (l.length / 8)) ++ List.replicate z 0 ++ [UInt8.ofNat l.length])) := by
    simp only [eat]
    rw [List.append_assoc l, eat_append s l _ _ (by omega), List.drop_append_of_le_length (by omega), List.take_of_length_le (by simp; omega), ← List.append_assoc]
  rw [h]
end Go.Proofs.YtgeggiafjojgdaaDoor.DG

