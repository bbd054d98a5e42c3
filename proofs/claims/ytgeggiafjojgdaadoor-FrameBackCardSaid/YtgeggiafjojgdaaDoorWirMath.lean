/-
  What numbers and texts are as bytes, and what a reader answers: on lists, with no program in it.
-/
import Derived.Test.YtgeggiafjojgdaaDoorRows
import Derived.WalkKit
import Derived.Laws.BitsAllLaws
namespace Go.Proofs.YtgeggiafjojgdaaDoor
open Go.RowKit Go

/-! ### Texts and lists -/
def bs (l : List UInt8) : ByteArray := ⟨l.toArray⟩
theorem bs_list (l : List UInt8) : (bs l).data.toList = l := by simp [bs]
theorem bs_size (l : List UInt8) : (bs l).size = l.length := by simp [bs, ByteArray.size]
theorem bs_self (s : ByteArray) : bs s.data.toList = s := rfl
theorem bs_append (a b : List UInt8) : bs (a ++ b) = bs a ++ bs b := by
  apply ByteArray.ext; simp [bs]
theorem bs_inj {a b : List UInt8} : bs a = bs b ↔ a = b := by
  constructor
  · intro h
    rw [← bs_list a, h, bs_list]
  · rintro rfl; rfl

/-! ### A number's bytes -/
def dg (n : Nat) : List UInt8 :=
  if n < 128 then [UInt8.ofNat n] else UInt8.ofNat (n % 128 + 128) :: dg (n / 128)
  termination_by n
  decreasing_by omega
theorem dg_lt {n : Nat} (h : n < 128) : dg n = [UInt8.ofNat n] := by rw [dg, if_pos h]
theorem dg_ge {n : Nat} (h : ¬ n < 128) : dg n = UInt8.ofNat (n % 128 + 128) :: dg (n / 128) := by rw [dg, if_neg h]
theorem dg_len : ∀ (k n : Nat), n < 128 ^ (k + 1) → (dg n).length ≤ k + 1
  | 0, n, h => by rw [dg_lt (by simpa using h)]; simp
  | k + 1, n, h => by
    by_cases hn : n < 128
    · rw [dg_lt hn]; simp
    · rw [dg_ge hn, List.length_cons]
      have := dg_len k (n / 128) (by rw [Nat.div_lt_iff_lt_mul (by decide)]; rw [Nat.pow_succ] at h; exact h)
      omega
theorem dg_pos (n : Nat) : 1 ≤ (dg n).length := by
  by_cases hn : n < 128
  · rw [dg_lt hn]; simp
  · rw [dg_ge hn]; simp
theorem dg_9 {n : Nat} (h : n ≤ 9223372036854775807) : (dg n).length ≤ 9 := dg_len 8 n (by omega)
def layL (l : List Nat) : List UInt8 := l.flatMap dg
theorem layL_nil : layL [] = [] := rfl
theorem layL_one (n : Nat) : layL [n] = dg n := by simp [layL]
theorem layL_append (a b : List Nat) : layL (a ++ b) = layL a ++ layL b := by simp [layL]
theorem layL_snoc (a : List Nat) (n : Nat) : layL (a ++ [n]) = layL a ++ dg n := by simp [layL]
theorem layL_len : ∀ (l : List Nat), (∀ n ∈ l, n ≤ 9223372036854775807) → (layL l).length ≤ 9 * l.length
  | [], _ => by simp [layL]
  | n :: l, h => by
    have h1 := dg_9 (h n (by simp))
    have h2 := layL_len l fun m hm => h m (by simp [hm])
    simp [layL] at h2 ⊢; omega

def top : Nat := 4611686018427387903
/-! ### What a number's bytes are read as -/
inductive Res where
  | fin
  | form
  | num (n size : Nat)
/-- from the byte number i on, n what the bytes ahead of it said -/
def scanAt (i n : Nat) : List UInt8 → Res
  | [] => .fin
  | x :: l => if i = 9 ∨ i > 0 ∧ x = 0 then .form else if x.toNat < 128 then .num (n + x.toNat * 128 ^ i) (i + 1) else scanAt (i + 1) (n + (x.toNat % 128) * 128 ^ i) l
def scan (l : List UInt8) : Res := scanAt 0 0 l

theorem toNat_small {n : Nat} (h : n < 256) : (UInt8.ofNat n).toNat = n := by
  rw [UInt8.toNat_ofNat']; exact Nat.mod_eq_of_lt h
theorem u8_ne_zero {n : Nat} (h : n < 256) (h0 : n ≠ 0) : UInt8.ofNat n ≠ 0 := by
  intro e
  have := congrArg UInt8.toNat e
  rw [toNat_small h] at this
  exact h0 (by simpa using this)
/-- what was laid is read as it was -/
theorem scanAt_dg : ∀ (k i m n : Nat) (r : List UInt8), n < 128 ^ (k + 1) → i + k < 9 → (i > 0 → n ≠ 0) → scanAt i m (dg n ++ r) = .num (m + n * 128 ^ i) (i + (dg n).length)
  | 0, i, m, n, r, h, hi, h0 => by
    have hn : n < 128 := by simpa using h
    rw [dg_lt hn, List.singleton_append, scanAt, toNat_small (by omega), if_neg, if_pos hn]
    · rfl
    · rintro (h1 | ⟨h1, h2⟩)
      · omega
      · exact u8_ne_zero (by omega) (h0 h1) h2
  | k + 1, i, m, n, r, h, hi, h0 => by
    by_cases hn : n < 128
    · rw [dg_lt hn, List.singleton_append, scanAt, toNat_small (by omega), if_neg, if_pos hn]
      · rfl
      · rintro (h1 | ⟨h1, h2⟩)
        · omega
        · exact u8_ne_zero (by omega) (h0 h1) h2
    · rw [dg_ge hn, List.cons_append, scanAt, toNat_small (by omega), if_neg, if_neg (by omega)]
      · rw [scanAt_dg k (i + 1) _ (n / 128) r (by rw [Nat.div_lt_iff_lt_mul (by decide)]; rw [Nat.pow_succ] at h; exact h) (by omega) (by omega), List.length_cons]
        congr 1
        · have e : (n % 128 + 128) % 128 = n % 128 := by omega
          rw [e, Nat.pow_succ, Nat.add_assoc, ← Nat.mul_assoc, Nat.mul_right_comm, ← Nat.add_mul]
          congr 2
          omega
        · omega
      · rintro (h1 | ⟨h1, h2⟩)
        · omega
        · exact u8_ne_zero (by omega) (by omega) h2
theorem scan_dg {n : Nat} (h : n ≤ 9223372036854775807) (r : List UInt8) : scan (dg n ++ r) = .num n (dg n).length := by
  rw [scan, scanAt_dg 8 0 0 n r (by omega) (by omega) (by omega)]
  simp
/-- what was laid, cut short, is refused for its end -/
theorem scanAt_cut : ∀ (k i m n j : Nat), n < 128 ^ (k + 1) → i + k < 9 → (i > 0 → n ≠ 0) → j < (dg n).length → scanAt i m ((dg n).take j) = .fin
  | 0, i, m, n, j, h, hi, h0, hj => by
    have hn : n < 128 := by simpa using h
    rw [dg_lt hn] at hj ⊢
    obtain rfl : j = 0 := by simpa using hj
    rfl
  | k + 1, i, m, n, j, h, hi, h0, hj => by
    by_cases hn : n < 128
    · rw [dg_lt hn] at hj ⊢
      obtain rfl : j = 0 := by simpa using hj
      rfl
    · rw [dg_ge hn] at hj ⊢
      cases j with
      | zero => rfl
      | succ j =>
        rw [List.take_succ_cons, scanAt, toNat_small (by omega), if_neg, if_neg (by omega)]
        · exact scanAt_cut k (i + 1) _ (n / 128) j (by rw [Nat.div_lt_iff_lt_mul (by decide)]; rw [Nat.pow_succ] at h; exact h) (by omega) (by omega) (by simpa using hj)
        · rintro (h1 | ⟨h1, h2⟩)
          · omega
          · exact u8_ne_zero (by omega) (by omega) h2
theorem scan_cut {n j : Nat} (h : n ≤ 9223372036854775807) (hj : j < (dg n).length) : scan ((dg n).take j) = .fin :=
  scanAt_cut 8 0 0 n j (by omega) (by omega) (by omega) hj
theorem ofNat_self (x : UInt8) : UInt8.ofNat x.toNat = x := by simp
/-- what was read, laid again, are the bytes that were taken -/
theorem scanAt_only : ∀ (l : List UInt8) (i m n z : Nat), i ≤ 9 → m < 128 ^ i → scanAt i m l = .num n z → ∃ q : Nat, n = m + q * 128 ^ i ∧ (i > 0 → q ≠ 0) ∧ z = i + (dg q).length ∧ (dg q) = l.take (z - i) ∧ z ≤ 9 ∧ z - i ≤ l.length ∧ n < 128 ^ z
  | [], i, m, n, z, _, _, h => by simp [scanAt] at h
  | x :: l, i, m, n, z, hi9, hm, h => by
    rw [scanAt] at h
    split at h
    · cases h
    · rename_i h1
      have hi : i ≠ 9 := fun e => h1 (Or.inl e)
      have hx0 : i > 0 → x ≠ 0 := fun e e2 => h1 (Or.inr ⟨e, e2⟩)
      split at h
      · rename_i hx
        cases h
        refine ⟨x.toNat, rfl, fun e e2 => hx0 e (by rw [← ofNat_self x, e2]; rfl), ?_, ?_, ?_, ?_, ?_⟩
        · rw [dg_lt hx]; rfl
        · rw [dg_lt hx, show i + 1 - i = 1 by omega, ofNat_self]; rfl
        · omega
        · simp
        · rw [Nat.pow_succ]
          have : x.toNat * 128 ^ i ≤ 127 * 128 ^ i := Nat.mul_le_mul_right _ (by omega)
          omega
      · rename_i hx
        have hxl := x.toNat_lt
        obtain ⟨q, h2, h3, h4, h5, h6, h7, h8⟩ := scanAt_only l (i + 1) _ n z (by omega) (by
          rw [Nat.pow_succ]
          have : x.toNat % 128 * 128 ^ i ≤ 127 * 128 ^ i := Nat.mul_le_mul_right _ (by omega)
          omega) h
        have hq : ¬ q * 128 + x.toNat % 128 < 128 := by have := h3 (by omega); omega
        refine ⟨q * 128 + x.toNat % 128, ?_, by omega, ?_, ?_, h6, ?_, h8⟩
        · rw [h2, Nat.pow_succ, Nat.add_mul, Nat.mul_assoc, Nat.mul_comm (128 ^ i) 128]; omega
        · rw [dg_ge hq, List.length_cons, show (q * 128 + x.toNat % 128) / 128 = q by omega]; omega
        · have hz : z - i = (z - (i + 1)) + 1 := by have := dg_pos q; omega
          rw [dg_ge hq, show (q * 128 + x.toNat % 128) / 128 = q by omega, h5, hz, List.take_succ_cons]
          congr 1
          rw [show (q * 128 + x.toNat % 128) % 128 + 128 = x.toNat by omega, ofNat_self]
        · have := dg_pos q
          simp; omega
theorem scan_only {l : List UInt8} {n z : Nat} (h : scan l = .num n z) : dg n = l.take z ∧ z = (dg n).length ∧ z ≤ 9 ∧ z ≤ l.length ∧ n ≤ 9223372036854775807 := by
  obtain ⟨q, h1, h2, h3, h4, h5, h6, h7⟩ := scanAt_only l 0 0 n z (by omega) (by decide) h
  obtain rfl : n = q := by simpa using h1
  have h8 : 128 ^ z ≤ 128 ^ 9 := Nat.pow_le_pow_right (by decide) h5
  exact ⟨by simpa using h4, by simpa using h3, h5, by simpa using h6, by omega⟩

/-! ### What a reader answers -/
structure Rd where
  rest : List UInt8
  err : Int
def numR (r : Rd) (most : Int) : Nat × Rd :=
  if r.err = 0 then
    match scan r.rest with
    | .fin => (0, ⟨r.rest, 32⟩)
    | .form => (0, ⟨r.rest, 30⟩)
    | .num n z => if (n : Int) ≤ most ∧ n ≤ top then (n, ⟨r.rest.drop z, 0⟩) else (0, ⟨r.rest, 31⟩)
  else (0, r)
def bytesR (r : Rd) (n : Nat) : List UInt8 × Rd :=
  if r.err = 0 then
    if n ≤ r.rest.length then (r.rest.take n, ⟨r.rest.drop n, 0⟩) else ([], ⟨r.rest, 32⟩)
  else ([], r)
def low (m : Int) : Int := if m ≤ 65536 then m else 65536
def textR (r : Rd) (most : Int) : List UInt8 × Rd := bytesR (numR r (low most)).2 (numR r (low most)).1
def manyR : Nat → Rd → Int → List Nat → List Nat × Rd
  | 0, r, _, acc => (acc, r)
  | k + 1, r, most, acc => if (numR r most).2.err = 0 then manyR k (numR r most).2 most (acc ++ [(numR r most).1]) else ([], (numR r most).2)
def numsR (r : Rd) (many most : Int) : List Nat × Rd := manyR (numR r (low many)).1 (numR r (low many)).2 most []
def endR (r : Rd) : Int := if r.err = 0 then (if r.rest = [] then 0 else 32) else r.err

theorem numR_err {r : Rd} (h : r.err ≠ 0) (m : Int) : numR r m = (0, r) := by unfold numR; rw [if_neg h]
theorem numR_ok {r : Rd} {n z : Nat} {m : Int} (h : r.err = 0) (hs : scan r.rest = .num n z) (hm : (n : Int) ≤ m) (ht : n ≤ top) : numR r m = (n, ⟨r.rest.drop z, 0⟩) := by
  unfold numR; rw [if_pos h, hs]; simp only; rw [if_pos ⟨hm, ht⟩]
theorem numR_over {r : Rd} {n z : Nat} {m : Int} (h : r.err = 0) (hs : scan r.rest = .num n z) (hm : ¬ ((n : Int) ≤ m ∧ n ≤ top)) : numR r m = (0, ⟨r.rest, 31⟩) := by
  unfold numR; rw [if_pos h, hs]; simp only; rw [if_neg hm]
theorem numR_fin {r : Rd} {m : Int} (h : r.err = 0) (hs : scan r.rest = .fin) : numR r m = (0, ⟨r.rest, 32⟩) := by
  unfold numR; rw [if_pos h, hs]
theorem numR_form {r : Rd} {m : Int} (h : r.err = 0) (hs : scan r.rest = .form) : numR r m = (0, ⟨r.rest, 30⟩) := by
  unfold numR; rw [if_pos h, hs]
theorem numR_top (r : Rd) (m : Int) : (numR r m).1 ≤ top := by
  unfold numR
  split
  · split
    · simp [top]
    · simp [top]
    · split
      · rename_i h; exact h.2
      · simp [top]
  · simp [top]
theorem numR_le (r : Rd) (m : Int) (h : (numR r m).2.err = 0) : ((numR r m).1 : Int) ≤ m := by
  unfold numR at h ⊢
  split at h
  · rename_i h0
    rw [if_pos h0]
    split at h
    · cases h
    · cases h
    · split at h
      · rename_i h1; rw [if_pos h1]; exact h1.1
      · cases h
  · rename_i h0; exact absurd h h0
theorem numR_zero (r : Rd) (m : Int) (h : (numR r m).2.err ≠ 0) : (numR r m).1 = 0 := by
  unfold numR at h ⊢
  split at h
  · rename_i h0
    rw [if_pos h0]
    split at h
    · rfl
    · rfl
    · split at h
      · exact absurd rfl h
      · rename_i h1; rw [if_neg h1]
  · rename_i h0; rw [if_neg h0]
theorem low_le (m : Int) : low m ≤ 65536 := by unfold low; split <;> omega
theorem numR_low (r : Rd) (m : Int) : (numR r (low m)).1 ≤ 65536 := by
  by_cases h : (numR r (low m)).2.err = 0
  · have := numR_le r (low m) h; have := low_le m; omega
  · rw [numR_zero r _ h]; omega

/-! ### How the walk spells it -/
theorem wrap64 (n : Int) (h1 : -9223372036854775808 ≤ n) (h2 : n ≤ 9223372036854775807) : IntKind.i64.wrap n = n := by
  simp [IntKind.wrap, IntKind.bits, IntKind.signed]; omega
theorem i64_or_nat (a b : Nat) (ha : a < 9223372036854775808) (hb : b < 9223372036854775808) : bits .or .i64 (a : Int) (b : Int) = ((a ||| b : Nat) : Int) := by
  have hx : a ||| b < 2 ^ 63 := Nat.or_lt_two_pow (by omega) (by omega)
  have ea : (BitVec.ofInt 64 (a : Int)).toNat = a := by rw [BitVec.ofInt_natCast, BitVec.toNat_ofNat]; exact Nat.mod_eq_of_lt (by omega)
  have eb : (BitVec.ofInt 64 (b : Int)).toNat = b := by rw [BitVec.ofInt_natCast, BitVec.toNat_ofNat]; exact Nat.mod_eq_of_lt (by omega)
  show IntKind.i64.wrap ((BitVec.ofInt 64 (a : Int) ||| BitVec.ofInt 64 (b : Int)).toNat : Int) = _
  rw [BitVec.toNat_or, ea, eb]
  exact wrap64 _ (by omega) (by omega)
theorem pow7 (k : Nat) : 128 ^ k = 2 ^ (7 * k) := by rw [Nat.pow_mul]
theorem pow7_le (k : Nat) (hk : k ≤ 8) : 128 ^ k ≤ 72057594037927936 := Nat.le_trans (Nat.pow_le_pow_right (by decide) hk) (by decide)
/-- a digit comes in -/
theorem digit_in (n d k : Nat) (hn : n < 128 ^ k) (hd : d < 128) (hk : k ≤ 8) : bits .or .i64 (n : Int) ((d * 128 ^ k : Nat) : Int) = ((n + d * 128 ^ k : Nat) : Int) := by
  have h1 := pow7_le k hk
  have h2 : d * 128 ^ k ≤ 127 * 72057594037927936 := Nat.mul_le_mul (by omega) h1
  rw [i64_or_nat _ _ (by omega) (by omega)]
  congr 1
  rw [pow7] at hn ⊢
  rw [Nat.or_comm, ← Nat.shiftLeft_eq, ← Nat.shiftLeft_add_eq_or_of_lt hn, Nat.add_comm]
end Go.Proofs.YtgeggiafjojgdaaDoor

