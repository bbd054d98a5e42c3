/-
  WirMath / WirM / TabMath / CmdMath.
-/
import Derived.Test.YtfokdmijkniomaaGreatDoorRows
import Derived.WalkKit
import Derived.Laws.BitsAllLaws
import Derived.Lib.ItoaMem
import Derived.Lib.AtoiAll
import Derived.Lib.AtoiAllCases
namespace Go.Proofs.YtfokdmijkniomaaGreatDoor
open Go.RowKit Go

/-! ### Texts and lists -/
def bs (l : List UInt8) : ByteArray := ⟨l.toArray⟩
theorem bs_list (l : List UInt8) : (bs l).data.toList = l := by simp [bs]
theorem bs_size (l : List UInt8) : (bs l).size = l.length := by simp [bs, ByteArray.size]
theorem bs_self (s : ByteArray) : bs s.data.toList = s := rfl
theorem bs_append (a b : List UInt8) : bs (a ++ b) = bs a ++ bs b := by
  apply ByteArray.ext; simp [bs]
/-! ### A number's bytes -/
def dg (n : Nat) : List UInt8 :=
  if n < 128 then [UInt8.ofNat n] else UInt8.ofNat (n % 128 + 128) :: dg (n / 128)
  termination_by n
  decreasing_by omega
theorem dg_lt {n : Nat} (h : n < 128) : dg n = [UInt8.ofNat n] := by rw [dg, if_pos h]
theorem dg_ge {n : Nat} (h : ¬ n < 128) : dg n = UInt8.ofNat (n % 128 + 128) :: dg (n / 128) := by rw [dg, if_neg h]
theorem dg_len : ∀ (k n : Nat), n < 128 ^ (k + 1) → (dg n).length ≤ k + 1
  | 0, n, h => by rw [dg_lt (by simpa using h)]; simp
  | k + 1, n, h => by
    by_cases hn : n < 128
    · rw [dg_lt hn]; simp
    · rw [dg_ge hn, List.length_cons]
      have := dg_len k (n / 128) (by rw [Nat.div_lt_iff_lt_mul (by decide)]; rw [Nat.pow_succ] at h; exact h)
      omega
theorem dg_pos (n : Nat) : 1 ≤ (dg n).length := by
  by_cases hn : n < 128
  · rw [dg_lt hn]; simp
  · rw [dg_ge hn]; simp
theorem dg_9 {n : Nat} (h : n ≤ 9223372036854775807) : (dg n).length ≤ 9 := dg_len 8 n (by omega)
def layL (l : List Nat) : List UInt8 := l.flatMap dg
theorem layL_one (n : Nat) : layL [n] = dg n := by simp [layL]
theorem layL_append (a b : List Nat) : layL (a ++ b) = layL a ++ layL b := by simp [layL]
theorem layL_snoc (a : List Nat) (n : Nat) : layL (a ++ [n]) = layL a ++ dg n := by simp [layL]
theorem layL_len : ∀ (l : List Nat), (∀ n ∈ l, n ≤ 9223372036854775807) → (layL l).length ≤ 9 * l.length
  | [], _ => by simp [layL]
  | n :: l, h => by
    have h1 := dg_9 (h n (by simp))
    have h2 := layL_len l fun m hm => h m (by simp [hm])
    simp [layL] at h2 ⊢; omega

def top : Nat := 4611686018427387903
/-! ### What a number's bytes are read as -/
inductive Res where
  | fin
  | form
  | num (n size : Nat)
/-- from the byte number i on, n what the bytes ahead of it said -/
def scanAt (i n : Nat) : List UInt8 → Res
  | [] => .fin
  | x :: l => if i = 9 ∨ i > 0 ∧ x = 0 then .form else if x.toNat < 128 then .num (n + x.toNat * 128 ^ i) (i + 1) else scanAt (i + 1) (n + (x.toNat % 128) * 128 ^ i) l
def scan (l : List UInt8) : Res := scanAt 0 0 l

theorem toNat_small {n : Nat} (h : n < 256) : (UInt8.ofNat n).toNat = n := by
  rw [UInt8.toNat_ofNat']; exact Nat.mod_eq_of_lt h
theorem u8_ne_zero {n : Nat} (h : n < 256) (h0 : n ≠ 0) : UInt8.ofNat n ≠ 0 := by
  intro e
  have := congrArg UInt8.toNat e
  rw [toNat_small h] at this
  exact h0 (by simpa using this)
/-- what was laid is read as it was -/
theorem scanAt_dg : ∀ (k i m n : Nat) (r : List UInt8), n < 128 ^ (k + 1) → i + k < 9 → (i > 0 → n ≠ 0) → scanAt i m (dg n ++ r) = .num (m + n * 128 ^ i) (i + (dg n).length)
  | 0, i, m, n, r, h, hi, h0 => by
    have hn : n < 128 := by simpa using h
    rw [dg_lt hn, List.singleton_append, scanAt, toNat_small (by omega), if_neg, if_pos hn]
    · rfl
    · rintro (h1 | ⟨h1, h2⟩)
      · omega
      · exact u8_ne_zero (by omega) (h0 h1) h2
  | k + 1, i, m, n, r, h, hi, h0 => by
    by_cases hn : n < 128
    · rw [dg_lt hn, List.singleton_append, scanAt, toNat_small (by omega), if_neg, if_pos hn]
      · rfl
      · rintro (h1 | ⟨h1, h2⟩)
        · omega
        · exact u8_ne_zero (by omega) (h0 h1) h2
    · rw [dg_ge hn, List.cons_append, scanAt, toNat_small (by omega), if_neg, if_neg (by omega)]
      · rw [scanAt_dg k (i + 1) _ (n / 128) r (by rw [Nat.div_lt_iff_lt_mul (by decide)]; rw [Nat.pow_succ] at h; exact h) (by omega) (by omega), List.length_cons]
        congr 1
        · have e : (n % 128 + 128) % 128 = n % 128 := by omega
          rw [e, Nat.pow_succ, Nat.add_assoc, ← Nat.mul_assoc, Nat.mul_right_comm, ← Nat.add_mul]
          congr 2
          omega
        · omega
      · rintro (h1 | ⟨h1, h2⟩)
        · omega
        · exact u8_ne_zero (by omega) (by omega) h2
theorem scan_dg {n : Nat} (h : n ≤ 9223372036854775807) (r : List UInt8) : scan (dg n ++ r) = .num n (dg n).length := by
  rw [scan, scanAt_dg 8 0 0 n r (by omega) (by omega) (by omega)]
  simp
theorem ofNat_self (x : UInt8) : UInt8.ofNat x.toNat = x := by simp
/-- what was read, laid again, are the bytes that were taken -/
theorem scanAt_only : ∀ (l : List UInt8) (i m n z : Nat), i ≤ 9 → m < 128 ^ i → scanAt i m l = .num n z → ∃ q : Nat, n = m + q * 128 ^ i ∧ (i > 0 → q ≠ 0) ∧ z = i + (dg q).length ∧ (dg q) = l.take (z - i) ∧ z ≤ 9 ∧ z - i ≤ l.length ∧ n < 128 ^ z
  | [], i, m, n, z, _, _, h => by simp [scanAt] at h
  | x :: l, i, m, n, z, hi9, hm, h => by
    rw [scanAt] at h
    split at h
    · cases h
    · rename_i h1
      have hi : i ≠ 9 := fun e => h1 (Or.inl e)
      have hx0 : i > 0 → x ≠ 0 := fun e e2 => h1 (Or.inr ⟨e, e2⟩)
      split at h
      · rename_i hx
        cases h
        refine ⟨x.toNat, rfl, fun e e2 => hx0 e (by rw [← ofNat_self x, e2]; rfl), ?_, ?_, ?_, ?_, ?_⟩
        · rw [dg_lt hx]; rfl
        · rw [dg_lt hx, show i + 1 - i = 1 by omega, ofNat_self]; rfl
        · omega
        · simp
        · rw [Nat.pow_succ]
          have : x.toNat * 128 ^ i ≤ 127 * 128 ^ i := Nat.mul_le_mul_right _ (by omega)
          omega
      · rename_i hx
        have hxl := x.toNat_lt
        obtain ⟨q, h2, h3, h4, h5, h6, h7, h8⟩ := scanAt_only l (i + 1) _ n z (by omega) (by
          rw [Nat.pow_succ]
          have : x.toNat % 128 * 128 ^ i ≤ 127 * 128 ^ i := Nat.mul_le_mul_right _ (by omega)
          omega) h
        have hq : ¬ q * 128 + x.toNat % 128 < 128 := by have := h3 (by omega); omega
        refine ⟨q * 128 + x.toNat % 128, ?_, by omega, ?_, ?_, h6, ?_, h8⟩
        · rw [h2, Nat.pow_succ, Nat.add_mul, Nat.mul_assoc, Nat.mul_comm (128 ^ i) 128]; omega
        · rw [dg_ge hq, List.length_cons, show (q * 128 + x.toNat % 128) / 128 = q by omega]; omega
        · have hz : z - i = (z - (i + 1)) + 1 := by have := dg_pos q; omega
          rw [dg_ge hq, show (q * 128 + x.toNat % 128) / 128 = q by omega, h5, hz, List.take_succ_cons]
          congr 1
          rw [show (q * 128 + x.toNat % 128) % 128 + 128 = x.toNat by omega, ofNat_self]
        · have := dg_pos q
          simp; omega
theorem scan_only {l : List UInt8} {n z : Nat} (h : scan l = .num n z) : dg n = l.take z ∧ z = (dg n).length ∧ z ≤ 9 ∧ z ≤ l.length ∧ n ≤ 9223372036854775807 := by
  obtain ⟨q, h1, h2, h3, h4, h5, h6, h7⟩ := scanAt_only l 0 0 n z (by omega) (by decide) h
  obtain rfl : n = q := by simpa using h1
  have h8 : 128 ^ z ≤ 128 ^ 9 := Nat.pow_le_pow_right (by decide) h5
  exact ⟨by simpa using h4, by simpa using h3, h5, by simpa using h6, by omega⟩

/-! ### What a reader answers -/
structure Rd where
  rest : List UInt8
  err : Int
def numR (r : Rd) (most : Int) : Nat × Rd :=
  if r.err = 0 then
    match scan r.rest with
    | .fin => (0, ⟨r.rest, 32⟩)
    | .form => (0, ⟨r.rest, 30⟩)
    | .num n z => if (n : Int) ≤ most ∧ n ≤ top then (n, ⟨r.rest.drop z, 0⟩) else (0, ⟨r.rest, 31⟩)
  else (0, r)
def bytesR (r : Rd) (n : Nat) : List UInt8 × Rd :=
  if r.err = 0 then
    if n ≤ r.rest.length then (r.rest.take n, ⟨r.rest.drop n, 0⟩) else ([], ⟨r.rest, 32⟩)
  else ([], r)
def low (m : Int) : Int := if m ≤ 65536 then m else 65536
def textR (r : Rd) (most : Int) : List UInt8 × Rd := bytesR (numR r (low most)).2 (numR r (low most)).1
def endR (r : Rd) : Int := if r.err = 0 then (if r.rest = [] then 0 else 32) else r.err

theorem numR_err {r : Rd} (h : r.err ≠ 0) (m : Int) : numR r m = (0, r) := by unfold numR; rw [if_neg h]
theorem numR_ok {r : Rd} {n z : Nat} {m : Int} (h : r.err = 0) (hs : scan r.rest = .num n z) (hm : (n : Int) ≤ m) (ht : n ≤ top) : numR r m = (n, ⟨r.rest.drop z, 0⟩) := by
  unfold numR; rw [if_pos h, hs]; simp only; rw [if_pos ⟨hm, ht⟩]
theorem numR_over {r : Rd} {n z : Nat} {m : Int} (h : r.err = 0) (hs : scan r.rest = .num n z) (hm : ¬ ((n : Int) ≤ m ∧ n ≤ top)) : numR r m = (0, ⟨r.rest, 31⟩) := by
  unfold numR; rw [if_pos h, hs]; simp only; rw [if_neg hm]
theorem numR_fin {r : Rd} {m : Int} (h : r.err = 0) (hs : scan r.rest = .fin) : numR r m = (0, ⟨r.rest, 32⟩) := by
  unfold numR; rw [if_pos h, hs]
theorem numR_form {r : Rd} {m : Int} (h : r.err = 0) (hs : scan r.rest = .form) : numR r m = (0, ⟨r.rest, 30⟩) := by
  unfold numR; rw [if_pos h, hs]
theorem numR_le (r : Rd) (m : Int) (h : (numR r m).2.err = 0) : ((numR r m).1 : Int) ≤ m := by
  unfold numR at h ⊢
  split at h
  · rename_i h0
    rw [if_pos h0]
    split at h
    · cases h
    · cases h
    · split at h
      · rename_i h1; rw [if_pos h1]; exact h1.1
      · cases h
  · rename_i h0; exact absurd h h0
theorem numR_zero (r : Rd) (m : Int) (h : (numR r m).2.err ≠ 0) : (numR r m).1 = 0 := by
  unfold numR at h ⊢
  split at h
  · rename_i h0
    rw [if_pos h0]
    split at h
    · rfl
    · rfl
    · split at h
      · exact absurd rfl h
      · rename_i h1; rw [if_neg h1]
  · rename_i h0; rw [if_neg h0]
theorem low_le (m : Int) : low m ≤ 65536 := by unfold low; split <;> omega
theorem numR_low (r : Rd) (m : Int) : (numR r (low m)).1 ≤ 65536 := by
  by_cases h : (numR r (low m)).2.err = 0
  · have := numR_le r (low m) h; have := low_le m; omega
  · rw [numR_zero r _ h]; omega

/-! ### How the walk spells it -/
theorem wrap64 (n : Int) (h1 : -9223372036854775808 ≤ n) (h2 : n ≤ 9223372036854775807) : IntKind.i64.wrap n = n := by
  simp [IntKind.wrap, IntKind.bits, IntKind.signed]; omega
theorem i64_or_nat (a b : Nat) (ha : a < 9223372036854775808) (hb : b < 9223372036854775808) : bits .or .i64 (a : Int) (b : Int) = ((a ||| b : Nat) : Int) := by
  have hx : a ||| b < 2 ^ 63 := Nat.or_lt_two_pow (by omega) (by omega)
  have ea : (BitVec.ofInt 64 (a : Int)).toNat = a := by rw [BitVec.ofInt_natCast, BitVec.toNat_ofNat]; exact Nat.mod_eq_of_lt (by omega)
  have eb : (BitVec.ofInt 64 (b : Int)).toNat = b := by rw [BitVec.ofInt_natCast, BitVec.toNat_ofNat]; exact Nat.mod_eq_of_lt (by omega)
  show IntKind.i64.wrap ((BitVec.ofInt 64 (a : Int) ||| BitVec.ofInt 64 (b : Int)).toNat : Int) = _
  rw [BitVec.toNat_or, ea, eb]
  exact wrap64 _ (by omega) (by omega)
theorem pow7 (k : Nat) : 128 ^ k = 2 ^ (7 * k) := by rw [Nat.pow_mul]
theorem pow7_le (k : Nat) (hk : k ≤ 8) : 128 ^ k ≤ 72057594037927936 := Nat.le_trans (Nat.pow_le_pow_right (by decide) hk) (by decide)
/-- a digit comes in -/
theorem digit_in (n d k : Nat) (hn : n < 128 ^ k) (hd : d < 128) (hk : k ≤ 8) : bits .or .i64 (n : Int) ((d * 128 ^ k : Nat) : Int) = ((n + d * 128 ^ k : Nat) : Int) := by
  have h1 := pow7_le k hk
  have h2 : d * 128 ^ k ≤ 127 * 72057594037927936 := Nat.mul_le_mul (by omega) h1
  rw [i64_or_nat _ _ (by omega) (by omega)]
  congr 1
  rw [pow7] at hn ⊢
  rw [Nat.or_comm, ← Nat.shiftLeft_eq, ← Nat.shiftLeft_add_eq_or_of_lt hn, Nat.add_comm]
end Go.Proofs.YtfokdmijkniomaaGreatDoor

namespace Go.Proofs.YtfokdmijkniomaaGreatDoor
open Go.RowKit Go

theorem top_le {n : Nat} (h : n ≤ top) : n ≤ 9223372036854775807 := by unfold top at h; omega
theorem numR_dg {n : Nat} {m : Int} (h : n ≤ top) (hm : (n : Int) ≤ m) (r : List UInt8) : numR ⟨dg n ++ r, 0⟩ m = (n, ⟨r, 0⟩) := by
  rw [numR_ok (r := ⟨dg n ++ r, 0⟩) rfl (scan_dg (top_le h) r) hm h, List.drop_left]
theorem low_ge {k : Nat} {m : Int} (h : (k : Int) ≤ m) (h2 : k ≤ 65536) : (k : Int) ≤ low m := by unfold low; split <;> omega
theorem len_top {k : Nat} (h : k ≤ 65536) : k ≤ top := by unfold top; omega
theorem textR_of {r r1 r2 : Rd} {m : Int} {n : Nat} {l : List UInt8} (h1 : numR r (low m) = (n, r1)) (h2 : bytesR r1 n = (l, r2)) : textR r m = (l, r2) := by
  unfold textR; rw [h1]; exact h2
theorem bytesR_err {r : Rd} (h : r.err ≠ 0) (n : Nat) : bytesR r n = ([], r) := if_neg h
theorem textR_dg {l : List UInt8} {m : Int} (h : l.length ≤ 65536) (hm : (l.length : Int) ≤ m) (r : List UInt8) : textR ⟨dg l.length ++ l ++ r, 0⟩ m = (l, ⟨r, 0⟩) := by
  rw [List.append_assoc]
  refine textR_of (numR_dg (len_top h) (low_ge hm h) (l ++ r)) ?_
  unfold bytesR
  rw [if_pos rfl, if_pos (by simp)]
  simp
/-- what was taken -/
theorem numR_inv {r r1 : Rd} {m : Int} {n : Nat} (h : numR r m = (n, r1)) (h0 : r.err = 0) (h1 : r1.err = 0) : r.rest = dg n ++ r1.rest ∧ n ≤ top := by
  cases hs : scan r.rest with
  | fin => rw [numR_fin h0 hs] at h; cases h; cases h1
  | form => rw [numR_form h0 hs] at h; cases h; cases h1
  | num k z =>
    by_cases hm : (k : Int) ≤ m ∧ k ≤ top
    · rw [numR_ok h0 hs hm.1 hm.2] at h
      cases h
      obtain ⟨e1, e2, _, e4, _⟩ := scan_only hs
      exact ⟨by rw [e1, List.take_append_drop], hm.2⟩
    · rw [numR_over h0 hs hm] at h; cases h; cases h1
theorem textR_inv {r r2 : Rd} {m : Int} {l : List UInt8} (h : textR r m = (l, r2)) (h0 : r.err = 0) (h1 : r2.err = 0) : r.rest = dg l.length ++ l ++ r2.rest ∧ l.length ≤ 65536 := by
  unfold textR at h
  obtain ⟨n, r1, hp⟩ : ∃ n r1, numR r (low m) = (n, r1) := ⟨_, _, rfl⟩
  have hl := numR_low r m
  rw [hp] at h hl
  simp only at h hl
  unfold bytesR at h
  split at h
  · rename_i e
    split at h
    · rename_i e2
      cases h
      obtain ⟨e3, _⟩ := numR_inv hp h0 e
      have e4 : (List.take n r1.rest).length = n := by rw [List.length_take]; omega
      rw [e4]
      exact ⟨by rw [e3, List.append_assoc, List.take_append_drop], hl⟩
    · cases h; cases h1
  · rename_i e
    cases h
    exact absurd h1 e
/-! ### The same with nothing behind -/
end Go.Proofs.YtfokdmijkniomaaGreatDoor

namespace Go.Proofs.YtfokdmijkniomaaGreatDoor
open Go.RowKit Go

/-! ### Things -/
structure Ino where
  num : Int
  dir : Bool
  links : Int
  root : Int
  size : Int
structure Ent where
  name : ByteArray
  num : Int
structure Snp where
  name : ByteArray
  id : Int
  plane : Int
  root : Int
  size : Int

def nameByte (c : UInt8) : Bool := (97 ≤ c.toNat && c.toNat ≤ 122) || (48 ≤ c.toNat && c.toNat ≤ 57) || c.toNat == 46 || c.toNat == 45 || c.toNat == 95
def NameOk (s : ByteArray) : Prop := 1 ≤ s.size ∧ s.size ≤ 16 ∧ (∀ c ∈ s.data.toList, nameByte c = true) ∧ s.data.toList ≠ [46] ∧ s.data.toList ≠ [46, 46]
def EntOk (x : Ent) : Prop := NameOk x.name ∧ 1 ≤ x.num ∧ x.num ≤ 65535
def txt (s : ByteArray) : List UInt8 := dg s.size ++ s.data.toList
def entEnc (x : Ent) : List UInt8 := txt x.name ++ layL [x.num.toNat]
/-! ### What is read -/
def entRd (a : Int) (r : Rd) : Ent × Rd :=
  let p1 := textR r 16; let p2 := numR p1.2 a
  (⟨bs p1.1, p2.1⟩, p2.2)
theorem numR_latch {r : Rd} {m : Int} (h : (numR r m).2.err = 0) : r.err = 0 := by
  by_cases h0 : r.err = 0
  · exact h0
  · rw [numR_err h0] at h; exact h
theorem textR_latch {r : Rd} {m : Int} (h : (textR r m).2.err = 0) : r.err = 0 := by
  unfold textR at h
  refine numR_latch (m := low m) ?_
  by_cases h0 : (numR r (low m)).2.err = 0
  · exact h0
  · rw [bytesR_err h0] at h; exact h
theorem numR_dgi {z m : Int} (h : 0 ≤ z) (ht : z ≤ 4611686018427387903) (hm : z ≤ m) (r : List UInt8) : numR ⟨dg z.toNat ++ r, 0⟩ m = (z.toNat, ⟨r, 0⟩) :=
  numR_dg (by unfold top; omega) (by omega) r
theorem numR_got {r : Rd} {m : Int} (h : (numR r m).2.err = 0) : r.rest = dg (numR r m).1 ++ (numR r m).2.rest := by
  obtain ⟨p, hp⟩ : ∃ p, numR r m = p := ⟨_, rfl⟩
  have h0 := numR_latch h
  rw [hp] at h ⊢
  exact (numR_inv (r := r) (m := m) (n := p.1) (r1 := p.2) hp h0 h).1
theorem textR_got {r : Rd} {m : Int} (h : (textR r m).2.err = 0) : r.rest = txt (bs (textR r m).1) ++ (textR r m).2.rest := by
  obtain ⟨p, hp⟩ : ∃ p, textR r m = p := ⟨_, rfl⟩
  have h0 := textR_latch h
  rw [hp] at h ⊢
  have := (textR_inv (r := r) (m := m) (l := p.1) (r2 := p.2) hp h0 h).1
  rw [this]; unfold txt; rw [bs_size, bs_list]

theorem textR_txt {s : ByteArray} (h : s.size ≤ 16) (r : List UInt8) : textR ⟨txt s ++ r, 0⟩ 16 = (s.data.toList, ⟨r, 0⟩) := by
  have e : s.size = s.data.toList.length := (Array.length_toList (xs := s.data)).symm
  unfold txt
  rw [e] at h ⊢
  exact textR_dg (m := 16) (by omega) (by omega) r
theorem entRd_enc {x : Ent} (h : EntOk x) {a : Int} (ha : 65535 ≤ a) (r : List UInt8) : entRd a ⟨entEnc x ++ r, 0⟩ = (x, ⟨r, 0⟩) := by
  obtain ⟨h1, h2, h3⟩ := h
  obtain ⟨name, num⟩ := x
  simp only at h1 h2 h3
  have e : entEnc ⟨name, num⟩ ++ r = txt name ++ (dg num.toNat ++ r) := by simp [entEnc, layL, List.append_assoc]
  unfold entRd
  rw [e, textR_txt h1.2.1]
  simp only
  rw [numR_dgi (by omega) (by omega) (by omega)]
  simp only [Prod.mk.injEq, Ent.mk.injEq, and_true]
  exact ⟨bs_self _, by omega⟩
theorem entRd_inv {a : Int} {r : Rd} (h : (entRd a r).2.err = 0) : r.err = 0 ∧ r.rest = entEnc (entRd a r).1 ++ (entRd a r).2.rest := by
  unfold entRd at h ⊢
  simp only at h ⊢
  have g2 := numR_got h
  have h1 := numR_latch h
  have g1 := textR_got h1
  refine ⟨textR_latch h1, ?_⟩
  unfold entEnc
  simp only [Int.toNat_natCast, layL, List.flatMap_cons, List.flatMap_nil, List.append_nil, List.append_assoc]
  rw [← g2, ← g1]
/-! ### A kind of lists -/
structure Kd (T : Type) where
  enc : T → List UInt8
  ok : T → Prop
  lt : T → T → Prop
def kE : Kd Ent := ⟨entEnc, EntOk, fun x y => Op.bytesLess x.name.toList y.name.toList = true⟩
section
variable {T : Type} (K : Kd T)
/-- the things ahead of place j may be -/
def MayTo (l : List T) (j : Nat) : Prop := ∀ i (h : i < l.length), i < j → K.ok l[i] ∧ ∀ (_ : 0 < i), K.lt (l[i - 1]'(by omega)) l[i]
def May (l : List T) : Prop := l.length ≤ 4096 ∧ MayTo K l l.length
def laidL (l : List T) : List UInt8 := dg l.length ++ l.flatMap K.enc
/-- s are the bytes of l -/
def IsL (s : List UInt8) (l : List T) : Prop := May K l ∧ laidL K l = s
def readN (f : Rd → T × Rd) : Nat → Rd → List T → List T × Rd
  | 0, r, acc => (acc, r)
  | k + 1, r, acc => if r.err = 0 then readN f k (f r).2 (acc ++ [(f r).1]) else (acc, r)
def parsed (f : Rd → T × Rd) (s : List UInt8) : List T × Rd := readN f (numR ⟨s, 0⟩ 4096).1 (numR ⟨s, 0⟩ 4096).2 []
/-- what f reads is what K lays -/
structure Reads (f : Rd → T × Rd) : Prop where
  enc : ∀ x, K.ok x → ∀ r, f ⟨K.enc x ++ r, 0⟩ = (x, ⟨r, 0⟩)
  inv : ∀ r, (f r).2.err = 0 → r.err = 0 ∧ r.rest = K.enc (f r).1 ++ (f r).2.rest
variable {K}
theorem MayTo.zero (l : List T) : MayTo K l 0 := fun _ _ h => absurd h (Nat.not_lt_zero _)
theorem MayTo.succ {l : List T} {j : Nat} (h : MayTo K l j) (hj : j < l.length) (h1 : K.ok l[j]) (h2 : ∀ (_ : 0 < j), K.lt (l[j - 1]'(by omega)) l[j]) : MayTo K l (j + 1) := by
  intro i hi hij
  by_cases e : i = j
  · subst e; exact ⟨h1, h2⟩
  · exact h i hi (by omega)
theorem not_may_ok {l : List T} {j : Nat} (hj : j < l.length) (h1 : ¬ K.ok l[j]) : ¬ May K l := fun h => h1 (h.2 j hj hj).1
theorem not_may_lt {l : List T} {j : Nat} (hj : j < l.length) (h0 : 0 < j) (h1 : ¬ K.lt (l[j - 1]'(by omega)) l[j]) : ¬ May K l := fun h => h1 ((h.2 j hj hj).2 h0)
theorem not_may_long {l : List T} (h : 4096 < l.length) : ¬ May K l := fun e => absurd e.1 (by omega)
theorem May.ok {l : List T} (h : May K l) {x : T} (hx : x ∈ l) : K.ok x := by
  obtain ⟨i, hi, rfl⟩ := List.mem_iff_getElem.1 hx
  exact (h.2 i hi hi).1
theorem readN_enc {f : Rd → T × Rd} (hf : Reads K f) : ∀ (l acc : List T) (r : List UInt8), (∀ x ∈ l, K.ok x) → readN f l.length ⟨l.flatMap K.enc ++ r, 0⟩ acc = (acc ++ l, ⟨r, 0⟩)
  | [], acc, r, _ => by simp [readN]
  | x :: l, acc, r, h => by
    rw [List.length_cons, readN, if_pos rfl, List.flatMap_cons, List.append_assoc, hf.enc x (h x (by simp))]
    simp only
    rw [readN_enc hf l (acc ++ [x]) r (fun y hy => h y (by simp [hy]))]
    simp
theorem parsed_laid {f : Rd → T × Rd} (hf : Reads K f) {l : List T} (h : May K l) : parsed f (laidL K l) = (l, ⟨[], 0⟩) := by
  unfold parsed laidL
  rw [numR_dg (by unfold top; have := h.1; omega) (by have := h.1; omega)]
  have := readN_enc hf l [] [] (fun x hx => h.ok hx)
  simpa using this
theorem readN_inv {f : Rd → T × Rd} (hf : Reads K f) : ∀ (k : Nat) (r : Rd) (acc : List T), (readN f k r acc).2.err = 0 → r.err = 0 ∧ ∃ l, (readN f k r acc).1 = acc ++ l ∧ l.length = k ∧ r.rest = l.flatMap K.enc ++ (readN f k r acc).2.rest
  | 0, r, acc, h => ⟨h, [], by simp [readN], rfl, by simp [readN]⟩
  | k + 1, r, acc, h => by
    rw [readN] at h ⊢
    split at h
    · rename_i h0
      rw [if_pos h0]
      obtain ⟨h1, l, e1, e2, e3⟩ := readN_inv hf k _ _ h
      refine ⟨h0, (f r).1 :: l, ?_, by simp [e2], ?_⟩
      · rw [e1]; simp
      · rw [List.flatMap_cons, List.append_assoc, ← e3]
        exact (hf.inv r h1).2
    · rename_i h0; exact absurd h h0
theorem laid_parsed {f : Rd → T × Rd} (hf : Reads K f) {s : List UInt8} (h : endR (parsed f s).2 = 0) : laidL K (parsed f s).1 = s := by
  unfold endR at h
  split at h
  · rename_i h0
    split at h
    · rename_i h1
      unfold parsed at h0 h1 ⊢
      obtain ⟨e0, l, e1, e2, e3⟩ := readN_inv hf _ _ _ h0
      have g := numR_got e0
      rw [h1, List.append_nil] at e3
      rw [e1, List.nil_append]
      unfold laidL
      rw [e2, ← e3]
      exact g.symm
    · cases h
  · rename_i h0; exact absurd h h0
/-- bytes are read as a list just if they are that list's -/
theorem isL_iff {f : Rd → T × Rd} (hf : Reads K f) (s : List UInt8) (l : List T) : IsL K s l ↔ endR (parsed f s).2 = 0 ∧ May K (parsed f s).1 ∧ (parsed f s).1 = l := by
  constructor
  · rintro ⟨h, rfl⟩
    rw [parsed_laid hf h]
    exact ⟨rfl, h, rfl⟩
  · rintro ⟨h1, h2, rfl⟩
    exact ⟨h2, laid_parsed hf h1⟩
theorem isL_none {f : Rd → T × Rd} (hf : Reads K f) {s : List UInt8} (h : ¬ (endR (parsed f s).2 = 0 ∧ May K (parsed f s).1)) (l : List T) : ¬ IsL K s l := fun e =>
  h ⟨((isL_iff hf s l).1 e).1, ((isL_iff hf s l).1 e).2.1⟩
theorem isL_self {f : Rd → T × Rd} (hf : Reads K f) {s : List UInt8} (h1 : endR (parsed f s).2 = 0) (h2 : May K (parsed f s).1) : IsL K s (parsed f s).1 := ⟨h2, laid_parsed hf h1⟩
theorem IsL.uniq {f : Rd → T × Rd} (hf : Reads K f) {s : List UInt8} {l m : List T} (h : IsL K s l) (k : IsL K s m) : l = m :=
  ((isL_iff hf s l).1 h).2.2.symm.trans ((isL_iff hf s m).1 k).2.2
/-- with more behind, bytes of a list are none's -/
theorem IsL.more {f : Rd → T × Rd} (hf : Reads K f) {s t : List UInt8} {l m : List T} (h : IsL K s l) (k : IsL K (s ++ t) m) : t = [] := by
  obtain ⟨h1, rfl⟩ := h
  have e := ((isL_iff hf _ m).1 k).1
  have e2 : parsed f (laidL K l ++ t) = (l, ⟨t, 0⟩) := by
    unfold parsed laidL
    rw [List.append_assoc, numR_dg (by unfold top; have := h1.1; omega) (by have := h1.1; omega)]
    have := readN_enc hf l [] t (fun x hx => h1.ok hx)
    simpa using this
  rw [e2] at e
  unfold endR at e
  rw [if_pos rfl] at e
  split at e
  · assumption
  · cases e
end
theorem readsE {a : Int} (ha : 65535 ≤ a) : Reads kE (entRd a) := ⟨fun _ h r => entRd_enc h ha r, fun _ h => entRd_inv h⟩
/-! ### How many bytes -/
theorem dg_1 {n : Nat} (h : n < 128) : (dg n).length ≤ 1 := dg_len 0 n (by omega)
theorem dg_2 {n : Nat} (h : n < 16384) : (dg n).length ≤ 2 := dg_len 1 n (by omega)
theorem dg_3 {n : Nat} (h : n < 2097152) : (dg n).length ≤ 3 := dg_len 2 n (by omega)
theorem txt_len {s : ByteArray} (h : s.size ≤ 16) : (txt s).length ≤ 17 := by
  have e1 := dg_1 (n := s.size) (by omega)
  have e : s.data.toList.length = s.size := Array.length_toList (xs := s.data)
  unfold txt
  rw [List.length_append, e]
  omega
theorem entEnc_len {x : Ent} (h : EntOk x) : (entEnc x).length ≤ 20 := by
  obtain ⟨h1, h2, h3⟩ := h
  have e1 := dg_3 (n := x.num.toNat) (by omega)
  have e2 := txt_len h1.2.1
  simp [entEnc, layL]
  omega
theorem flat_len {T : Type} {f : T → List UInt8} {n : Nat} : ∀ (l : List T), (∀ x ∈ l, (f x).length ≤ n) → (l.flatMap f).length ≤ n * l.length
  | [], _ => by simp
  | x :: l, h => by
    have h1 := h x (by simp)
    have h2 := flat_len l fun y hy => h y (by simp [hy])
    rw [List.flatMap_cons, List.length_append, List.length_cons, Nat.mul_succ]
    omega
theorem laid_len {T : Type} {K : Kd T} {n : Nat} (hn : ∀ x, K.ok x → (K.enc x).length ≤ n) {l : List T} (h : May K l) : (laidL K l).length ≤ 2 + n * l.length := by
  have h1 := dg_2 (n := l.length) (by have := h.1; omega)
  have h2 := flat_len l fun x hx => hn x (h.ok hx)
  unfold laidL
  rw [List.length_append]
  omega
end Go.Proofs.YtfokdmijkniomaaGreatDoor

namespace Go.Proofs.YtfokdmijkniomaaGreatDoor
open Go.RowKit Go

theorem ba_ext {p q : ByteArray} (h : p.data.toList = q.data.toList) : p = q := by
  rw [← bs_self p, ← bs_self q, h]

/-! ### Texts cut at a byte -/
def joinB (c : UInt8) : List ByteArray → List UInt8
  | [] => []
  | [p] => p.data.toList
  | p :: q :: r => p.data.toList ++ c :: joinB c (q :: r)
theorem joinB_cons {c : UInt8} {p : ByteArray} {l : List ByteArray} (h : l ≠ []) : joinB c (p :: l) = p.data.toList ++ c :: joinB c l := by
  cases l with
  | nil => exact absurd rfl h
  | cons q r => rfl
theorem joinB_snoc {c : UInt8} {p : ByteArray} : ∀ {l : List ByteArray}, l ≠ [] → joinB c (l ++ [p]) = joinB c l ++ c :: p.data.toList
  | [], h => absurd rfl h
  | [q], _ => rfl
  | q :: q1 :: r, _ => by
    have ih := joinB_snoc (c := c) (p := p) (l := q1 :: r) (by simp)
    show q.data.toList ++ c :: joinB c ((q1 :: r) ++ [p]) = (q.data.toList ++ c :: joinB c (q1 :: r)) ++ c :: p.data.toList
    rw [ih]
    simp
def NoB (c : UInt8) (p : ByteArray) : Prop := c ∉ p.data.toList
/-- what a text is cut into at a byte -/
def Parts (c : UInt8) (s : ByteArray) (ps : List ByteArray) : Prop := ps ≠ [] ∧ (∀ p ∈ ps, NoB c p) ∧ joinB c ps = s.data.toList
/-- the same, of at most so many parts, the last one with all that is left -/
def CutN (c : UInt8) (n : Nat) (s : ByteArray) (ps : List ByteArray) : Prop :=
  ps ≠ [] ∧ ps.length ≤ n ∧ joinB c ps = s.data.toList ∧ (∀ p ∈ ps.dropLast, NoB c p) ∧ (ps.length < n → ∀ p ∈ ps, NoB c p)
theorem first_inj {c : UInt8} : ∀ {a b x y : List UInt8}, c ∉ a → c ∉ b → a ++ c :: x = b ++ c :: y → a = b ∧ x = y
  | [], [], x, y, _, _, h => by simpa using h
  | [], d :: b, x, y, _, hb, h => by
    simp only [List.nil_append, List.cons_append, List.cons.injEq] at h
    exact absurd (by rw [h.1]; simp) hb
  | d :: a, [], x, y, ha, _, h => by
    simp only [List.nil_append, List.cons_append, List.cons.injEq] at h
    exact absurd (by rw [h.1]; simp) ha
  | d :: a, e :: b, x, y, ha, hb, h => by
    simp only [List.cons_append, List.cons.injEq] at h
    obtain ⟨rfl, h⟩ := h
    obtain ⟨rfl, r⟩ := first_inj (fun k => ha (List.mem_cons_of_mem _ k)) (fun k => hb (List.mem_cons_of_mem _ k)) h
    exact ⟨rfl, r⟩
theorem joinB_inj {c : UInt8} : ∀ {ps qs : List ByteArray}, ps ≠ [] → qs ≠ [] → (∀ p ∈ ps, NoB c p) → (∀ q ∈ qs, NoB c q) → joinB c ps = joinB c qs → ps = qs
  | [], _, h, _, _, _, _ => absurd rfl h
  | _, [], _, h, _, _, _ => absurd rfl h
  | [p], [q], _, _, _, _, h => by rw [ba_ext h]
  | [p], q :: q1 :: r, _, _, hp, _, h => by
    have h : p.data.toList = q.data.toList ++ c :: joinB c (q1 :: r) := h
    exact absurd (show c ∈ p.data.toList by rw [h]; simp) (hp p (by simp))
  | p :: p1 :: r, [q], _, _, _, hq, h => by
    have h : p.data.toList ++ c :: joinB c (p1 :: r) = q.data.toList := h
    exact absurd (show c ∈ q.data.toList by rw [← h]; simp) (hq q (by simp))
  | p :: p1 :: r, q :: q1 :: t, _, _, hp, hq, h => by
    have h : p.data.toList ++ c :: joinB c (p1 :: r) = q.data.toList ++ c :: joinB c (q1 :: t) := h
    obtain ⟨e1, e2⟩ := first_inj (hp p (by simp)) (hq q (by simp)) h
    rw [ba_ext e1, joinB_inj (by simp) (by simp) (fun x hx => hp x (List.mem_cons_of_mem _ hx)) (fun x hx => hq x (List.mem_cons_of_mem _ hx)) e2]
theorem Parts.uniq {c : UInt8} {s : ByteArray} {ps qs : List ByteArray} (h : Parts c s ps) (k : Parts c s qs) : ps = qs :=
  joinB_inj h.1 k.1 h.2.1 k.2.1 (h.2.2.trans k.2.2.symm)
theorem CutN.short {c : UInt8} {n : Nat} {s : ByteArray} {ps : List ByteArray} (h : CutN c n s ps) (hl : ps.length < n) : Parts c s ps := ⟨h.1, h.2.2.2.2 hl, h.2.2.1⟩
theorem cut_len {c : UInt8} : ∀ {ps qs : List ByteArray}, qs ≠ [] → (∀ p ∈ ps.dropLast, NoB c p) → (∀ q ∈ qs, NoB c q) → joinB c ps = joinB c qs → ps.length ≤ qs.length
  | [], _, _, _, _, _ => Nat.zero_le _
  | _, [], h, _, _, _ => absurd rfl h
  | [p], q :: r, _, _, _, _ => by simp
  | p :: p1 :: r, [q], _, _, hq, h => by
    have h : p.data.toList ++ c :: joinB c (p1 :: r) = q.data.toList := h
    exact absurd (show c ∈ q.data.toList by rw [← h]; simp) (hq q (by simp))
  | p :: p1 :: r, q :: q1 :: t, _, hp, hq, h => by
    have h : p.data.toList ++ c :: joinB c (p1 :: r) = q.data.toList ++ c :: joinB c (q1 :: t) := h
    obtain ⟨_, e2⟩ := first_inj (hp p (by simp)) (hq q (by simp)) h
    have := cut_len (ps := p1 :: r) (qs := q1 :: t) (by simp) (fun x hx => hp x (by rw [List.dropLast_cons_of_ne_nil (by simp)]; exact List.mem_cons_of_mem _ hx)) (fun x hx => hq x (List.mem_cons_of_mem _ hx)) e2
    simpa using this
theorem CutN.long {c : UInt8} {n : Nat} {s : ByteArray} {ps qs : List ByteArray} (h : CutN c n s ps) (k : Parts c s qs) : ps.length ≤ qs.length :=
  cut_len k.1 h.2.2.2.1 k.2.1 (h.2.2.1.trans k.2.2.symm)
theorem CutN.parts {c : UInt8} {n : Nat} {s : ByteArray} {ps qs : List ByteArray} (h : CutN c n s ps) (k : Parts c s qs) (hq : qs.length < n) : ps = qs :=
  (h.short (Nat.lt_of_le_of_lt (h.long k) hq)).uniq k
theorem joinB_len (c : UInt8) : ∀ (ps : List ByteArray), ps.length ≤ (joinB c ps).length + 1
  | [] => Nat.zero_le _
  | [p] => by simp
  | p :: q :: r => by
    have := joinB_len c (q :: r)
    show _ ≤ (p.data.toList ++ c :: joinB c (q :: r)).length + 1
    simp only [List.length_append, List.length_cons] at *
    omega
theorem joinB_len_snoc (c : UInt8) (p : ByteArray) (l : List ByteArray) : l.length + p.size ≤ (joinB c (l ++ [p])).length := by
  have hs : p.data.toList.length = p.size := Array.length_toList (xs := p.data)
  by_cases h : l = []
  · subst h
    show 0 + p.size ≤ p.data.toList.length
    omega
  · rw [joinB_snoc h]
    have := joinB_len c l
    simp only [List.length_append, List.length_cons]
    omega

/-! ### Paths -/
def IsPath (s : ByteArray) (l : List ByteArray) : Prop :=
  (∀ n ∈ l, NameOk n) ∧ l.length ≤ 8 ∧ ((l = [] ∧ s.data.toList = [47]) ∨ (l ≠ [] ∧ s.data.toList = 47 :: joinB 47 l))
def PathOk (s : ByteArray) : Prop := ∃ l, IsPath s l
theorem nameByte_not {c : UInt8} (h : nameByte c = true) : c ≠ 47 ∧ c ≠ 32 := by
  refine ⟨?_, ?_⟩ <;> (rintro rfl; revert h; decide)
theorem NameOk.noB {s : ByteArray} (h : NameOk s) : NoB 47 s ∧ NoB 32 s :=
  ⟨fun k => (nameByte_not (h.2.2.1 _ k)).1 rfl, fun k => (nameByte_not (h.2.2.1 _ k)).2 rfl⟩
theorem IsPath.parts {s r : ByteArray} {l : List ByteArray} (h : IsPath s l) (hl : l ≠ []) (hr : s.data.toList = 47 :: r.data.toList) : Parts 47 r l := by
  refine ⟨hl, fun p hp => (h.1 p hp).noB.1, ?_⟩
  rcases h.2.2 with ⟨h1, _⟩ | ⟨_, h2⟩
  · exact absurd h1 hl
  · rw [h2] at hr
    exact (List.cons.inj hr).2
theorem joinB_ne {l : List ByteArray} (hl : l ≠ []) (h : ∀ n ∈ l, NameOk n) : joinB 47 l ≠ [] := by
  cases l with
  | nil => exact absurd rfl hl
  | cons p r =>
    have h1 := (h p (by simp)).1
    have hs : p.data.toList.length = p.size := Array.length_toList (xs := p.data)
    have hp : p.data.toList ≠ [] := fun e => by rw [e] at hs; simp at hs; omega
    cases r with
    | nil => exact hp
    | cons q t =>
      show p.data.toList ++ _ ≠ []
      simp
theorem IsPath.uniq {s : ByteArray} {l m : List ByteArray} (h : IsPath s l) (k : IsPath s m) : l = m := by
  rcases h.2.2 with ⟨rfl, h1⟩ | ⟨h0, h1⟩
  · rcases k.2.2 with ⟨rfl, k1⟩ | ⟨k0, k1⟩
    · rfl
    · rw [h1] at k1
      exact absurd (List.cons.inj k1).2.symm (joinB_ne k0 k.1)
  · rcases k.2.2 with ⟨rfl, k1⟩ | ⟨k0, k1⟩
    · rw [k1] at h1
      exact absurd (List.cons.inj h1).2.symm (joinB_ne h0 h.1)
    · exact joinB_inj h0 k0 (fun p hp => (h.1 p hp).noB.1) (fun p hp => (k.1 p hp).noB.1) (List.cons.inj (h1.symm.trans k1)).2
theorem IsPath.root : IsPath ⟨#[47]⟩ [] := ⟨by simp, by simp, .inl ⟨rfl, rfl⟩⟩
theorem IsPath.some {s r : ByteArray} {l : List ByteArray} (hr : s.data.toList = 47 :: r.data.toList) (hp : Parts 47 r l) (hn : ∀ n ∈ l, NameOk n) (h8 : l.length ≤ 8) : IsPath s l :=
  ⟨hn, h8, .inr ⟨hp.1, by rw [hr, hp.2.2]⟩⟩
theorem joinB_mem {c d : UInt8} (hd : d ≠ c) : ∀ {l : List ByteArray}, d ∈ joinB c l → ∃ p ∈ l, d ∈ p.data.toList
  | [], h => by simp [joinB] at h
  | [p], h => ⟨p, by simp, h⟩
  | p :: q :: r, h => by
    have h : d ∈ p.data.toList ++ c :: joinB c (q :: r) := h
    rcases List.mem_append.1 h with h | h
    · exact ⟨p, by simp, h⟩
    · rcases List.mem_cons.1 h with h | h
      · exact absurd h hd
      · obtain ⟨x, hx, hd⟩ := joinB_mem hd h
        exact ⟨x, List.mem_cons_of_mem _ hx, hd⟩
theorem IsPath.noB {s : ByteArray} {l : List ByteArray} (h : IsPath s l) : NoB 32 s := by
  intro hm
  rcases h.2.2 with ⟨_, e⟩ | ⟨_, e⟩
  · rw [e] at hm
    revert hm; decide
  · rw [e] at hm
    rcases List.mem_cons.1 hm with hm | hm
    · revert hm; decide
    · obtain ⟨p, hp, hd⟩ := joinB_mem (by decide) hm
      exact (h.1 p hp).noB.2 hd

/-! ### Numbers -/
theorem dec_step {u : Nat} (h : ¬ u < 10) : Lib.decDigits u = Lib.decDigits (u / 10) ++ [UInt8.ofNat (48 + u % 10)] := by
  rw [Lib.decDigits, dif_neg h]
theorem parse_snoc (c : UInt8) : ∀ (l : List UInt8) (acc a : Nat), Lib.parseUint10 acc l = .ok a → Lib.parseUint10 acc (l ++ [c]) = Lib.parseUint10 a [c]
  | [], acc, a, h => by
    obtain rfl : acc = a := by simpa [Lib.parseUint10] using h
    rfl
  | d :: l, acc, a, h => by
    have ih := fun b g => parse_snoc c l b a g
    generalize Lib.parseUint10 a [c] = R at ih ⊢
    simp only [List.cons_append, Lib.parseUint10] at h ⊢
    split at h
    · rename_i h1
      rw [if_pos h1]
      split at h
      · cases h
      · rename_i h2
        rw [if_neg h2]
        split at h
        · cases h
        · rename_i h3
          rw [if_neg h3]
          exact ih _ h
    · cases h
theorem dig_nat {d : Nat} (h : d < 10) : (UInt8.ofNat (48 + d)).toNat = 48 + d := by simp; omega
theorem parse_dec : ∀ (n u : Nat), u < n → u < 1000000 → Lib.parseUint10 0 (Lib.decDigits u) = .ok u
  | 0, u, h, _ => absurd h (by omega)
  | n + 1, u, h, hb => by
    by_cases h10 : u < 10
    · rw [Lib.decDigits_one h10]
      simp only [Lib.parseUint10, dig_nat h10]
      rw [if_pos (by omega), if_neg (by omega), if_neg (by omega)]
      congr 1; omega
    · rw [dec_step h10, parse_snoc _ _ _ _ (parse_dec n (u / 10) (by omega) (by omega))]
      have hd : u % 10 < 10 := by omega
      simp only [Lib.parseUint10, dig_nat hd]
      rw [if_pos (by omega), if_neg (by omega), if_neg (by omega)]
      congr 1; omega
theorem dec_ne (u : Nat) : Lib.decDigits u ≠ [] := by
  intro h
  have := Lib.nDigits_pos u
  rw [← Lib.decDigits_length, h] at this
  simp at this
theorem dec_all : ∀ (n u : Nat), u < n → ∀ c ∈ Lib.decDigits u, 48 ≤ c.toNat ∧ c.toNat ≤ 57
  | 0, u, h, _, _ => absurd h (by omega)
  | n + 1, u, h, c, hc => by
    by_cases h10 : u < 10
    · rw [Lib.decDigits_one h10] at hc
      rw [List.mem_singleton.1 hc, dig_nat h10]; omega
    · rw [dec_step h10] at hc
      rcases List.mem_append.1 hc with hc | hc
      · exact dec_all n (u / 10) (by omega) c hc
      · rw [List.mem_singleton.1 hc, dig_nat (by omega)]; omega
theorem atoi_itoa (n : Int) (h0 : 0 ≤ n) (h1 : n < 1000000) : Lib.atoiAll (Lib.itoa n) = .ok n := by
  obtain ⟨u, rfl⟩ : ∃ u : Nat, n = u := ⟨n.toNat, by omega⟩
  rw [Lib.itoa_nonneg]
  have hp := parse_dec (u + 1) u (by omega) (by omega)
  have hd := dec_all (u + 1) u (by omega)
  have hn := dec_ne u
  generalize Lib.decDigits u = l at *
  cases l with
  | nil => exact absurd rfl hn
  | cons c r =>
    have hc := hd c (by simp)
    unfold Lib.atoiAll
    simp only
    have e1 : ¬ c.toNat = 45 := by omega
    have e2 : ¬ (c.toNat = 43 ∨ c.toNat = 45) := by omega
    rw [if_neg e2]
    unfold Lib.parseMag
    rw [if_neg (by simp), hp]
    simp only
    rw [if_neg (by omega), if_neg (by omega), if_neg e1]
/-- a place, and its word -/
def AtW (n : Int) (w : ByteArray) : Prop := 0 ≤ n ∧ n ≤ 16384 ∧ Lib.itoa n = w.data.toList
theorem AtW.uniq {n m : Int} {w : ByteArray} (h : AtW n w) (k : AtW m w) : n = m := by
  have e1 := atoi_itoa n h.1 (by have := h.2.1; omega)
  have e2 := atoi_itoa m k.1 (by have := k.2.1; omega)
  rw [h.2.2, ← k.2.2, e2] at e1
  exact (Lib.NumEnd.ok.inj e1).symm
theorem AtW.atoi {n : Int} {w : ByteArray} (h : AtW n w) : Lib.atoiAll w.data.toList = .ok n := by
  rw [← h.2.2]; exact atoi_itoa n h.1 (by have := h.2.1; omega)
theorem itoa_noB {n : Int} (h : 0 ≤ n) : NoB 32 (bs (Lib.itoa n)) := by
  obtain ⟨u, rfl⟩ : ∃ u : Nat, n = u := ⟨n.toNat, by omega⟩
  intro hm
  rw [bs_list, Lib.itoa_nonneg] at hm
  have := dec_all (u + 1) u (by omega) _ hm
  revert this; decide
/-- what the reference makes of the digits of a word: the first six bytes -/
def atV (l : List UInt8) : Int := l.foldl (fun a c => 10 * a + ((c.toNat : Int) - 48)) 0
theorem atV_snoc (l : List UInt8) (c : UInt8) : atV (l ++ [c]) = 10 * atV l + ((c.toNat : Int) - 48) := by simp [atV]
theorem atV_dec : ∀ (n u : Nat), u < n → atV (Lib.decDigits u) = u
  | 0, u, h => absurd h (by omega)
  | n + 1, u, h => by
    by_cases h10 : u < 10
    · rw [Lib.decDigits_one h10]
      have e := dig_nat h10
      simp only [atV, List.foldl_cons, List.foldl_nil, e]
      omega
    · rw [dec_step h10, atV_snoc, atV_dec n (u / 10) (by omega), dig_nat (by omega)]
      omega
theorem dec_len {u : Nat} (h : u < 1000000) : (Lib.decDigits u).length ≤ 6 := by
  rw [Lib.decDigits_length]
  refine Nat.le_of_not_lt fun k => ?_
  have := Lib.lt_pow_nDigits u
  have h2 : ∀ (j v : Nat), v < 10 ^ j → Lib.nDigits v ≤ max j 1 := by
    intro j
    induction j with
    | zero => intro v hv; rw [Lib.nDigits_small (by simp at hv; omega)]; simp
    | succ j ih =>
      intro v hv
      by_cases h10 : v < 10
      · rw [Lib.nDigits_small h10]; simp
      · rw [Lib.nDigits_big h10]
        have := ih (v / 10) (by rw [Nat.pow_succ] at hv; omega)
        have hj : 1 ≤ j := by
          rcases Nat.eq_zero_or_pos j with rfl | h
          · simp at hv; omega
          · exact h
        omega
  have := h2 6 u (by omega)
  omega
theorem AtW.val {n : Int} {w : ByteArray} (h : AtW n w) : atV (w.data.toList.take 6) = n := by
  obtain ⟨h0, h1, h2⟩ := h
  obtain ⟨u, rfl⟩ : ∃ u : Nat, n = u := ⟨n.toNat, by omega⟩
  rw [← h2, Lib.itoa_nonneg, List.take_of_length_le (dec_len (by omega)), atV_dec (u + 1) u (by omega)]

/-! ### Bytes in digits of base sixteen -/
def hexD (n : Nat) : UInt8 := if n < 10 then UInt8.ofNat (48 + n) else UInt8.ofNat (87 + n)
def hexB (b : UInt8) : List UInt8 := [hexD (b.toNat / 16), hexD (b.toNat % 16)]
def hexW (l : List UInt8) : List UInt8 := if l = [] then [45] else l.flatMap hexB
def hexV (c : UInt8) : Int := if 97 ≤ c.toNat then (c.toNat : Int) - 97 + 10 else (c.toNat : Int) - 48
theorem hexV_D {n : Nat} (h : n < 16) : hexV (hexD n) = n := by
  have : ∀ k : Fin 16, hexV (hexD k.val) = (k.val : Int) := by decide +kernel
  exact this ⟨n, h⟩
theorem hexD_is {n : Nat} (h : n < 16) : hexD n ≠ 32 ∧ hexD n ≠ 45 := by
  have : ∀ k : Fin 16, hexD k.val ≠ 32 ∧ hexD k.val ≠ 45 := by decide +kernel
  exact this ⟨n, h⟩
theorem byte_16 (b : UInt8) : b.toNat / 16 < 16 ∧ b.toNat % 16 < 16 := by have := b.toNat_lt; omega
/-- the byte of two digits -/
def unB (x y : UInt8) : UInt8 := UInt8.ofInt (16 * hexV x + hexV y)
theorem unB_hex (b : UInt8) : unB (hexD (b.toNat / 16)) (hexD (b.toNat % 16)) = b := by
  unfold unB
  rw [hexV_D (byte_16 b).1, hexV_D (byte_16 b).2]
  have : (16 * ((b.toNat / 16 : Nat) : Int) + ((b.toNat % 16 : Nat) : Int)) = (b.toNat : Int) := by omega
  rw [this]
  have h2 : ∀ k : Fin 256, UInt8.ofInt (k.val : Int) = UInt8.ofNat k.val := by decide +kernel
  rw [h2 ⟨b.toNat, b.toNat_lt⟩]
  simp
def unhex : List UInt8 → List UInt8
  | x :: y :: r => unB x y :: unhex r
  | _ => []
theorem unhex_hex : ∀ (l : List UInt8), unhex (l.flatMap hexB) = l
  | [] => rfl
  | b :: l => by
    show unhex (hexD (b.toNat / 16) :: hexD (b.toNat % 16) :: l.flatMap hexB) = _
    rw [unhex, unB_hex, unhex_hex l]
theorem flat_hex_len (l : List UInt8) : (l.flatMap hexB).length = 2 * l.length := by
  induction l with
  | nil => rfl
  | cons b l ih => simp [hexB, ih] at *; omega
theorem flat_hex_ne {l : List UInt8} (_ : l ≠ []) : l.flatMap hexB ≠ [45] := by
  intro e
  have := flat_hex_len l
  rw [e] at this
  simp at this
  omega
theorem hexW_inj {a b : List UInt8} (h : hexW a = hexW b) : a = b := by
  unfold hexW at h
  split at h
  · split at h
    · simp [*]
    · exact absurd h.symm (flat_hex_ne (by assumption))
  · split at h
    · exact absurd h (flat_hex_ne (by assumption))
    · rw [← unhex_hex a, h, unhex_hex]
theorem hexW_noB (l : List UInt8) : NoB 32 (bs (hexW l)) := by
  intro hm
  rw [bs_list] at hm
  unfold hexW at hm
  split at hm
  · revert hm; decide
  · obtain ⟨b, _, hb⟩ := List.mem_flatMap.1 hm
    have h := byte_16 b
    simp only [hexB, List.mem_cons, List.not_mem_nil, or_false] at hb
    rcases hb with hb | hb
    · exact (hexD_is h.1).1 hb.symm
    · exact (hexD_is h.2).1 hb.symm
/-- bytes, and their word -/
def DatW (d w : ByteArray) : Prop := d.size ≤ 512 ∧ hexW d.data.toList = w.data.toList
theorem DatW.uniq {d e w : ByteArray} (h : DatW d w) (k : DatW e w) : d = e := ba_ext (hexW_inj (h.2.trans k.2.symm))

/-! ### Commands -/
structure Cmd where
  kind : Int
  path : ByteArray
  dest : ByteArray
  place : Int
  data : ByteArray
inductive Fld | path | name | dest | place | data
def fldN : Fld → Int
  | .path => 0 | .name => 1 | .dest => 2 | .place => 3 | .data => 4
def wordK : Nat → ByteArray
  | 0 => ⟨#[109, 97, 107, 101]⟩
  | 1 => ⟨#[100, 105, 114]⟩
  | 2 => ⟨#[119, 114, 105, 116, 101]⟩
  | 3 => ⟨#[99, 117, 116]⟩
  | 4 => ⟨#[108, 105, 110, 107]⟩
  | 5 => ⟨#[114, 101, 110, 97, 109, 101]⟩
  | 6 => ⟨#[114, 101, 109, 111, 118, 101]⟩
  | 7 => ⟨#[115, 110, 97, 112]⟩
  | _ => ⟨#[117, 110, 115, 110, 97, 112]⟩
def fldK : Nat → List Fld
  | 0 => [.path] | 1 => [.path] | 2 => [.path, .place, .data] | 3 => [.path, .place] | 4 => [.path, .dest] | 5 => [.path, .dest] | 6 => [.path] | _ => [.name]
def fldLay (c : Cmd) : Fld → ByteArray
  | .path => c.path | .name => c.path | .dest => c.dest | .place => bs (Lib.itoa c.place) | .data => bs (hexW c.data.data.toList)
def wordsC (k : Nat) (c : Cmd) : List ByteArray := wordK k :: (fldK k).map (fldLay c)
/-- may a command be one of kind k? -/
def MayK (c : Cmd) : Nat → Prop
  | 0 => PathOk c.path ∧ c.dest = ⟨#[]⟩ ∧ c.place = 0 ∧ c.data = ⟨#[]⟩
  | 1 => PathOk c.path ∧ c.dest = ⟨#[]⟩ ∧ c.place = 0 ∧ c.data = ⟨#[]⟩
  | 2 => PathOk c.path ∧ c.dest = ⟨#[]⟩ ∧ (0 ≤ c.place ∧ c.place ≤ 16384) ∧ c.data.size ≤ 512
  | 3 => PathOk c.path ∧ c.dest = ⟨#[]⟩ ∧ (0 ≤ c.place ∧ c.place ≤ 16384) ∧ c.data = ⟨#[]⟩
  | 4 => PathOk c.path ∧ PathOk c.dest ∧ c.place = 0 ∧ c.data = ⟨#[]⟩
  | 5 => PathOk c.path ∧ PathOk c.dest ∧ c.place = 0 ∧ c.data = ⟨#[]⟩
  | 6 => PathOk c.path ∧ c.dest = ⟨#[]⟩ ∧ c.place = 0 ∧ c.data = ⟨#[]⟩
  | _ => NameOk c.path ∧ c.dest = ⟨#[]⟩ ∧ c.place = 0 ∧ c.data = ⟨#[]⟩
def MayC (c : Cmd) : Prop := ∃ k : Nat, k < 9 ∧ c.kind = k ∧ MayK c k
def lineK (k : Nat) (c : Cmd) : List UInt8 := joinB 32 (wordsC k c)
/-- a command's line -/
def IsLine (c : Cmd) (s : ByteArray) : Prop := ∃ k : Nat, k < 9 ∧ c.kind = k ∧ MayK c k ∧ lineK k c = s.data.toList
theorem below9 {k : Nat} (h : k < 9) : k = 0 ∨ k = 1 ∨ k = 2 ∨ k = 3 ∨ k = 4 ∨ k = 5 ∨ k = 6 ∨ k = 7 ∨ k = 8 := by omega
theorem wordK_noB {k : Nat} (hk : k < 9) : NoB 32 (wordK k) := by
  rcases below9 hk with rfl | rfl | rfl | rfl | rfl | rfl | rfl | rfl | rfl <;> (unfold NoB wordK; decide)
theorem wordK_inj {j k : Nat} (hj : j < 9) (hk : k < 9) (h : wordK j = wordK k) : j = k := by
  have : ∀ a b : Fin 9, (wordK a.val).data.toList = (wordK b.val).data.toList → a = b := by decide +kernel
  have := this ⟨j, hj⟩ ⟨k, hk⟩ (by simp only []; rw [h])
  exact congrArg Fin.val this
theorem words_noB {c : Cmd} {k : Nat} (hk : k < 9) (h : MayK c k) : ∀ p ∈ wordsC k c, NoB 32 p := by
  have hp : PathOk c.path → NoB 32 c.path := fun ⟨_, h⟩ => h.noB
  have ht : PathOk c.dest → NoB 32 c.dest := fun ⟨_, h⟩ => h.noB
  have hd : NoB 32 (bs (hexW c.data.data.toList)) := hexW_noB _
  have hw := wordK_noB hk
  rcases below9 hk with rfl | rfl | rfl | rfl | rfl | rfl | rfl | rfl | rfl <;>
    simp only [wordsC, fldK, List.map_cons, List.map_nil, fldLay, List.mem_cons, List.not_mem_nil, or_false, forall_eq_or_imp, forall_eq, MayK] at h ⊢ <;>
    first
    | exact ⟨hw, hp h.1⟩
    | exact ⟨hw, hp h.1, itoa_noB h.2.2.1.1, hd⟩
    | exact ⟨hw, hp h.1, itoa_noB h.2.2.1.1⟩
    | exact ⟨hw, hp h.1, ht h.2.1⟩
    | exact ⟨hw, h.1.noB.2⟩
theorem IsLine.parts {c : Cmd} {s : ByteArray} {k : Nat} (hk : k < 9) (h : MayK c k) (hs : lineK k c = s.data.toList) : Parts 32 s (wordsC k c) :=
  ⟨by simp [wordsC], words_noB hk h, hs⟩
theorem cmd_ext {c d : Cmd} (h1 : c.kind = d.kind) (h2 : c.path = d.path) (h3 : c.dest = d.dest) (h4 : c.place = d.place) (h5 : c.data = d.data) : c = d := by
  cases c; cases d; simp_all
theorem itoa_inj {n m : Int} (h : 0 ≤ n ∧ n ≤ 16384) (k : 0 ≤ m ∧ m ≤ 16384) (e : bs (Lib.itoa n) = bs (Lib.itoa m)) : n = m :=
  AtW.uniq (w := bs (Lib.itoa n)) ⟨h.1, h.2, by rw [bs_list]⟩ ⟨k.1, k.2, by rw [e, bs_list]⟩
theorem bhex_inj {a b : ByteArray} (e : bs (hexW a.data.toList) = bs (hexW b.data.toList)) : a = b := by
  have h := congrArg (·.data.toList) e
  simp only [bs_list] at h
  exact ba_ext (hexW_inj h)
theorem mayK_inj {c d : Cmd} {k : Nat} (hk : k < 9) (hc : c.kind = k) (hd : d.kind = k) (h : MayK c k) (g : MayK d k) (e : wordsC k c = wordsC k d) : c = d := by
  rcases below9 hk with rfl | rfl | rfl | rfl | rfl | rfl | rfl | rfl | rfl <;>
    (simp only [wordsC, fldK, List.map_cons, List.map_nil, fldLay, List.cons.injEq, true_and, and_true, MayK] at h g e) <;>
    refine cmd_ext (hc.trans hd.symm) ?_ ?_ ?_ ?_ <;>
    first
    | exact e | exact e.1 | exact e.2
    | exact h.2.1.trans g.2.1.symm
    | exact h.2.2.1.trans g.2.2.1.symm
    | exact h.2.2.2.trans g.2.2.2.symm
    | exact itoa_inj h.2.2.1 g.2.2.1 e.2.1
    | exact itoa_inj h.2.2.1 g.2.2.1 e.2
    | exact bhex_inj e.2.2
theorem IsLine.uniq {c d : Cmd} {s : ByteArray} (h : IsLine c s) (g : IsLine d s) : c = d := by
  obtain ⟨k, hk, hc, hm, hl⟩ := h
  obtain ⟨j, hj, hd, gm, gl⟩ := g
  have e := (IsLine.parts hk hm hl).uniq (IsLine.parts hj gm gl)
  have ew := (List.cons.inj e).1
  obtain rfl := wordK_inj hk hj ew
  exact mayK_inj hk hc hd hm gm e

/-! ### Fields read one behind the other -/
def FldRd (w : ByteArray) (c : Cmd) : Fld → Cmd → Prop
  | .path, d => PathOk w ∧ d = { c with path := w }
  | .name, d => NameOk w ∧ d = { c with path := w }
  | .dest, d => PathOk w ∧ d = { c with dest := w }
  | .place, d => ∃ n, AtW n w ∧ d = { c with place := n }
  | .data, d => ∃ x, DatW x w ∧ d = { c with data := x }
def ReadsF : List Fld → List ByteArray → Cmd → Cmd → Prop
  | [], [], c, d => c = d
  | f :: fs, w :: ws, c, d => ∃ e, FldRd w c f e ∧ ReadsF fs ws e d
  | _, _, _, _ => False
def cmd0 (k : Nat) : Cmd := ⟨k, ⟨#[]⟩, ⟨#[]⟩, 0, ⟨#[]⟩⟩
theorem FldRd.uniq {w : ByteArray} {c d e : Cmd} {f : Fld} (h : FldRd w c f d) (g : FldRd w c f e) : d = e := by
  cases f with
  | path => exact h.2.trans g.2.symm
  | name => exact h.2.trans g.2.symm
  | dest => exact h.2.trans g.2.symm
  | place =>
    obtain ⟨n, hn, rfl⟩ := h
    obtain ⟨m, hm, rfl⟩ := g
    rw [hn.uniq hm]
  | data =>
    obtain ⟨n, hn, rfl⟩ := h
    obtain ⟨m, hm, rfl⟩ := g
    rw [hn.uniq hm]
theorem ReadsF.step {f : Fld} {fs : List Fld} {w : ByteArray} {ws : List ByteArray} {c e d : Cmd} (h : FldRd w c f e) : ReadsF (f :: fs) (w :: ws) c d ↔ ReadsF fs ws e d :=
  ⟨fun ⟨_, h1, h2⟩ => h.uniq h1 ▸ h2, fun k => ⟨e, h, k⟩⟩
theorem ReadsF.stop {f : Fld} {fs : List Fld} {w : ByteArray} {ws : List ByteArray} {c d : Cmd} (h : ∀ e, ¬ FldRd w c f e) : ¬ ReadsF (f :: fs) (w :: ws) c d :=
  fun ⟨e, h1, _⟩ => h e h1
theorem reads_len : ∀ {fs : List Fld} {ws : List ByteArray} {c d : Cmd}, ReadsF fs ws c d → ws.length = fs.length
  | [], [], _, _, _ => rfl
  | [], _ :: _, _, _, h => h.elim
  | _ :: _, [], _, _, h => h.elim
  | _ :: _, _ :: _, _, _, ⟨_, _, h⟩ => by simp [reads_len h]
theorem bs_of {a : List UInt8} {w : ByteArray} (h : a = w.data.toList) : bs a = w := by rw [h, bs_self]
theorem fldLay_len (k : Nat) (c : Cmd) : (wordsC k c).length = (fldK k).length + 1 := by simp [wordsC]
theorem reads_to {k : Nat} (hk : k < 9) {ws : List ByteArray} {d : Cmd} (h : ReadsF (fldK k) ws (cmd0 k) d) : d.kind = k ∧ MayK d k ∧ wordsC k d = wordK k :: ws := by
  have hl := reads_len h
  have one : ∀ {f : Fld} {c : Cmd}, ReadsF [f] ws c d → ∃ x, ws = [x] ∧ FldRd x c f d := by
    intro f c h
    match ws, h with
    | [x], ⟨e, h1, h2⟩ => exact ⟨x, rfl, by rw [← show e = d from h2]; exact h1⟩
  have two : ∀ {f g : Fld} {c : Cmd}, ReadsF [f, g] ws c d → ∃ x y e, ws = [x, y] ∧ FldRd x c f e ∧ FldRd y e g d := by
    intro f g c h
    match ws, h with
    | [x, y], ⟨e, h1, e2, h2, h3⟩ => exact ⟨x, y, e, rfl, h1, by rw [← show e2 = d from h3]; exact h2⟩
  have three : ∀ {f g i : Fld} {c : Cmd}, ReadsF [f, g, i] ws c d → ∃ x y z e e2, ws = [x, y, z] ∧ FldRd x c f e ∧ FldRd y e g e2 ∧ FldRd z e2 i d := by
    intro f g i c h
    match ws, h with
    | [x, y, z], ⟨e, h1, e2, h2, e3, h3, h4⟩ => exact ⟨x, y, z, e, e2, rfl, h1, h2, by rw [← show e3 = d from h4]; exact h3⟩
  clear hl
  rcases below9 hk with rfl | rfl | rfl | rfl | rfl | rfl | rfl | rfl | rfl
  · obtain ⟨x, rfl, h1, rfl⟩ := one h
    exact ⟨rfl, ⟨h1, rfl, rfl, rfl⟩, rfl⟩
  · obtain ⟨x, rfl, h1, rfl⟩ := one h
    exact ⟨rfl, ⟨h1, rfl, rfl, rfl⟩, rfl⟩
  · obtain ⟨x, y, z, e, e2, rfl, ⟨h1, rfl⟩, ⟨n, hn, rfl⟩, ⟨b, hb, rfl⟩⟩ := three h
    refine ⟨rfl, ⟨h1, rfl, ⟨hn.1, hn.2.1⟩, hb.1⟩, ?_⟩
    show [wordK 2, x, bs (Lib.itoa n), bs (hexW b.data.toList)] = _
    rw [bs_of hn.2.2, bs_of hb.2]
  · obtain ⟨x, y, e, rfl, ⟨h1, rfl⟩, ⟨n, hn, rfl⟩⟩ := two h
    refine ⟨rfl, ⟨h1, rfl, ⟨hn.1, hn.2.1⟩, rfl⟩, ?_⟩
    show [wordK 3, x, bs (Lib.itoa n)] = _
    rw [bs_of hn.2.2]
  · obtain ⟨x, y, e, rfl, ⟨h1, rfl⟩, ⟨h2, rfl⟩⟩ := two h
    exact ⟨rfl, ⟨h1, h2, rfl, rfl⟩, rfl⟩
  · obtain ⟨x, y, e, rfl, ⟨h1, rfl⟩, ⟨h2, rfl⟩⟩ := two h
    exact ⟨rfl, ⟨h1, h2, rfl, rfl⟩, rfl⟩
  · obtain ⟨x, rfl, h1, rfl⟩ := one h
    exact ⟨rfl, ⟨h1, rfl, rfl, rfl⟩, rfl⟩
  · obtain ⟨x, rfl, h1, rfl⟩ := one h
    exact ⟨rfl, ⟨h1, rfl, rfl, rfl⟩, rfl⟩
  · obtain ⟨x, rfl, h1, rfl⟩ := one h
    exact ⟨rfl, ⟨h1, rfl, rfl, rfl⟩, rfl⟩
theorem reads_from {k : Nat} (hk : k < 9) {d : Cmd} (hd : d.kind = k) (hm : MayK d k) : ReadsF (fldK k) ((fldK k).map (fldLay d)) (cmd0 k) d := by
  obtain ⟨kd, p, t, n, b⟩ := d
  simp only at hd
  subst hd
  rcases below9 hk with rfl | rfl | rfl | rfl | rfl | rfl | rfl | rfl | rfl <;> simp only [MayK] at hm
  · obtain ⟨h1, rfl, rfl, rfl⟩ := hm; exact ⟨_, ⟨h1, rfl⟩, rfl⟩
  · obtain ⟨h1, rfl, rfl, rfl⟩ := hm; exact ⟨_, ⟨h1, rfl⟩, rfl⟩
  · obtain ⟨h1, rfl, h2, h3⟩ := hm
    exact ⟨_, ⟨h1, rfl⟩, _, ⟨n, ⟨h2.1, h2.2, (bs_list _).symm⟩, rfl⟩, _, ⟨b, ⟨h3, (bs_list _).symm⟩, rfl⟩, rfl⟩
  · obtain ⟨h1, rfl, h2, rfl⟩ := hm
    exact ⟨_, ⟨h1, rfl⟩, _, ⟨n, ⟨h2.1, h2.2, (bs_list _).symm⟩, rfl⟩, rfl⟩
  · obtain ⟨h1, h2, rfl, rfl⟩ := hm; exact ⟨_, ⟨h1, rfl⟩, _, ⟨h2, rfl⟩, rfl⟩
  · obtain ⟨h1, h2, rfl, rfl⟩ := hm; exact ⟨_, ⟨h1, rfl⟩, _, ⟨h2, rfl⟩, rfl⟩
  · obtain ⟨h1, rfl, rfl, rfl⟩ := hm; exact ⟨_, ⟨h1, rfl⟩, rfl⟩
  · obtain ⟨h1, rfl, rfl, rfl⟩ := hm; exact ⟨_, ⟨h1, rfl⟩, rfl⟩
  · obtain ⟨h1, rfl, rfl, rfl⟩ := hm; exact ⟨_, ⟨h1, rfl⟩, rfl⟩
/-- the command of words is that of the line -/
theorem isLine_of_reads {k : Nat} (hk : k < 9) {s : ByteArray} {ws : List ByteArray} {d : Cmd} (hp : Parts 32 s (wordK k :: ws)) (h : ReadsF (fldK k) ws (cmd0 k) d) : IsLine d s := by
  obtain ⟨h1, h2, h3⟩ := reads_to hk h
  exact ⟨k, hk, h1, h2, by rw [lineK, h3]; exact hp.2.2⟩
theorem IsLine.words {s : ByteArray} {d : Cmd} (h : IsLine d s) : ∃ k : Nat, k < 9 ∧ d.kind = k ∧ MayK d k ∧ Parts 32 s (wordsC k d) := by
  obtain ⟨k, hk, h1, h2, h3⟩ := h
  exact ⟨k, hk, h1, h2, IsLine.parts hk h2 h3⟩
theorem fldK_len {k : Nat} (hk : k < 9) : 1 ≤ (fldK k).length ∧ (fldK k).length ≤ 3 := by
  rcases below9 hk with rfl | rfl | rfl | rfl | rfl | rfl | rfl | rfl | rfl <;> decide
/-- no command's, if no kind's words and fields are there -/
theorem no_line {s : ByteArray} {ps : List ByteArray} (hc : CutN 32 5 s ps) (h : ∀ k, k < 9 → ∀ d, ∀ ws, ps = wordK k :: ws → ¬ ReadsF (fldK k) ws (cmd0 k) d) (d : Cmd) : ¬ IsLine d s := by
  intro hl
  obtain ⟨k, hk, h1, h2, h3⟩ := hl.words
  have e := hc.parts h3 (by rw [fldLay_len]; have := (fldK_len hk).2; omega)
  exact h k hk d _ e (reads_from hk h1 h2)
theorem yes_line {s : ByteArray} {k : Nat} (hk : k < 9) {ws : List ByteArray} (hc : CutN 32 5 s (wordK k :: ws)) {d : Cmd} (h : ReadsF (fldK k) ws (cmd0 k) d) : IsLine d s := by
  have hl := reads_len h
  have := (fldK_len hk).2
  exact isLine_of_reads hk (hc.short (by simp; omega)) h
theorem no_read {s : ByteArray} {k : Nat} (hk : k < 9) {ws : List ByteArray} (hc : CutN 32 5 s (wordK k :: ws)) (h : ∀ d, ¬ ReadsF (fldK k) ws (cmd0 k) d) (d : Cmd) : ¬ IsLine d s :=
  no_line hc (fun j hj d ws' e => by
    obtain ⟨e1, rfl⟩ := List.cons.inj e
    obtain rfl := wordK_inj hk hj e1
    exact h d) d

/-! ### What the reference makes of words -/
/-! ### What is said of a line without the document's answer -/
end Go.Proofs.YtfokdmijkniomaaGreatDoor

