/-
  The small functions of package sets and of its reference: each returns what is said, the world is as it was.
-/
import Derived.Test.YtknfakaklmpboaaRows
import Derived.Test.YtknfakaklmpboaaSetsMath
import Derived.WalkKit
import Derived.Outline
import Derived.Lib.Hide
import Derived.Lib.Strings
import Derived.Shelf.Small.Bits
import Derived.BigQuiet
import Derived.Deep.QuietTactic
namespace Go.Proofs.Ytknfakaklmpboaa
open Go.RowKit Go SM

attribute [local irreducible] Lib.pop8 Lib.ntz8
theorem ret_int {k : IntKind} {a b : Int} (h : a = b) : Ending.returned (.int k a) = .returned (.int k b) := by rw [h]
theorem ret_bool {a b : Bool} (h : a = b) : Ending.returned (.bool a) = .returned (.bool b) := by rw [h]
/-- a string of bytes, as a value -/
def str (l : List UInt8) : Value := .string ⟨l.toArray⟩

theorem ones8 (b : UInt8) (w : World) :
    Calls Try.prog 22 #[.int .u8 b.toNat] w fun e w' => e = .returned (.int .i64 (ones b)) ∧ w = w' := by
  have h := b.toNat_lt
  have e : wrap64 (Lib.pop8 b.toNat) = (ones b : Int) := by have := Lib.pop8_int b.toNat (by omega) (by omega); rw [Int.toNat_natCast] at this; unfold ones wrap64; exact this
  rw [← e]; clear e
  generalize hx : (b.toNat : Int) = x at *
  have h0 : 0 ≤ x := by omega
  have h1 : x ≤ 255 := by omega
  clear hx
  go_enter Try.func22, Try.ntmps22
  go_wp2
  go_ret
  exact ⟨rfl, rfl⟩

theorem tz8 (b : UInt8) (w : World) :
    Calls Try.prog 28 #[.int .u8 b.toNat] w fun e w' => e = .returned (.int .i64 (Lib.trailingZeros8 b.toNat)) ∧ w = w' := by
  have h := b.toNat_lt
  have e : wrap64 (Lib.ntz8 b.toNat) = (Lib.trailingZeros8 b.toNat : Int) := by have := Lib.ntz8_int b.toNat (by omega) (by omega); rw [Int.toNat_natCast] at this; unfold wrap64; exact this
  rw [← e]; clear e
  generalize hx : (b.toNat : Int) = x at *
  have h0 : 0 ≤ x := by omega
  have h1 : x ≤ 255 := by omega
  clear hx
  go_enter Try.func28, Try.ntmps28
  go_wp2
  go_ret
  exact ⟨rfl, rfl⟩

theorem gd_get {s : ByteArray} {i : Nat} (h : i < s.size) : gd s.data.toList i = s[i] := by
  have : i < s.data.toList.length := by simpa using h
  simp only [gd, List.getD_eq_getElem?_getD, List.getElem?_eq_getElem this]; rfl

theorem bits_and_one (x : Nat) (h : x < 256) : (bits .and .u8 (x : Int) 1 == 1) = (x % 2 == 1) := by
  have := bits_and (UInt8.ofNat x) 1
  have e : (UInt8.ofNat x).toNat = x := by simp; omega
  rw [e] at this
  rw [show bits .and .u8 (x : Int) 1 = _ from this]
  have e2 : (band (UInt8.ofNat x) 1).toNat = x % 2 := by simp [band, Nat.and_one_is_mod]
  rw [e2]
  have : x % 2 = 0 ∨ x % 2 = 1 := by omega
  rcases this with h | h <;> simp [h]

theorem bitI_at {s : ByteArray} {k : Nat} (h : k / 8 < s.size) : (s[k/8].toNat / 2 ^ (k % 8) % 2 == 1) = bitI s.data.toList (k : Int) := by
  simp only [bitI, Int.toNat_natCast, bit, gd_get h]
  rw [tb_div _ _ (by omega)]; simp
theorem bitI_over {s : ByteArray} {k : Nat} (h : ¬ k / 8 < s.size) : bitI s.data.toList (k : Int) = false := by
  simp [bitI, bit_ge (l := s.data.toList) (n := k) (by simpa using h)]
theorem bitI_neg {l : List UInt8} {n : Int} (h : n < 0) : bitI l n = false := by simp [bitI]; omega
theorem shr_lt (b : UInt8) (k : Nat) : b.toNat / 2 ^ k < 256 := Nat.lt_of_le_of_lt (Nat.div_le_self _ _) b.toNat_lt

theorem has_any (s : ByteArray) (n : Int) (w : World) (hs : s.size ≤ 140737488355328) (hl : -9223372036854775808 ≤ n) (hn : n ≤ 9223372036854775807) :
    Calls Try.prog 17 #[.string s, .int .i64 n] w fun e w' => e = .returned (.bool (bitI s.data.toList n)) ∧ w = w' := by
  by_cases h0 : 0 ≤ n
  · obtain ⟨k, rfl⟩ := Int.eq_ofNat_of_zero_le h0
    by_cases h : k / 8 < s.size
    · have e : (bits .and .u8 ((s[k/8].toNat : Int) / 2 ^ (k % 8)) 1 == 1) = bitI s.data.toList (k : Int) := by
        rw [← bitI_at h, ← bits_and_one _ (shr_lt _ _)]; simp
      rw [← e]; clear e
      go_enter Try.func17, Try.ntmps17
      go_wp2
      go_ret
      exact ⟨rfl, rfl⟩
    · rw [bitI_over h]
      go_enter Try.func17, Try.ntmps17
      go_wp2
      go_ret
      exact ⟨rfl, rfl⟩
  · rw [bitI_neg (by omega)]
    go_enter Try.func17, Try.ntmps17
    go_wp2
    go_ret
    exact ⟨rfl, rfl⟩

theorem rhas_any (s : ByteArray) (n : Int) (w : World) (hs : s.size ≤ 140737488355328) (hl : -9223372036854775808 ≤ n) (hn : n ≤ 9223372036854775807) :
    Calls Try.prog 21 #[.string s, .int .i64 n] w fun e w' => e = .returned (.bool (bitI s.data.toList n)) ∧ w = w' := by
  by_cases h0 : 0 ≤ n
  · obtain ⟨k, rfl⟩ := Int.eq_ofNat_of_zero_le h0
    by_cases h : k / 8 < s.size
    · have hb := s[k/8].toNat_lt
      have e : ((wrap64 s[k/8].toNat / 2 ^ (k % 8)).tmod 2 == 1) = bitI s.data.toList (k : Int) := by
        have e1 : wrap64 (s[k/8].toNat : Int) = (s[k/8].toNat : Int) := by unfold wrap64; omega
        rw [e1, ← bitI_at h]
        have e2 : ((s[k/8].toNat : Int) / 2 ^ (k % 8)) = ((s[k/8].toNat / 2 ^ (k % 8) : Nat) : Int) := by simp
        rw [e2]
        generalize s[k/8].toNat / 2 ^ (k % 8) = m
        rw [Int.tmod_eq_emod_of_nonneg (by omega)]
        have : m % 2 = 0 ∨ m % 2 = 1 := by omega
        rcases this with h | h
        · have : (m : Int) % 2 = 0 := by omega
          simp [h, this]
        · have : (m : Int) % 2 = 1 := by omega
          simp [h, this]
      rw [← e]; clear e hb
      go_enter Try.func21, Try.ntmps21
      go_wp2
      go_ret
      exact ⟨rfl, rfl⟩
    · rw [bitI_over h]
      go_enter Try.func21, Try.ntmps21
      go_wp2
      go_ret
      exact ⟨rfl, rfl⟩
  · rw [bitI_neg (by omega)]
    go_enter Try.func21, Try.ntmps21
    go_wp2
    go_ret
    exact ⟨rfl, rfl⟩

theorem extract_take (s : ByteArray) (n : Nat) : s.extract 0 n = ⟨(s.data.toList.take n).toArray⟩ := by
  apply ByteArray.ext
  apply Array.toList_inj.1
  simp [ByteArray.data_extract, Array.toList_extract, List.extract_eq_take_drop]

set_option maxHeartbeats 1000000 in
theorem count_any (s : ByteArray) (w : World) (hs : s.size ≤ 140737488355328) :
    Calls Try.prog 19 #[.string s] w fun e w' => e = .returned (.int .i64 (cnt s.data.toList)) ∧ w = w' := by
  go_enter Try.func19, Try.ntmps19
  go_wp2
  go_loop [3, 4, 7] (fun n _ i => ∃ k : Nat, k ≤ s.size ∧ i = .int .i64 k ∧ n = .int .i64 (cnt (s.data.toList.take k))) (fun _ _ i => s.size - (intOf i).toNat)
  case atStart => exact ⟨0, Nat.zero_le _, rfl, rfl⟩
  case round =>
    obtain ⟨k, hk, rfl, rfl⟩ := hrel
    have hc := cnt_le (s.data.toList.take k)
    have hl : (s.data.toList.take k).length ≤ k := List.length_take_le _ _
    by_cases hlt : k < s.size
    · have ho : ones s[k] ≤ 8 := ones_le s[k]
      have HS := Lib.hid (show cnt (s.data.toList.take (k + 1)) = cnt (s.data.toList.take k) + ones s[k] from by rw [cnt_take _ k (by simpa using hlt), gd_get hlt])
      go_wp2_with (go_at_call 22; refine (ones8 _ _).mono ?_; rintro e w' ⟨rfl, rfl⟩)
      go_round
      case rel => exact ⟨k + 1, by omega, by go_num, by rw [HS.out]; go_num⟩
      case measure => simp [intOf]; omega
    · go_wp2
      go_ret
      exact ⟨ret_int (by rw [List.take_of_length_le (by simp; omega)]), rfl⟩
end Go.Proofs.Ytknfakaklmpboaa

