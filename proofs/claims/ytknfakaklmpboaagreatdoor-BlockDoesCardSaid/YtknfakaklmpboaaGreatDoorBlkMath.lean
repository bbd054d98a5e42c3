/-
  A volume's bytes: a block's, a root's sector; read back.
-/
import Derived.Test.YtknfakaklmpboaaGreatDoorNA
import Derived.Test.YtknfakaklmpboaaGreatDoorDA
import Derived.Lib.Strings
namespace Go.Proofs.YtknfakaklmpboaaGreatDoor
open Go

def key16 : List UInt8 := [115, 116, 105, 108, 108, 97, 103, 101, 32, 118, 111, 108, 117, 109, 101, 33]
def padL (l : List UInt8) (n : Nat) : List UInt8 := l ++ List.replicate (n - l.length) 0
/-- bytes, noughts behind them, the sum -/
def sealL (l : List UInt8) (n : Nat) : List UInt8 := padL l n ++ DG.sum key16 (padL l n)
theorem length_padL {l : List UInt8} {n : Nat} (h : l.length ≤ n) : (padL l n).length = n := by
  rw [padL, List.length_append, List.length_replicate]; omega
theorem length_sealL {l : List UInt8} {n : Nat} (h : l.length ≤ n) : (sealL l n).length = n + 8 := by
  rw [sealL, List.length_append, length_padL h, DG.sum_length]
theorem sealL_eq (l : List UInt8) (n : Nat) : ∃ r, sealL l n = l ++ r := ⟨_, by rw [sealL, padL, List.append_assoc]⟩
def ofB (l : List UInt8) : ByteArray := ⟨l.toArray⟩
theorem ofB_list (l : List UInt8) : (ofB l).data.toList = l := by simp [ofB]
theorem ofB_size (l : List UInt8) : (ofB l).size = l.length := by simp [ofB, ByteArray.size]
theorem ofB_self (x : ByteArray) : ofB x.data.toList = x := ByteArray.ext (by simp [ofB])
theorem b_ext {x y : ByteArray} (h : x.data.toList = y.data.toList) : x = y := ByteArray.ext (Array.toList_inj.1 h)

/-! ### a block -/
def frameL (p : List UInt8) : List UInt8 := sealL (leN p.length 2 ++ p) 248
def frameB (p : ByteArray) : ByteArray := ofB (frameL p.data.toList)
theorem length_frameL {p : List UInt8} (h : p.length ≤ 240) : (frameL p).length = 256 := length_sealL (by rw [List.length_append, length_leN]; omega)
theorem size_frameB {p : ByteArray} (h : p.size ≤ 240) : (frameB p).size = 256 := by
  rw [frameB, ofB_size, length_frameL (by rw [len_of]; exact h)]
theorem frameL_eq (p : List UInt8) : ∃ r, frameL p = leN p.length 2 ++ (p ++ r) := by
  obtain ⟨r, h⟩ := sealL_eq (leN p.length 2 ++ p) 248
  exact ⟨r, by rw [frameL, h, List.append_assoc]⟩
/-- how many bytes a block says that it carries; these -/
def cutN (x : ByteArray) : Nat := valN (x.data.toList.take 2)
def cutB (x : ByteArray) : ByteArray := x.extract 2 (2 + cutN x)
def unframe (x : ByteArray) : Option ByteArray := if x.size = 256 ∧ cutN x ≤ 240 ∧ frameB (cutB x) = x then some (cutB x) else none
theorem cutB_list (x : ByteArray) : (cutB x).data.toList = (x.data.toList.drop 2).take (cutN x) := by
  rw [cutB, Lib.extract_data, Nat.add_sub_cancel_left]
theorem cut_frame {p : ByteArray} (h : p.size ≤ 240) : cutN (frameB p) = p.size ∧ cutB (frameB p) = p := by
  obtain ⟨r, hr⟩ := frameL_eq p.data.toList
  have hl : (leN p.data.toList.length 2).length = 2 := length_leN _ _
  have h1 : cutN (frameB p) = p.size := by
    rw [cutN, frameB, ofB_list, hr, List.take_append_of_le_length (by omega), List.take_of_length_le (by omega), val_leN 2 _ (by rw [len_of]; omega), len_of]
  refine ⟨h1, b_ext ?_⟩
  rw [cutB_list, h1, frameB, ofB_list, hr, List.drop_append_of_le_length (by omega), List.drop_of_length_le (by omega), List.nil_append, List.take_append_of_le_length (by rw [len_of]; exact Nat.le_refl _), List.take_of_length_le (by rw [len_of]; exact Nat.le_refl _)]
theorem unframe_frame {p : ByteArray} (h : p.size ≤ 240) : unframe (frameB p) = some p := by
  obtain ⟨h1, h2⟩ := cut_frame h
  rw [unframe, if_pos ⟨size_frameB h, by rw [h1]; exact h, by rw [h2]⟩, h2]
theorem unframe_is {x p : ByteArray} (h : unframe x = some p) : x = frameB p ∧ p.size ≤ 240 := by
  unfold unframe at h
  split at h
  · rename_i hc
    obtain rfl := Option.some.inj h
    refine ⟨hc.2.2.symm, ?_⟩
    rw [cutB, ByteArray.size_extract]
    omega
  · cases h

/-! ### a root -/
def rootL (t : List UInt8) (n : Nat) : List UInt8 := sealL ([82, 84] ++ leN n 6 ++ leN t.length 1 ++ t) 56
def rootB (t : ByteArray) (n : Nat) : ByteArray := ofB (rootL t.data.toList n)
theorem length_rootL {t : List UInt8} (h : t.length ≤ 40) (n : Nat) : (rootL t n).length = 64 := length_sealL (by simp [length_leN]; omega)
theorem size_rootB {t : ByteArray} (h : t.size ≤ 40) (n : Nat) : (rootB t n).size = 64 := by
  rw [rootB, ofB_size, length_rootL (by rw [len_of]; exact h)]
/-- what a sector says of a root: its number, how many bytes, these -/
def rNum (x : ByteArray) : Nat := valN ((x.data.toList.drop 2).take 6)
def rLen (x : ByteArray) : Nat := valN ((x.data.toList.drop 8).take 1)
def rText (x : ByteArray) : ByteArray := x.extract 9 (9 + rLen x)
def isRoot (x : ByteArray) (i : Nat) : Bool := decide (1 ≤ rNum x) && decide (rNum x ≤ 1099511627776) && decide (rLen x ≤ 40) && decide (rNum x % 2 = i) && decide (rootB (rText x) (rNum x) = x)
theorem isRoot_is {x : ByteArray} {i : Nat} : isRoot x i = true ↔ 1 ≤ rNum x ∧ rNum x ≤ 1099511627776 ∧ rLen x ≤ 40 ∧ rNum x % 2 = i ∧ rootB (rText x) (rNum x) = x := by
  simp [isRoot, and_assoc]
theorem rText_list (x : ByteArray) : (rText x).data.toList = (x.data.toList.drop 9).take (rLen x) := by
  rw [rText, Lib.extract_data, Nat.add_sub_cancel_left]
theorem rText_size {x : ByteArray} (h : rLen x ≤ 40) : (rText x).size ≤ 40 := by
  rw [rText, ByteArray.size_extract]; omega
theorem root_says {t : ByteArray} (h : t.size ≤ 40) {n : Nat} (hn : n ≤ 1099511627776) : rNum (rootB t n) = n ∧ rLen (rootB t n) = t.size ∧ rText (rootB t n) = t := by
  obtain ⟨r, hr⟩ := sealL_eq ([82, 84] ++ leN n 6 ++ leN t.data.toList.length 1 ++ t.data.toList) 56
  have hT : t.data.toList.length = t.size := len_of t
  have h6 : (leN n 6).length = 6 := length_leN _ _
  have h1 : (leN t.data.toList.length 1).length = 1 := length_leN _ _
  have hv6 : valN (leN n 6) = n := val_leN 6 n (by omega)
  have hv1 : valN (leN t.data.toList.length 1) = t.size := by rw [val_leN 1 _ (by omega), hT]
  have e : (rootB t n).data.toList = [82, 84] ++ (leN n 6 ++ (leN t.data.toList.length 1 ++ (t.data.toList ++ r))) := by
    rw [rootB, ofB_list, rootL, hr]; simp
  generalize leN n 6 = A at *
  generalize leN t.data.toList.length 1 = C at *
  have d2 : (rootB t n).data.toList.drop 2 = A ++ (C ++ (t.data.toList ++ r)) := by rw [e]; rfl
  have d8 : (rootB t n).data.toList.drop 8 = C ++ (t.data.toList ++ r) := by
    rw [show 8 = 2 + 6 by rfl, ← List.drop_drop, d2, ← h6, List.drop_left]
  have d9 : (rootB t n).data.toList.drop 9 = t.data.toList ++ r := by
    rw [show 9 = 8 + 1 by rfl, ← List.drop_drop, d8, ← h1, List.drop_left]
  have e2 : rLen (rootB t n) = t.size := by rw [rLen, d8, ← h1, List.take_left, hv1]
  refine ⟨by rw [rNum, d2, ← h6, List.take_left, hv6], e2, b_ext ?_⟩
  rw [rText_list, e2, d9, ← hT, List.take_left]
theorem root_is {t : ByteArray} (h : t.size ≤ 40) {n : Nat} (h1 : 1 ≤ n) (hn : n ≤ 1099511627776) : isRoot (rootB t n) (n % 2) = true := by
  obtain ⟨a, b, c⟩ := root_says h hn
  rw [isRoot_is, a, b, c]
  exact ⟨h1, hn, h, rfl, rfl⟩
theorem no_root {i : Nat} : isRoot ⟨(List.replicate 64 (0 : UInt8)).toArray⟩ i = false := by
  rw [Bool.eq_false_iff]
  intro h
  have := (isRoot_is.1 h).1
  exact absurd this (by decide)
end Go.Proofs.YtknfakaklmpboaaGreatDoor

