/-
  A log's bytes: numbers in so many bytes, sector 0, records one behind the other; read back.
-/
import Derived.Test.YtmbknpipefbelaaDskMath
namespace Go.Proofs.Ytmbknpipefbelaa
open Go

/-- a number in so many bytes, the lowest first -/
def leN : Nat → Nat → List UInt8
  | _, 0 => []
  | n, k + 1 => UInt8.ofNat (n % 256) :: leN (n / 256) k
def valN : List UInt8 → Nat
  | [] => 0
  | b :: r => b.toNat + 256 * valN r
theorem length_leN : ∀ (n k : Nat), (leN n k).length = k
  | _, 0 => rfl
  | n, k + 1 => by rw [leN, List.length_cons, length_leN]
theorem val_leN : ∀ (k n : Nat), n < 256 ^ k → valN (leN n k) = n
  | 0, n, h => by simp at h; simp [leN, valN, h]
  | k + 1, n, h => by
    have h1 : n / 256 < 256 ^ k := by
      rw [Nat.pow_succ] at h
      exact Nat.div_lt_of_lt_mul (by rw [Nat.mul_comm]; exact h)
    rw [leN, valN, val_leN k _ h1]
    have : (UInt8.ofNat (n % 256)).toNat = n % 256 := by simp
    rw [this]
    omega
theorem valN_lt : ∀ l : List UInt8, valN l < 256 ^ l.length
  | [] => by simp [valN]
  | b :: r => by
    have h1 := valN_lt r
    have h2 := b.toNat_lt
    rw [valN, List.length_cons, Nat.pow_succ]
    omega
theorem leN_val : ∀ l : List UInt8, leN (valN l) l.length = l
  | [] => rfl
  | b :: r => by
    have h2 := b.toNat_lt
    rw [valN, List.length_cons, leN, show (b.toNat + 256 * valN r) / 256 = valN r by omega, leN_val r, show (b.toNat + 256 * valN r) % 256 = b.toNat by omega]
    simp
theorem leN_inj {n m k : Nat} (hn : n < 256 ^ k) (hm : m < 256 ^ k) (h : leN n k = leN m k) : n = m := by
  rw [← val_leN k n hn, h, val_leN k m hm]
theorem leN_snoc : ∀ (k n : Nat), leN n (k + 1) = leN n k ++ [UInt8.ofNat (n / 256 ^ k % 256)]
  | 0, n => by simp [leN]
  | k + 1, n => by
    rw [leN, leN_snoc k (n / 256), leN, List.cons_append, Nat.div_div_eq_div_mul, Nat.pow_succ, Nat.mul_comm 256]

/-- sector 0 -/
def headL (gen used : Nat) : List UInt8 := [78, 86] ++ leN gen 6 ++ leN used 4 ++ List.replicate 52 0
def headB (gen used : Nat) : ByteArray := ⟨(headL gen used).toArray⟩
theorem length_headL (gen used : Nat) : (headL gen used).length = 64 := by simp [headL, length_leN]
theorem size_headB (gen used : Nat) : (headB gen used).size = 64 := by
  show (headL gen used).toArray.size = 64
  rw [List.size_toArray, length_headL]
theorem head_gen {gen : Nat} (used : Nat) (h : gen < 281474976710656) : valN (((headL gen used).drop 2).take 6) = gen := by
  have e : ((headL gen used).drop 2).take 6 = leN gen 6 := by
    simp only [headL, List.append_assoc, List.cons_append, List.nil_append, List.drop_succ_cons, List.drop_zero]
    rw [List.take_append_of_le_length (by rw [length_leN]; omega), List.take_of_length_le (by rw [length_leN]; omega)]
  rw [e, val_leN 6 gen (by omega)]
theorem head_used (gen : Nat) {used : Nat} (h : used < 4294967296) : valN (((headL gen used).drop 8).take 4) = used := by
  have e : ((headL gen used).drop 8).take 4 = leN used 4 := by
    have h1 : headL gen used = ([78, 86] ++ leN gen 6) ++ (leN used 4 ++ List.replicate 52 0) := by simp [headL]
    have h2 : ([78, 86] ++ leN gen 6).length = 8 := by simp [length_leN]
    rw [h1, List.drop_append_of_le_length (by omega), List.drop_of_length_le (by omega), List.nil_append, List.take_append_of_le_length (by rw [length_leN]; omega), List.take_of_length_le (by rw [length_leN]; omega)]
  rw [e, val_leN 4 used (by omega)]
theorem head_inj {g u g' u' : Nat} (h1 : g < 281474976710656) (h2 : u < 4294967296) (h3 : g' < 281474976710656) (h4 : u' < 4294967296) (h : headB g u = headB g' u') : g = g' ∧ u = u' := by
  have e : headL g u = headL g' u' := by
    have := congrArg (fun b : ByteArray => b.data.toList) h
    simpa [headB] using this
  exact ⟨by rw [← head_gen u h1, e, head_gen u' h3], by rw [← head_used g h2, e, head_used g' h4]⟩

/-- records, one behind the other -/
def recB (l : List ByteArray) : List UInt8 := l.flatMap fun r => leN r.size 2 ++ r.data.toList
theorem recB_nil : recB [] = [] := rfl
theorem recB_cons (r : ByteArray) (l : List ByteArray) : recB (r :: l) = leN r.size 2 ++ (r.data.toList ++ recB l) := by simp [recB]
theorem recB_append (a b : List ByteArray) : recB (a ++ b) = recB a ++ recB b := by simp [recB]
theorem length_recB_snoc (l : List ByteArray) (r : ByteArray) : (recB (l ++ [r])).length = (recB l).length + 2 + r.size := by
  rw [recB_append, List.length_append, recB_cons, recB_nil, List.append_nil, List.length_append, length_leN, len_of]
  omega
/-- what bytes are whole records; none: they are not -/
def readRecs : Nat → List UInt8 → Option (List ByteArray)
  | 0, _ => none
  | f + 1, l => if l.length = 0 then some [] else if l.length < 2 ∨ 1300 < valN (l.take 2) ∨ l.length - 2 < valN (l.take 2) then none else (readRecs f (l.drop (2 + valN (l.take 2)))).map fun r => ⟨((l.drop 2).take (valN (l.take 2))).toArray⟩ :: r
theorem read_recB : ∀ (l : List ByteArray) (f : Nat), l.length < f → (∀ r ∈ l, r.size ≤ 1300) → readRecs f (recB l) = some l
  | [], f + 1, _, _ => by simp [readRecs, recB]
  | _, 0, h, _ => by omega
  | r :: l, f + 1, h, hs => by
    have h1 := hs r (by simp)
    have ih := read_recB l f (by simp at h; omega) (fun x hx => hs x (by simp [hx]))
    have hl : (recB (r :: l)).length = 2 + (r.size + (recB l).length) := by rw [recB_cons, List.length_append, List.length_append, length_leN, len_of]
    have ht : (recB (r :: l)).take 2 = leN r.size 2 := by rw [recB_cons, List.take_append_of_le_length (by rw [length_leN]; omega), List.take_of_length_le (by rw [length_leN]; omega)]
    have hv : valN ((recB (r :: l)).take 2) = r.size := by rw [ht, val_leN 2 _ (by omega)]
    have hd : (recB (r :: l)).drop 2 = r.data.toList ++ recB l := by rw [recB_cons, List.drop_append_of_le_length (by rw [length_leN]; omega), List.drop_of_length_le (by rw [length_leN]; omega), List.nil_append]
    have hd2 : (recB (r :: l)).drop (2 + r.size) = recB l := by rw [← List.drop_drop, hd, List.drop_append_of_le_length (by rw [len_of]; omega), List.drop_of_length_le (by rw [len_of]; omega), List.nil_append]
    rw [readRecs, hv, hd, hd2, ih, if_neg (by omega), if_neg (by omega), List.take_append_of_le_length (by rw [len_of]; omega), List.take_of_length_le (by rw [len_of]; omega)]
    simp
/-- and the other way: what was read are those bytes -/
theorem recB_read : ∀ (f : Nat) (b : List UInt8) (l : List ByteArray), readRecs f b = some l → recB l = b ∧ ∀ r ∈ l, r.size ≤ 1300
  | 0, b, l, h => by simp [readRecs] at h
  | f + 1, b, l, h => by
    rw [readRecs] at h
    split at h
    · rename_i h0
      obtain rfl : [] = l := Option.some.inj h
      exact ⟨(List.eq_nil_of_length_eq_zero h0).symm, by simp⟩
    · split at h
      · cases h
      · rename_i h0 h1
        obtain ⟨r, hr, rfl⟩ := Option.map_eq_some_iff.1 h
        obtain ⟨e, hs⟩ := recB_read f _ r hr
        have h2 : (b.take 2).length = 2 := by simp; omega
        have hsz : (⟨((b.drop 2).take (valN (b.take 2))).toArray⟩ : ByteArray).size = valN (b.take 2) := by
          show ((b.drop 2).take (valN (b.take 2))).toArray.size = _
          simp; omega
        refine ⟨?_, fun x hx => ?_⟩
        · rw [recB_cons, hsz, e]
          have := leN_val (b.take 2)
          rw [h2] at this
          rw [this]
          show b.take 2 ++ (((b.drop 2).take (valN (b.take 2))).toArray.toList ++ _) = b
          rw [← List.drop_drop, List.toList_toArray, List.take_append_drop, List.take_append_drop]
        · rcases List.mem_cons.1 hx with rfl | hx
          · rw [hsz]; omega
          · exact hs x hx
end Go.Proofs.Ytmbknpipefbelaa
