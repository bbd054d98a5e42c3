/-
  Words of bytes, and a word's bytes.
-/
import Derived.Test.YtgeggiafjojgdaaDoorDigA
namespace Go.Proofs.YtgeggiafjojgdaaDoor.DG
open Go.RowKit Go

theorem num_lt (l : List UInt8) : num l < 256 ^ l.length := by
  induction l with
  | nil => simp [num]
  | cons x l ih =>
    have := x.toNat_lt
    simp only [num, List.length_cons, Nat.pow_succ]
    omega
theorem num_lt64 {l : List UInt8} (h : l.length ≤ 8) : num l < 18446744073709551616 :=
  Nat.lt_of_lt_of_le (num_lt l) (Nat.pow_le_pow_right (by decide) h)
theorem num_append (l m : List UInt8) : num (l ++ m) = num l + 256 ^ l.length * num m := by
  induction l with
  | nil => simp [num]
  | cons x l ih =>
    simp only [List.cons_append, num, ih, List.length_cons, Nat.pow_succ, Nat.mul_add, Nat.mul_comm (256 ^ l.length) 256, Nat.mul_assoc]
    omega
theorem word_toNat {l : List UInt8} (h : l.length ≤ 8) : (word l).toNat = num l := ofNat64 _ (num_lt64 h)
theorem pow256 (k : Nat) : 256 ^ k = 2 ^ (8 * k) := by rw [Nat.pow_mul]
/-- one byte more, put on top -/
theorem num_or (l : List UInt8) (x : UInt8) (_h : l.length < 8) : num l ||| (x.toNat * 2 ^ (8 * l.length)) = num (l ++ [x]) := by
  have hl := num_lt l
  rw [pow256] at hl
  rw [Nat.or_comm, nat_join (8 * l.length) _ _ (by simp) hl, num_append, pow256]
  simp only [num]
  rw [Nat.mul_zero, Nat.add_zero, Nat.mul_comm x.toNat]; omega
theorem shl_lt (x : UInt8) (k : Nat) (h : k < 8) : x.toNat * 2 ^ (8 * k) < 18446744073709551616 := by
  have := x.toNat_lt
  have h2 : 2 ^ (8 * k) ≤ 2 ^ 56 := Nat.pow_le_pow_right (by decide) (by omega)
  calc x.toNat * 2 ^ (8 * k) ≤ 255 * 2 ^ 56 := Nat.mul_le_mul (by omega) h2
    _ < _ := by decide
theorem or_step (l : List UInt8) (x : UInt8) (h : l.length < 8) :
    bits .or .u64 (num l : Int) (((x.toNat : Int) * 2 ^ (8 * l.length)) % 18446744073709551616) = (num (l ++ [x]) : Int) := by
  have e : ((x.toNat : Int) * 2 ^ (8 * l.length)) % 18446744073709551616 = ((x.toNat * 2 ^ (8 * l.length) : Nat) : Int) := by
    have := shl_lt x l.length h
    rw [Int.natCast_mul, Int.natCast_pow]
    rw [Int.emod_eq_of_lt]
    · rfl
    · exact Int.mul_nonneg (Int.natCast_nonneg _) (Int.pow_nonneg (by decide))
    · have := Int.ofNat_lt.2 this
      rwa [Int.natCast_mul, Int.natCast_pow] at this
  rw [e, u64_or_nat _ _ (num_lt64 (by omega)) (shl_lt x l.length h), num_or l x h]

theorem u64_of_u8 (x : UInt8) : IntKind.u64.wrap (x.toNat : Int) = (x.toNat : Int) := by
  have := x.toNat_lt
  show (x.toNat : Int) % 18446744073709551616 = _
  omega

set_option maxRecDepth 100000 in
theorem word_any (s : ByteArray) (hs : s.size ≤ 8) (w : World) :
    Calls Tryd.prog 46 #[.string s] w fun e w' => e = .returned (.int .u64 (word s.data.toList).toNat) ∧ w = w' := by
  rw [word_toNat (by simpa using hs)]
  go_enter Tryd.func46, Tryd.ntmps46
  go_wp2
  go_loop [3, 7] (fun a i => ∃ k : Nat, k ≤ s.size ∧ i = .int .i64 k ∧ a = .int .u64 (num (s.data.toList.take k))) (fun _ i => s.size - (intOf i).toNat)
  case atStart => exact ⟨0, Nat.zero_le _, rfl, rfl⟩
  case round =>
    obtain ⟨k, hk, rfl, rfl⟩ := hrel
    by_cases hlt : k < s.size
    · have hl : k < s.data.toList.length := by simpa using hlt
      have e := or_step (s.data.toList.take k) s[k] (by rw [List.length_take]; omega)
      rw [show (s.data.toList.take k).length = k by rw [List.length_take]; omega] at e
      have HN := Lib.hid (show s.data.toList.take (k + 1) = s.data.toList.take k ++ [s[k]] by
        rw [List.take_succ_eq_append_getElem hl]; rfl)
      have e' : bits .or .u64 (num (s.data.toList.take k) : Int) (IntKind.u64.wrap ((s[k].toNat : Int) * 2 ^ (8 * k))) = (num (s.data.toList.take k ++ [s[k]]) : Int) := e
      have hc : IntKind.u64.wrap (s[k].toNat : Int) = (s[k].toNat : Int) := u64_of_u8 _
      go_wp2
      go_round
      case rel => exact ⟨k + 1, by omega, by go_num, by rw [HN.out]⟩
      case measure => simp [intOf]; omega
    · obtain rfl : k = s.size := by omega
      have HN := Lib.hid (show s.data.toList.take s.size = s.data.toList by rw [List.take_of_length_le]; simp)
      go_wp2
      go_ret
      exact ⟨ret_int (by rw [HN.out]), rfl⟩

/-- the cells of a word's first k bytes, noughts behind them -/
def tcells (x : UInt64) (k : Nat) : Array Value := ⟨((text x).take k ++ List.replicate (8 - k) 0).map fun b : UInt8 => .int .u8 (b.toNat : Int)⟩
theorem tcells_succ (x : UInt64) (k : Nat) (h : k < 8) : (tcells x k).setIfInBounds k (.int .u8 (((x >>> UInt64.ofNat (8 * k)).toUInt8).toNat : Int)) = tcells x (k + 1) := by
  match k, h with
  | 0, _ => rfl
  | 1, _ => rfl
  | 2, _ => rfl
  | 3, _ => rfl
  | 4, _ => rfl
  | 5, _ => rfl
  | 6, _ => rfl
  | 7, _ => rfl
  | n + 8, h => omega
theorem byte_spell (x : UInt64) (k : Nat) (h : k < 8) : IntKind.u8.wrap ((x.toNat : Int) / 2 ^ (8 * k)) = (((x >>> UInt64.ofNat (8 * k)).toUInt8).toNat : Int) := by
  rw [shr_spell x (8 * k) (by omega)]
  generalize x >>> UInt64.ofNat (8 * k) = y
  show (y.toNat : Int) % 256 = _
  rw [UInt64.toNat_toUInt8]
  rfl

set_option maxRecDepth 100000 in
theorem text_any (x : UInt64) (w : World) :
    Calls Tryd.prog 49 #[.int .u64 x.toNat] w fun e w' => e = .returned (.string (bs (text x))) ∧ Below w.heap.size w w' := by
  have hconv : (convert 33 9 (.slice (some ⟨w.heap.size, 0, none⟩) (text x).length 8)).run Tryd.prog (w.alloc (.cells (tcells x 8) 87)) = .ok (.string (bs (text x))) (w.alloc (.cells (tcells x 8) 87)) :=
    run_convert_bytes_back _ 33 9 5 ⟨w.heap.size, 0, none⟩ 8 (text x) Tryd.underlying33 Tryd.underlying5 Tryd.underlying9 (fun j hj => by
      rw [Addr.add_lit, Nat.zero_add, World.cell?_alloc_at _ _ _ _ rfl]
      have hj8 : j < 8 := by rw [text_length] at hj; exact hj
      simp only [tcells, List.getElem?_toArray, List.getElem?_map]
      rw [List.take_of_length_le (by rw [text_length]; exact Nat.le_refl _), List.getElem?_append_left hj, List.getElem?_eq_getElem hj]
      rfl)
  rw [text_length] at hconv
  have h0 : tcells x 0 = #[.int .u8 0, .int .u8 0, .int .u8 0, .int .u8 0, .int .u8 0, .int .u8 0, .int .u8 0, .int .u8 0] := rfl
  go_enter Tryd.func49, Tryd.ntmps49
  go_wp2
  go_loopw [5] (fun i wr => ∃ k : Nat, k ≤ 8 ∧ i = .int .i64 k ∧ wr = w.alloc (.cells (tcells x k) 87)) (fun i _ => 8 - (intOf i).toNat)
  case atStart => exact ⟨0, Nat.zero_le _, rfl, by rw [h0]⟩
  case round =>
    obtain ⟨k, hk, rfl, rfl⟩ := hrel
    by_cases hlt : k < 8
    · have e1 := byte_spell x k hlt
      have e2 := tcells_succ x k hlt
      have hz : (tcells x k).size = 8 := by simp [tcells, text_length]; omega
      generalize (x >>> UInt64.ofNat (8 * k)).toUInt8 = y at e1 e2
      go_wp2
      go_roundw
      case rel => exact ⟨k + 1, by omega, by go_num, rfl⟩
      case measure => simp [intOf]; omega
    · obtain rfl : k = 8 := by omega
      go_wp2
      go_ret
      exact ⟨rfl, (Below.refl _ w).alloc (Nat.le_refl _) _⟩
end Go.Proofs.YtgeggiafjojgdaaDoor.DG

