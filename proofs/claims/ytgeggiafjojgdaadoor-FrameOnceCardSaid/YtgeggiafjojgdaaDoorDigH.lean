/-
  The reference: its word.
-/
import Derived.Test.YtgeggiafjojgdaaDoorDigG
namespace Go.Proofs.YtgeggiafjojgdaaDoor.DG
open Go.RowKit Go

theorem wrap_small {n : Nat} (h : n < 18446744073709551616) : IntKind.u64.wrap (n : Int) = (n : Int) := by
  show (n : Int) % 18446744073709551616 = _
  omega

set_option maxRecDepth 100000 in
theorem rword_any (s : ByteArray) (hs : s.size = 8) (w : World) :
    Calls Tryd.prog 33 #[.string s] w fun e w' => e = .returned (.int .u64 (word s.data.toList).toNat) ∧ w = w' := by
  have hl : s.data.toList.length = 8 := by simpa using hs
  rw [word_toNat (by omega)]
  go_enter Tryd.func33, Tryd.ntmps33
  go_wp2
  go_loop [3, 4] (fun a i => ∃ k : Nat, k ≤ 8 ∧ i = .int .i64 ((k : Int) - 1) ∧ a = .int .u64 (num (s.data.toList.drop k))) (fun _ i => ((intOf i) + 1).toNat)
  case atStart => exact ⟨8, Nat.le_refl _, rfl, by rw [List.drop_of_length_le (by omega)]; rfl⟩
  case round =>
    obtain ⟨k, hk, rfl, rfl⟩ := hrel
    cases k with
    | zero =>
      have e0 : ((0 : Nat) : Int) - 1 = -1 := rfl
      rw [e0, List.drop_zero]
      go_wp2
      go_ret
      exact ⟨rfl, rfl⟩
    | succ j =>
      have hj : j < s.data.toList.length := by omega
      have e0 : ((j + 1 : Nat) : Int) - 1 = (j : Int) := by omega
      rw [e0]
      have hlt : (j : Int) < (s.size : Int) := by omega
      have hlt' : j < s.size := by omega
      have hN : num (s.data.toList.drop j) = (s[j]).toNat + 256 * num (s.data.toList.drop (j + 1)) := by
        rw [List.drop_eq_getElem_cons hj]; rfl
      have hb : num (s.data.toList.drop j) < 18446744073709551616 := num_lt64 (by rw [List.length_drop]; omega)
      generalize num (s.data.toList.drop (j + 1)) = N at hN ⊢
      generalize hM : num (s.data.toList.drop j) = M at hN hb
      have hx := u64_of_u8 s[j]
      generalize hX : s[j] = X at hN hx
      have e1 : IntKind.u64.wrap (256 * (N : Int)) = ((256 * N : Nat) : Int) := by
        rw [show (256 * (N : Int)) = ((256 * N : Nat) : Int) by omega]; exact wrap_small (by omega)
      have e2 : IntKind.u64.wrap (((256 * N : Nat) : Int) + (X.toNat : Int)) = (M : Int) := by
        rw [show (((256 * N : Nat) : Int) + (X.toNat : Int)) = ((M : Nat) : Int) by omega]; exact wrap_small hb
      have e3 : (256 * (N : Int)) % 18446744073709551616 = ((256 * N : Nat) : Int) := e1
      generalize 256 * N = L at e1 e2 e3
      have HM := Lib.hid hM
      clear hM hN hb
      go_wp2
      go_round
      case rel => exact ⟨j, by omega, by go_num, by rw [HM.out]⟩
      case measure => simp [intOf]
end Go.Proofs.YtgeggiafjojgdaaDoor.DG

