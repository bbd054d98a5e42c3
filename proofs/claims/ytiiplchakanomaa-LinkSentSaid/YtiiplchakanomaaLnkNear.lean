/-
  Whether a text is another one but for one byte at most.
-/
import Derived.Test.YtiiplchakanomaaLnkMath
import Derived.Test.YtiiplchakanomaaKitM
import Derived.Deep.QuietTactic
import Derived.BigQuiet
import Derived.RegionTactic
import Derived.BigRegion
namespace Go.Proofs.Ytiiplchakanomaa
open Go.RowKit Go

/-- how many bytes differ -/
def diffs : List UInt8 → List UInt8 → Nat
  | x :: a, y :: b => (if x = y then 0 else 1) + diffs a b
  | _, _ => 0
theorem diffs_self : ∀ a, diffs a a = 0
  | [] => rfl
  | x :: a => by rw [diffs, if_pos rfl, diffs_self a]
theorem diffs_snoc : ∀ (a b : List UInt8) (x y : UInt8), a.length = b.length → diffs (a ++ [x]) (b ++ [y]) = diffs a b + (if x = y then 0 else 1)
  | [], [], x, y, _ => by simp [diffs]
  | u :: a, v :: b, x, y, h => by
    rw [List.cons_append, List.cons_append, diffs, diffs, diffs_snoc a b x y (by simpa using h), Nat.add_assoc]
  | [], v :: b, _, _, h => by simp at h
  | u :: a, [], _, _, h => by simp at h
theorem diffs_le : ∀ (a b : List UInt8), diffs a b ≤ a.length
  | [], _ => by simp [diffs]
  | x :: a, [] => by simp [diffs]
  | x :: a, y :: b => by
    have := diffs_le a b
    rw [diffs, List.length_cons]
    split <;> omega
theorem diffs_set : ∀ (a : List UInt8) (k : Nat) (v : UInt8), diffs (a.set k v) a ≤ 1
  | [], _, _ => by simp [diffs]
  | x :: a, 0, v => by
    rw [List.set_cons_zero, diffs, diffs_self]
    split <;> omega
  | x :: a, k + 1, v => by
    rw [List.set_cons_succ, diffs, if_pos rfl, Nat.zero_add]
    exact diffs_set a k v
def nearB (a b : ByteArray) : Bool := decide (a.size = b.size ∧ diffs a.data.toList b.data.toList ≤ 1)
theorem near_self (a : ByteArray) : nearB a a = true := by simp [nearB, diffs_self]
theorem near_turn (s : ByteArray) (n : Int) (m : UInt8) : nearB (turnB s n m) s = true := by
  unfold nearB
  rw [decide_eq_true_eq]
  refine ⟨turnB_size s n m, ?_⟩
  unfold turnB
  split
  · rw [diffs_self]; omega
  · rw [List.toList_toArray]
    exact diffs_set _ _ _
theorem near_size {a b : ByteArray} (h : nearB a b = true) : a.size = b.size := by
  unfold nearB at h
  rw [decide_eq_true_eq] at h
  exact h.1
set_option maxRecDepth 100000 in
set_option maxHeartbeats 2000000 in
theorem near_any (a b : ByteArray) (ha : a.size ≤ 140737488351232) (w : World) :
    Calls Try.prog 17 #[.string a, .string b] w fun e w' => e = .returned (.bool (nearB a b)) ∧ Below w.heap.size w w' := by
  obtain ⟨N, hN⟩ : ∃ N, nearB a b = N := ⟨_, rfl⟩
  rw [hN]
  by_cases hs : a.size = b.size
  · have HN := Lib.hid (show N = decide (diffs a.data.toList b.data.toList ≤ 1) by rw [← hN]; unfold nearB; simp [hs])
    obtain ⟨S, hS⟩ : ∃ S, a.size = S := ⟨_, rfl⟩
    have hbS : b.size = S := by omega
    have hne : ((S : Int) != (S : Int)) = false := by simp
    have hla : a.data.toList.length = S := by rw [← hS]; simp
    have hlb : b.data.toList.length = S := by rw [← hbS]; simp
    have HA := Lib.hid hla
    have HB := Lib.hid hlb
    have HSZ := Lib.hid (show S ≤ 140737488351232 by omega)
    have HSA := Lib.hid hS
    have HSB := Lib.hid hbS
    rw [← hbS] at hS
    clear hN hs hla hlb ha
    have ea : (a.size : Int) = (S : Int) := by rw [hS, hbS]
    have eb : (b.size : Int) = (S : Int) := by rw [hbS]
    clear hS hbS
    go_enter Try.func17, Try.ntmps17
    go_wp2
    go_loopw [5, 6] (fun n i wr => ∃ j : Nat, j ≤ S ∧ i = .int .i64 j ∧ n = .int .i64 (diffs (a.data.toList.take j) (b.data.toList.take j) : Nat) ∧ Below w.heap.size w wr) (fun _ i _ => S - (intOf i).toNat)
    case atStart => exact ⟨0, Nat.zero_le _, rfl, rfl, Below.refl _ _⟩
    case round =>
      obtain ⟨j, hj, rfl, rfl, hB⟩ := hrel
      have HBl := Lib.hid hB
      by_cases hlt : j < S
      · have hji : (j : Int) < (S : Int) := by omega
        have hja : (j : Int) < (a.size : Int) := by omega
        have hjb : (j : Int) < (b.size : Int) := by omega
        have hla : j < a.data.toList.length := by rw [HA.out]; exact hlt
        have hlb : j < b.data.toList.length := by rw [HB.out]; exact hlt
        have hdl : diffs (a.data.toList.take j) (b.data.toList.take j) ≤ j := by
          have := diffs_le (a.data.toList.take j) (b.data.toList.take j)
          rw [List.length_take] at this
          omega
        have hsn := diffs_snoc (a.data.toList.take j) (b.data.toList.take j) a.data.toList[j] b.data.toList[j] (by rw [List.length_take, List.length_take]; omega)
        rw [← List.take_succ_eq_append_getElem hla, ← List.take_succ_eq_append_getElem hlb] at hsn
        have HSN := Lib.hid hsn
        have hja2 : j < a.size := by have := HSA.out; omega
        have hjb2 : j < b.size := by have := HSB.out; omega
        have hxa : a.data.toList[j] = a[j]'hja2 := rfl
        have hxb : b.data.toList[j] = b[j]'hjb2 := rfl
        obtain ⟨X, hX⟩ : ∃ X, a[j]'hja2 = X := ⟨_, rfl⟩
        obtain ⟨Y, hY⟩ : ∃ Y, b[j]'hjb2 = Y := ⟨_, rfl⟩
        obtain ⟨D, hD⟩ : ∃ D, diffs (a.data.toList.take j) (b.data.toList.take j) = D := ⟨_, rfl⟩
        rw [hD] at hdl HSN ⊢
        rw [hxa, hxb, hX, hY] at HSN
        have hwj := wrap_up hlt (by have := HSZ.out; omega)
        have hwD := wrap_up (t := D) (n := 9223372036854775807) (by have := HSZ.out; clear hwj; omega) (Nat.le_refl _)
        have HJ := Lib.hid hlt
        clear hsn hxa hxb hD hdl hla hlb hB
        by_cases hxy : X = Y
        · subst hxy
          have HSM := Lib.hid (show diffs (a.data.toList.take (j + 1)) (b.data.toList.take (j + 1)) = D by rw [HSN.out, if_pos rfl]; rfl)
          have hz : ((X.toNat : Int) != (X.toNat : Int)) = false := by simp
          clear hwD
          go_wp2_with fail
          go_quiet (fail)
          go_wp2
          go_roundw
          case rel => exact ⟨j + 1, HJ.out, (by first | exact num_up hwj | rfl), by rw [HSM.out], below_drewN HBl.out _⟩
          case measure => first | exact meas_v HJ.out hwj rfl rfl | exact meas_u HJ.out rfl rfl
        · have HSN := Lib.hid (show diffs (a.data.toList.take (j + 1)) (b.data.toList.take (j + 1)) = D + 1 by rw [HSN.out, if_neg hxy])
          have hz : ((X.toNat : Int) != (Y.toNat : Int)) = true := bne_iff_ne.2 (fun e => hxy (by
            apply UInt8.toNat_inj.1
            exact Int.ofNat_inj.1 e))
          clear hxy
          go_wp2_with fail
          go_quiet (fail)
          go_wp2
          go_roundw
          case rel => exact ⟨j + 1, HJ.out, (by first | exact num_up hwj | rfl), by rw [HSN.out]; first | exact num_up hwD | rfl, below_drewN HBl.out _⟩
          case measure => first | exact meas_v HJ.out hwj rfl rfl | exact meas_u HJ.out rfl rfl
      · have hjS : j = S := by omega
        have hji : ¬ (j : Int) < (S : Int) := by omega
        have e1 : a.data.toList.take j = a.data.toList := by rw [hjS, ← HA.out, List.take_length]
        have e2 : b.data.toList.take j = b.data.toList := by rw [hjS, ← HB.out, List.take_length]
        rw [e1, e2]
        obtain ⟨D, hD⟩ : ∃ D, diffs a.data.toList b.data.toList = D := ⟨_, rfl⟩
        rw [hD]
        rw [hD] at HN
        by_cases h1 : D ≤ 1
        · have HR := Lib.hid (show N = true by rw [HN.out]; simp [h1])
          have hDi : (D : Int) ≤ 1 := by omega
          clear hjS e1 e2 hD hB
          go_wp2
          go_ret
          exact ⟨by rw [HR.out]; rfl, HBl.out⟩
        · have HR := Lib.hid (show N = false by rw [HN.out]; simp [h1])
          have hDi : ¬ (D : Int) ≤ 1 := by omega
          clear hjS e1 e2 hD hB
          go_wp2
          go_ret
          exact ⟨by rw [HR.out]; rfl, HBl.out⟩
  · have HN := Lib.hid (show N = false by rw [← hN]; unfold nearB; simp [hs])
    have hne : ((a.size : Int) != (b.size : Int)) = true := bne_iff_ne.2 (by omega)
    clear hN hs
    go_enter Try.func17, Try.ntmps17
    go_wp2
    go_ret
    exact ⟨by rw [HN.out]; rfl, Below.refl _ _⟩
end Go.Proofs.Ytiiplchakanomaa

