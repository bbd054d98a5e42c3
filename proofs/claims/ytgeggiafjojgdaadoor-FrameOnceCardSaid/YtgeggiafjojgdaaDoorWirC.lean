/-
  first: the number at a text's beginning.
-/
import Derived.Test.YtgeggiafjojgdaaDoorWirB
import Derived.Test.YtgeggiafjojgdaaDoorWirMath
import Derived.Lib.Strings
import Derived.BigQuiet
import Derived.Deep.QuietTactic
import Derived.BigRegion
namespace Go.Proofs.YtgeggiafjojgdaaDoor
open Go.RowKit Go

def firstV : Res → Value
  | .fin => .tuple #[.int .i64 0, .int .i64 0, flt 32]
  | .form => .tuple #[.int .i64 0, .int .i64 0, flt 30]
  | .num n z => .tuple #[.int .i64 n, .int .i64 z, .nilIface]

theorem shl7 (x : UInt8) (k : Nat) (hk : k ≤ 8) : IntKind.i64.wrap (((x.toNat : Int) % 128) * 2 ^ (7 * k)) = ((x.toNat % 128 * 128 ^ k : Nat) : Int) := by
  have h1 := pow7_le k hk
  have h2 : x.toNat % 128 * 128 ^ k ≤ 127 * 72057594037927936 := Nat.mul_le_mul (by omega) h1
  have e : ((x.toNat : Int) % 128) * 2 ^ (7 * k) = ((x.toNat % 128 * 128 ^ k : Nat) : Int) := by
    rw [pow7, Int.natCast_mul, Int.natCast_emod, Int.natCast_pow]; rfl
  rw [e]
  exact wrap64 _ (by omega) (by omega)

set_option maxRecDepth 100000 in
set_option maxHeartbeats 2000000 in
theorem first_any (s : ByteArray) (hs : s.size ≤ 281474976710656) (w : World) :
    Calls Tryd.prog 50 #[.string s] w fun e w' => e = .returned (firstV (scan s.data.toList)) ∧ Below w.heap.size w w' := by
  go_enter Tryd.func50, Tryd.ntmps50
  go_wp2
  go_loopw [2, 8] (fun n i wr => ∃ k m : Nat, k ≤ s.size ∧ k ≤ 9 ∧ i = .int .i64 k ∧ n = .int .i64 m ∧ m < 128 ^ k ∧ scan s.data.toList = scanAt k m (s.data.toList.drop k) ∧ Below w.heap.size w wr) (fun _ i _ => s.size - (intOf i).toNat)
  case atStart => exact ⟨0, 0, Nat.zero_le _, by omega, rfl, rfl, by decide, rfl, Below.refl _ _⟩
  case round =>
    obtain ⟨k, m, hk, hk9, rfl, rfl, hm, hsc, hB⟩ := hrel
    have HS := Lib.hid hsc
    have HB := Lib.hid hB
    clear hsc hB
    by_cases hlt : k < s.size
    · have hl : k < s.data.toList.length := by simpa using hlt
      have hd : s.data.toList.drop k = s[k] :: s.data.toList.drop (k + 1) := List.drop_eq_getElem_cons hl
      have HD := Lib.hid hd
      have hlt' : (k : Int) < (s.size : Int) := by omega
      clear hd
      have hc := Lib.hid (show scanAt k m (s.data.toList.drop k) = if k = 9 ∨ k > 0 ∧ s[k] = 0 then .form else if s[k].toNat < 128 then .num (m + s[k].toNat * 128 ^ k) (k + 1) else scanAt (k + 1) (m + (s[k].toNat % 128) * 128 ^ k) (s.data.toList.drop (k + 1)) by rw [HD.out]; rfl)
      by_cases h9 : k = 9
      · have HF := Lib.hid (show firstV (scan s.data.toList) = firstV .form by rw [HS.out, hc.out, if_pos (Or.inl h9)])
        have e9 : ((k : Int) == 9) = true := by simp; omega
        clear hc HD
        go_wp2
        go_ret3
        exact ⟨by rw [HF.out]; rfl, HB.out⟩
      · have e9 : ((k : Int) == 9) = false := by simp; omega
        have hk8 : k ≤ 8 := by omega
        have hg : k > 0 ∧ s[k] = 0 ∨ ¬ (k > 0 ∧ s[k] = 0) := Classical.em _
        rcases hg with hg | hg
        · have HF := Lib.hid (show firstV (scan s.data.toList) = firstV .form by rw [HS.out, hc.out, if_pos (Or.inr hg)])
          have k0 : (0 : Int) < (k : Int) := by omega
          have x0 : ((s[k].toNat : Int) == 0) = true := by rw [hg.2]; rfl
          clear hc HD hg h9
          go_wp2
          go_ret3
          exact ⟨by rw [HF.out]; rfl, HB.out⟩
        · have hn : ¬ (k = 9 ∨ k > 0 ∧ s[k] = 0) := fun h => h.elim h9 hg
          have hc2 := hc.out
          rw [if_neg hn] at hc2
          have HC := Lib.hid hc2
          have hsh := shl7 s[k] k hk8
          obtain ⟨q, hq⟩ : ∃ q, m + s[k].toNat % 128 * 128 ^ k = q := ⟨_, rfl⟩
          have hdi : bits .or .i64 (m : Int) ((s[k].toNat : Int) % 128 * 128 ^ k) = (q : Int) := by
            rw [← hq, ← digit_in m (s[k].toNat % 128) k hm (Nat.mod_lt _ (by decide)) hk8]
            congr 1
          have hkk : (7 * (k : Int)).toNat = 7 * k := by omega
          have h7a : (0 : Int) ≤ 7 * (k : Int) := by omega
          have h7b : 7 * (k : Int) ≤ 64 := by omega
          have hxl := s[k].toNat_lt
          have hcut : (¬ (0 : Int) < (k : Int)) ∨ ((0 : Int) < (k : Int) ∧ (((s[k].toNat : Int) == 0) = false)) := by
            by_cases h0 : k = 0
            · exact Or.inl (by omega)
            · refine Or.inr ⟨by omega, ?_⟩
              have : s[k] ≠ 0 := fun e => hg ⟨by omega, e⟩
              have h1 : s[k].toNat ≠ 0 := fun e => this (by rw [← ofNat_self s[k], e]; rfl)
              simp; omega
          clear hc hc2 HD hg hn h9
          by_cases hx : s[k].toNat < 128
          · have HF := Lib.hid (show firstV (scan s.data.toList) = firstV (.num q (k + 1)) by rw [HS.out, HC.out, if_pos hx, ← hq, Nat.mod_eq_of_lt hx])
            have hxi : (s[k].toNat : Int) < 128 := by omega
            clear HC hx hq
            rcases hcut with k0 | ⟨k0, x0⟩
            · go_wp2
              go_ret3
              exact ⟨by rw [HF.out]; rfl, HB.out⟩
            · go_wp2
              go_ret3
              exact ⟨by rw [HF.out]; rfl, HB.out⟩
          · have hxi : ¬ (s[k].toNat : Int) < 128 := by omega
            have HN := Lib.hid (show scan s.data.toList = scanAt (k + 1) q (s.data.toList.drop (k + 1)) by rw [HS.out, HC.out, if_neg hx, hq])
            have HM := Lib.hid (show q < 128 ^ (k + 1) by
              rw [Nat.pow_succ, ← hq]
              have : s[k].toNat % 128 * 128 ^ k ≤ 127 * 128 ^ k := Nat.mul_le_mul_right _ (by omega)
              omega)
            clear HC hx hq
            rcases hcut with k0 | ⟨k0, x0⟩
            · go_wp2
              go_roundw
              case rel => exact ⟨k + 1, q, by omega, by omega, by go_num, rfl, HM.out, HN.out, HB.out⟩
              case measure => simp [intOf]; omega
            · go_wp2
              go_roundw
              case rel => exact ⟨k + 1, q, by omega, by omega, by go_num, rfl, HM.out, HN.out, HB.out⟩
              case measure => simp [intOf]; omega
    · obtain rfl : k = s.size := by omega
      have HF := Lib.hid (show firstV (scan s.data.toList) = firstV .fin by
        rw [HS.out, List.drop_of_length_le (by simp)]; rfl)
      go_wp2
      go_ret3
      exact ⟨by rw [HF.out]; rfl, HB.out⟩
end Go.Proofs.YtgeggiafjojgdaaDoor

