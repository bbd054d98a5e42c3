/-
  The reference's log: numbers, sector 0, Format.
-/
import Derived.Test.YtknfakaklmpboaaGreatDoorNC
import Derived.Test.YtknfakaklmpboaaGreatDoorMD
import Derived.Deep.RegionHeld3
namespace Go.Proofs.YtknfakaklmpboaaGreatDoor
open Go.RowKit Go Go.Maps SM

set_option maxRecDepth 100000 in
set_option maxHeartbeats 1000000 in
theorem rnum_any (n k : Nat) (hn : n ≤ 9223372036854775807) (hk : k ≤ 8) (w : World) :
    Calls Tryz.prog 94 #[.int .i64 n, .int .i64 k] w fun e w' => e = .returned (.string (bsL (leN n k))) ∧ Below w.heap.size w w' := by
  obtain ⟨i0, hi, hz0, hz1, hz2⟩ := info_parts info5e
  have hk8 : (k : Int) ≤ 8 := by omega
  have H0 := Lib.hid (show (w.alloc (.cells #[] 5)).ownsRow w.heap.size 5 1 (.slice (some ⟨w.heap.size, 0, none⟩) 0 0) 0 [] from World.ownsRow_made w #[] 0 (Nat.le_refl _) (Nat.zero_le _) rfl)
  have HB0 := Lib.hid (show Below w.heap.size w (w.alloc (.cells #[] 5)) from (Below.refl _ w).alloc (Nat.le_refl _) _)
  go_enter Tryz.func94, Tryz.ntmps94
  go_wp2
  go_loopw [5, 0, 6] (fun v m i wr => ∃ j : Nat, j ≤ k ∧ i = .int .i64 j ∧ m = .int .i64 ((n / 256 ^ j : Nat) : Int) ∧ wr.ownsRow w.heap.size 5 1 v (leN n j).length (u8c (leN n j)) ∧ Below w.heap.size w wr) (fun _ _ i _ => k - (intOf i).toNat)
  case atStart => exact ⟨0, Nat.zero_le _, rfl, by simp, H0.out, HB0.out⟩
  case round =>
    obtain ⟨j, hj, rfl, rfl, hrow, hB⟩ := hrel
    by_cases hlt : j < k
    · have hji : (j : Int) < (k : Int) := by omega
      have HS := Lib.hid (show leN n (j + 1) = leN n j ++ [UInt8.ofNat (n / 256 ^ j % 256)] from leN_snoc j n)
      have HP := Lib.hid (show n / 256 ^ (j + 1) = n / 256 ^ j / 256 by rw [Nat.div_div_eq_div_mul, Nat.pow_succ])
      have hle : n / 256 ^ j ≤ 9223372036854775807 := Nat.le_trans (Nat.div_le_self _ _) hn
      have hlen := length_leN n j
      generalize n / 256 ^ j = q at *
      have hx : (UInt8.ofNat (q % 256)).toNat = q % 256 := by simp
      have hbw : IntKind.u8.wrap ((q : Int) % 256) = ((UInt8.ofNat (q % 256)).toNat : Int) := by
        rw [hx]
        show ((q : Int) % 256) % 256 = _
        omega
      have hbw2 : IntKind.u8.wrap ((q : Int).tmod 256) = ((UInt8.ofNat (q % 256)).toNat : Int) := by
        rw [Int.tmod_eq_emod_of_nonneg (by omega)]; exact hbw
      generalize UInt8.ofNat (q % 256) = x at *
      generalize leN n j = L at *
      have hszW : w.heap.size ≤ wr.heap.size := hB.size
      clear hx
      go_wp2_with (at_builtin; refine wpList_append_own _ rfl _ _ 79 rfl w.heap.size 5 i0 (.int .u8 0) 1 1 Tryz.underlying79 hi hz0 hz1 hz2 rfl (by decide) _ _ _ rfl (hrow.alloc _) ⟨wr.heap.size, 0, none⟩ 1 1 [.int .u8 x.toNat] rfl rfl (cell_one_new _ _ _) (by simp [Value.oneCell']) (by unfold maxLen; omega) (by omega) (by simp; omega) ?_; intro v' w1 hown' hgrow _)
      have hB1 : Below w.heap.size w w1 := (hB.alloc hszW _).grown hgrow (by simp; omega) (fun j ej => (hrow.lt j ej).1)
      go_roundw
      case rel => exact ⟨j + 1, by omega, by go_num, by rw [HP.out]; go_num, by rw [HS.out, List.length_append, u8c_snoc]; exact hown', hB1⟩
      case measure => simp [intOf]; omega
    · obtain rfl : j = k := by omega
      have hcv := conv_row wr w.heap.size _ _ hrow
      have HB := Lib.hid hB
      clear hlt hrow hB hj hk8 hk
      go_wp2
      go_ret
      exact ⟨rfl, HB.out⟩

theorem head_text (gen used : Nat) : (⟨#[78, 86]⟩ : ByteArray) ++ bsL (leN gen 6) ++ bsL (leN used 4) ++ nought 52 = headB gen used := by
  rw [← bsL_head]
  have hs : ((⟨#[78, 86]⟩ : ByteArray) ++ bsL (leN gen 6) ++ bsL (leN used 4)).size = 12 := by
    rw [ByteArray.size_append, ByteArray.size_append, size_bsL, size_bsL, length_leN, length_leN]; rfl
  rw [fillB, hs]
  rfl
/-! ### the reference's log -/
section
variable {q r n : Nat} {u : Value} {dead : Bool} {w : World}
end
section
variable {q r n base : Nat} {u : Value} {dead : Bool} {s : DS} {zs : List Int} {v0 v1 v2 : Value} {kp : ByteArray} {w0 w w' : World}
def headsDead (g u : Nat) (s : DS) (dead : Bool) : Bool := dead || ((heads g u s).1 == 2)
end
end Go.Proofs.YtknfakaklmpboaaGreatDoor

