/-
  The reference's logs: a number read back, a half's sectors, the records' bytes, how many bytes more.
-/
import Derived.Deep.RegionLaw
import Derived.Test.YtknfakaklmpboaaGreatDoorNvM
import Derived.Deep.RegionHeld3
namespace Go.Proofs.YtknfakaklmpboaaGreatDoor
open Go.RowKit Go Go.Maps SM

theorem valN_drop {s : ByteArray} {j : Nat} (h : j < s.size) : valN (s.data.toList.drop j) = s[j].toNat + 256 * valN (s.data.toList.drop (j + 1)) := by
  have hj : j < s.data.toList.length := by simpa using h
  rw [List.drop_eq_getElem_cons hj, valN]
  rfl
theorem valN_few {l : List UInt8} {k : Nat} (h : l.length ≤ k) : valN l < 256 ^ k := Nat.lt_of_lt_of_le (valN_lt l) (Nat.pow_le_pow_right (by decide) h)

set_option maxRecDepth 100000 in
set_option maxHeartbeats 1000000 in
theorem rval_any (s : ByteArray) (hs : s.size ≤ 7) (w : World) :
    Calls Tryz.prog 69 #[.string s] w fun e w' => e = .returned (.int .i64 (valN s.data.toList)) ∧ w = w' := by
  have hs0 : (s.size : Int) ≤ 7 := by omega
  go_enter Tryz.func69, Tryz.ntmps69
  go_wp2
  go_loopw [3, 4] (fun n i wr => ∃ k : Nat, k ≤ s.size ∧ n = .int .i64 (valN (s.data.toList.drop k)) ∧ i = .int .i64 ((k : Int) - 1) ∧ w = wr) (fun _ i _ => (intOf i + 1).toNat)
  case atStart => exact ⟨s.size, Nat.le_refl _, by rw [List.drop_of_length_le (by simp)]; rfl, by go_num, rfl⟩
  case round =>
    obtain ⟨k, hk, rfl, rfl, rfl⟩ := hrel
    rcases k with _ | j
    · have e1 : (((0 : Nat) : Int) - 1) = -1 := by omega
      rw [e1]
      simp only [List.drop_zero]
      go_wp2
      go_ret
      exact ⟨rfl, rfl⟩
    · have e1 : (((j + 1 : Nat) : Int) - 1) = (j : Int) := by omega
      rw [e1]
      have hj : j < s.size := by omega
      have HD := Lib.hid (valN_drop hj)
      have hm := valN_few (l := s.data.toList.drop (j + 1)) (k := 6) (by rw [List.length_drop]; simp; omega)
      have hb := s[j].toNat_lt
      generalize valN (s.data.toList.drop (j + 1)) = m at *
      have hj0 : (0 : Int) ≤ (j : Int) := Int.natCast_nonneg _
      have hc : wrap64 (s[j].toNat : Int) = (s[j].toNat : Int) := by unfold wrap64; omega
      go_wp2
      go_roundw
      case rel => exact ⟨j, by omega, by rw [HD.out]; generalize s[j].toNat = x at *; go_num, by go_num, trivial⟩
      case measure => simp [intOf]
theorem TextsAt.later {W W' : World} {v : Value} {l : List ByteArray} (h : TextsAt W v l) (hB : Below W.heap.size W W') : TextsAt W' v l := by
  obtain ⟨a, c, e, ha⟩ := h
  refine ⟨a, c, e, fun hne => ?_⟩
  obtain ⟨b, off, e2, hc⟩ := ha hne
  exact ⟨b, off, e2, fun j hj => (hB.cell (p := ⟨b, off + j, none⟩) (lt_of_cell (hc j hj))).trans (hc j hj)⟩
end Go.Proofs.YtknfakaklmpboaaGreatDoor

