/-
  The reference's Same: two lists of numbers.
-/
import Derived.Test.YtmcmhmcihbhmhaaDoorWirI
import Derived.RegionTactic
import Derived.BigRegion
namespace Go.Proofs.YtmcmhmcihbhmhaaDoor
open Go.RowKit Go

theorem below_drewN {B : Nat} {a w : World} (h : Below B a w) (n : Nat) : Below B a (w.drewN n) := ⟨h.os, h.tape, h.output, h.size, h.block⟩

set_option maxRecDepth 100000 in
set_option maxHeartbeats 2000000 in
/-- the same list twice -/
theorem same_self (v u : Value) (xs : List Int) (hx : xs.length ≤ 281474976710656) (w : World) (h1 : IntsAt w v xs) (h2 : IntsAt w u xs) :
    Calls Tryd.prog 25 #[v, u] w fun e w' => e = .returned (.bool true) ∧ Below w.heap.size w w' := by
  obtain ⟨a, ca, rfl, ha⟩ := h1
  obtain ⟨c, cc, rfl, hc⟩ := h2
  have HA := Lib.hid ha
  have HC := Lib.hid hc
  have hne : ((xs.length : Int) != (xs.length : Int)) = false := by simp
  clear ha hc
  go_enter Tryd.func25, Tryd.ntmps25
  go_wp2
  go_loopw [5] (fun i wr => ∃ k : Nat, k ≤ xs.length ∧ i = .int .i64 k ∧ Below w.heap.size w wr) (fun i _ => xs.length - (intOf i).toNat)
  case atStart => exact ⟨0, Nat.zero_le _, rfl, Below.refl _ _⟩
  case round =>
    obtain ⟨k, hk, rfl, hB⟩ := hrel
    by_cases hlt : k < xs.length
    · obtain ⟨b, off, rfl, hb, hbc⟩ := HA.out (by intro e; rw [e] at hlt; exact absurd hlt (by simp))
      obtain ⟨b2, off2, rfl, hb2, hbc2⟩ := HC.out (by intro e; rw [e] at hlt; exact absurd hlt (by simp))
      have hc1 : wr.cell? ⟨b, off + k, none⟩ = some (.int .i64 xs[k]) := (hB.cell (p := ⟨b, off + k, none⟩) hb).trans (hbc k hlt)
      have hc2 : wr.cell? ⟨b2, off2 + k, none⟩ = some (.int .i64 xs[k]) := (hB.cell (p := ⟨b2, off2 + k, none⟩) hb2).trans (hbc2 k hlt)
      have hki : (k : Int) < (xs.length : Int) := by omega
      have HB := Lib.hid hB
      generalize xs[k] = x at *
      clear hbc hbc2 hB
      go_wp2_with fail
      go_region
      all_goals (
        go_wp2_with fail
        go_roundw
        case rel => exact ⟨k + 1, by omega, by go_num, HB.out.drew⟩
        case measure => simp [intOf]; omega)
    · go_wp2
      go_ret
      exact ⟨rfl, hB⟩
end Go.Proofs.YtmcmhmcihbhmhaaDoor
