/-
  bytes.TrimRight by one byte 0.
-/
import Derived.Test.YtknfakaklmpboaaDoorSetsA
namespace Go.Proofs.YtknfakaklmpboaaDoor
open Go.RowKit Go SM

theorem ret_slice {p : Option Addr} {a b c : Nat} (h : a = b) : Ending.returned (.slice p a c) = .returned (.slice p b c) := by rw [h]
def sliceLen : Value → Nat
  | .slice _ n _ => n
  | _ => 0

theorem least_take_zero (bs : List UInt8) (j : Nat) (h : j < bs.length) (hz : gd bs j = 0) : least (bs.take (j + 1)) = least (bs.take j) := by
  rw [List.take_succ_eq_append_getElem h, least_snoc, if_pos (by rw [← gd_lt h]; exact hz)]
theorem least_take_self (bs : List UInt8) (j : Nat) (h : j < bs.length) (hz : gd bs j ≠ 0) : least (bs.take (j + 1)) = bs.take (j + 1) := by
  rw [List.take_succ_eq_append_getElem h, least_snoc, if_neg (by rw [← gd_lt h]; exact hz)]
theorem u8_ne {b : UInt8} (h : b ≠ 0) : ((b.toNat : Int) == 0) = false := by
  rw [beq_eq_false_iff_ne]; intro e; exact h (UInt8.toNat_inj.1 (by simpa using e))

set_option maxHeartbeats 1000000 in
theorem trimRightByte_any (b n cap : Nat) (bs : List UInt8) (w : World) (hn : bs.length = n) (hcap : n ≤ cap) (hb : cap ≤ 9223372036854775807)
    (hc : ∀ i, i < n → w.cell? ⟨b, i, none⟩ = some (.int .u8 (gd bs i).toNat)) :
    Calls Tryd.prog 31 #[.slice (some ⟨b, 0, none⟩) n cap, .int .u8 0] w fun e w' => e = .returned (.slice (some ⟨b, 0, none⟩) (least bs).length cap) ∧ w = w' := by
  have HC := Lib.hid hc
  clear hc
  go_enter Tryd.func31, Tryd.ntmps31
  go_wp2
  go_loop [0] (fun s => ∃ k : Nat, k ≤ n ∧ s = .slice (some ⟨b, 0, none⟩) k cap ∧ least (bs.take k) = least bs) (fun s => sliceLen s)
  case atStart => exact ⟨n, Nat.le_refl _, rfl, by rw [List.take_of_length_le (by omega)]⟩
  case round =>
    obtain ⟨k, hk, rfl, hl⟩ := hrel
    have HL := Lib.hid hl
    clear hl
    cases k with
    | zero =>
      go_wp2
      go_ret
      exact ⟨ret_slice (by rw [← HL.out]; rfl), rfl⟩
    | succ j =>
      have hcell := HC.out j (by omega)
      by_cases hz : gd bs j = 0
      · rw [hz] at hcell
        have hcell' : w.cell? ⟨b, j, none⟩ = some (.int .u8 0) := hcell
        clear hcell
        go_wp2
        go_round
        case rel => exact ⟨j, by omega, rfl, by rw [← HL.out, least_take_zero bs j (by omega) hz]⟩
        case measure => simp [sliceLen]
      · have hne := u8_ne hz
        go_wp2
        go_ret
        exact ⟨ret_slice (by rw [← HL.out, least_take_self bs j (by omega) hz]; simp; omega), rfl⟩
set_option maxRecDepth 100000 in
/-- bytes.TrimRight(set, a byte 0) -/
theorem trimRight_any (b n cap : Nat) (bs : List UInt8) (w : World) (hn : bs.length = n) (hcap : n ≤ cap) (hb : cap ≤ 9223372036854775807)
    (hc : ∀ i, i < n → w.cell? ⟨b, i, none⟩ = some (.int .u8 (gd bs i).toNat)) :
    Calls Tryd.prog 25 #[.slice (some ⟨b, 0, none⟩) n cap, .string ⟨#[0]⟩] w fun e w' => e = .returned (.slice (some ⟨b, 0, none⟩) (least bs).length cap) ∧ w = w' := by
  have hT := trimRightByte_any b n cap bs w hn hcap hb hc
  clear hc
  by_cases h0 : n = 0
  · subst h0
    obtain rfl : bs = [] := List.eq_nil_of_length_eq_zero hn
    clear hT
    go_enter Tryd.func25, Tryd.ntmps25
    go_wp2
    go_ret
    exact ⟨rfl, rfl⟩
  · have hn0 : ((n : Int) == 0) = false := beq_eq_false_iff_ne.2 (by omega)
    generalize (least bs).length = k at hT ⊢
    have HT := Lib.hid hT
    clear hT hn h0
    go_enter Tryd.func25, Tryd.ntmps25
    go_wp2_with (go_at_call 31; refine HT.out.mono ?_; rintro e w' ⟨rfl, rfl⟩)
    go_ret
    exact ⟨rfl, rfl⟩
end Go.Proofs.YtknfakaklmpboaaDoor

