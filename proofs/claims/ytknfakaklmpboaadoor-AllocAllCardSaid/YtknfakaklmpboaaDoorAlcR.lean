/-
  The reference: Order, Pick; Same.
-/
import Derived.Test.YtknfakaklmpboaaDoorAlcC
namespace Go.Proofs.YtknfakaklmpboaaDoor
open Go.ChangeShapes Go.WideShapes Go.ChangeAt Go.RowKit Go.Shelf Go SM PL AL

/-! ### Pick -/
theorem badP_yes {b f m : Int} (h : badA b f = true ∨ m < 0) : b < 8 ∨ (¬ b < 8 ∧ 4096 < b) ∨ (¬ b < 8 ∧ ¬ 4096 < b ∧ f < 1) ∨ (¬ b < 8 ∧ ¬ 4096 < b ∧ ¬ f < 1 ∧ b < f) ∨ (¬ b < 8 ∧ ¬ 4096 < b ∧ ¬ f < 1 ∧ ¬ b < f ∧ m < 0) := by
  rcases h with h | h
  · have := badA_yes h; omega
  · omega
/-- so many were picked by the reference -/
def RPickP (u : List UInt8) (n f m : Nat) (w : World) (e : Ending) (w' : World) : Prop := ∃ a cap, e = .returned (.tuple #[.slice a m cap, .int .i64 (placeAt (ord u n f) f m), .int .i64 0]) ∧ IntsAt w' (.slice a m cap) (intsN ((ord u n f).take m)) ∧ Below w.heap.size w w'
theorem length_intsN (l : List Nat) : (intsN l).length = l.length := length_toInts l
set_option maxRecDepth 100000 in
set_option maxHeartbeats 2000000 in
theorem same_any (v u : Value) (xs ys : List Int) (hx : xs.length ≤ 281474976710656) (hy : ys.length ≤ 281474976710656) (w : World) (h1 : IntsAt w v xs) (h2 : IntsAt w u ys) :
    Calls Tryd.prog 9 #[v, u] w fun e w' => e = .returned (.bool (decide (xs = ys))) ∧ Below w.heap.size w w' := by
  obtain ⟨a, ca, rfl, ha⟩ := h1.split
  obtain ⟨c, cc, rfl, hc⟩ := h2.split
  by_cases hl : xs.length = ys.length
  · by_cases h0 : xs = []
    · subst h0
      obtain rfl : ys = [] := List.eq_nil_of_length_eq_zero (by simpa using hl.symm)
      clear ha hc hl h1 h2
      go_enter Tryd.func9, Tryd.ntmps9
      go_wp2
      refine wp_loop_rounds 1 ?_
      rw [rounds_succ]
      go_wp2
      go_ret
      exact ⟨rfl, Below.refl _ _⟩
    · obtain ⟨b, off, rfl, hb, hbc⟩ := ha h0
      obtain ⟨b2, off2, rfl, hb2, hbc2⟩ := hc (fun e => h0 (List.eq_nil_of_length_eq_zero (by rw [hl, e]; rfl)))
      have HC := Lib.hid hbc
      have HC2 := Lib.hid hbc2
      have HL := Lib.hid hl
      rw [← hl]
      have hne : ((xs.length : Int) != (xs.length : Int)) = false := by simp
      clear hbc hbc2 hl h1 h2 ha hc h0
      go_enter Tryd.func9, Tryd.ntmps9
      go_wp2
      go_loopw [5] (fun i wr => ∃ k : Nat, k ≤ xs.length ∧ i = .int .i64 k ∧ Below w.heap.size w wr ∧ xs.take k = ys.take k) (fun i _ => xs.length - (intOf i).toNat)
      case atStart => exact ⟨0, Nat.zero_le _, rfl, Below.refl _ _, rfl⟩
      case round =>
        obtain ⟨k, hk, rfl, hB, htk⟩ := hrel
        have HT := Lib.hid htk
        clear htk
        by_cases hlt : k < xs.length
        · have hlt2 : k < ys.length := by rw [← HL.out]; exact hlt
          have hc1 : wr.cell? ⟨b, off + k, none⟩ = some (.int .i64 xs[k]) := (hB.cell (p := ⟨b, off + k, none⟩) hb).trans (HC.out k hlt)
          have hc2 : wr.cell? ⟨b2, off2 + k, none⟩ = some (.int .i64 ys[k]) := (hB.cell (p := ⟨b2, off2 + k, none⟩) hb2).trans (HC2.out k hlt2)
          have hki : (k : Int) < (xs.length : Int) := by omega
          by_cases he : xs[k] = ys[k]
          · have HN := Lib.hid (show xs.take (k + 1) = ys.take (k + 1) by rw [List.take_succ_eq_append_getElem hlt, List.take_succ_eq_append_getElem hlt2, HT.out, he])
            rw [← he] at hc2
            have hbe : (xs[k] != xs[k]) = false := by simp
            generalize xs[k] = x at *
            clear hlt2 he
            go_wp2
            go_quiet (fail)
            go_wp2
            go_roundw
            case rel => exact ⟨k + 1, by omega, by go_num, below_drewN hB _, HN.out⟩
            case measure => simp [intOf]; omega
          · have hbe : (xs[k] != ys[k]) = true := by simpa using he
            have HN := Lib.hid (show decide (xs = ys) = false by
              simp only [decide_eq_false_iff_not]; intro e; subst e; exact he rfl)
            generalize xs[k] = x at *
            generalize ys[k] = y at *
            clear hlt2 he
            go_wp2
            go_quiet (fail)
            go_wp2
            go_ret
            exact ⟨ret_bool (by rw [HN.out]), below_drewN hB _⟩
        · have HN := Lib.hid (show xs = ys by
            have h := HT.out
            rwa [List.take_of_length_le (by omega), List.take_of_length_le (by rw [← HL.out]; omega)] at h)
          go_wp2
          go_ret
          exact ⟨ret_bool (by rw [HN.out]; simp), hB⟩
  · have hne : ((xs.length : Int) != (ys.length : Int)) = true := by simp; omega
    have hxy : decide (xs = ys) = false := by simp; intro e; exact hl (by rw [e])
    rw [hxy]
    clear ha hc hl h1 h2 hxy
    go_enter Tryd.func9, Tryd.ntmps9
    go_wp2
    go_ret
    exact ⟨rfl, Below.refl _ _⟩

end Go.Proofs.YtknfakaklmpboaaDoor

