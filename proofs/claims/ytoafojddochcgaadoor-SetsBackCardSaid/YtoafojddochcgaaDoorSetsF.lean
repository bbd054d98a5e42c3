/-
  Same; and the calls whose answers the document fixes.
-/
import Derived.Test.YtoafojddochcgaaDoorSetsE1
import Derived.Test.YtoafojddochcgaaDoorSetsE3
import Derived.Test.YtoafojddochcgaaDoorSetsE4
namespace Go.Proofs.YtoafojddochcgaaDoor
open Go.RowKit Go.Shelf Go SM

theorem below_drewN {B : Nat} {a w : World} (h : Below B a w) (n : Nat) : Below B a (w.drewN n) := ⟨h.os, h.tape, h.output, h.size, h.block⟩
theorem IntsAt.split {W : World} {v : Value} {zs : List Int} (h : IntsAt W v zs) : ∃ a cap, v = .slice a zs.length cap ∧ (zs ≠ [] → ∃ b off, a = some ⟨b, off, none⟩ ∧ b < W.heap.size ∧ ∀ j (h : j < zs.length), W.cell? ⟨b, off + j, none⟩ = some (.int .i64 zs[j])) := by
  rcases h with ⟨rfl, rfl⟩ | ⟨b, off, cap, rfl, hb, hc⟩
  · exact ⟨none, 0, rfl, fun h => absurd rfl h⟩
  · exact ⟨_, cap, rfl, fun _ => ⟨b, off, rfl, hb, hc⟩⟩
theorem IntsAt.later {W W' : World} {v : Value} {zs : List Int} (h : IntsAt W v zs) (hB : Below W.heap.size W W') : IntsAt W' v zs := by
  rcases h with h | ⟨b, off, cap, h1, hb, hc⟩
  · exact .inl h
  · exact .inr ⟨b, off, cap, h1, Nat.lt_of_lt_of_le hb hB.size, fun j hj => (hB.cell (p := ⟨b, off + j, none⟩) hb).trans (hc j hj)⟩

set_option maxRecDepth 100000 in
set_option maxHeartbeats 2000000 in
theorem same_any (v u : Value) (xs ys : List Int) (hx : xs.length ≤ 281474976710656) (hy : ys.length ≤ 281474976710656) (w : World) (h1 : IntsAt w v xs) (h2 : IntsAt w u ys) :
    Calls Tryd.prog 18 #[v, u] w fun e w' => e = .returned (.bool (decide (xs = ys))) ∧ Below w.heap.size w w' := by
  obtain ⟨a, ca, rfl, ha⟩ := h1.split
  obtain ⟨c, cc, rfl, hc⟩ := h2.split
  by_cases hl : xs.length = ys.length
  · by_cases h0 : xs = []
    · subst h0
      obtain rfl : ys = [] := List.eq_nil_of_length_eq_zero (by simpa using hl.symm)
      clear ha hc hl h1 h2
      go_enter Tryd.func18, Tryd.ntmps18
      go_wp2
      refine wp_loop_rounds 1 ?_
      rw [rounds_succ]
      go_wp2
      go_ret
      exact ⟨rfl, Below.refl _ _⟩
    · obtain ⟨b, off, rfl, hb, hbc⟩ := ha h0
      obtain ⟨b2, off2, rfl, hb2, hbc2⟩ := hc (fun e => h0 (List.eq_nil_of_length_eq_zero (by rw [hl, e]; rfl)))
      have HC := Lib.hid hbc
      have HC2 := Lib.hid hbc2
      have HL := Lib.hid hl
      rw [← hl]
      have hne : ((xs.length : Int) != (xs.length : Int)) = false := by simp
      clear hbc hbc2 hl h1 h2 ha hc h0
      go_enter Tryd.func18, Tryd.ntmps18
      go_wp2
      go_loopw [5] (fun i wr => ∃ k : Nat, k ≤ xs.length ∧ i = .int .i64 k ∧ Below w.heap.size w wr ∧ xs.take k = ys.take k) (fun i _ => xs.length - (intOf i).toNat)
      case atStart => exact ⟨0, Nat.zero_le _, rfl, Below.refl _ _, rfl⟩
      case round =>
        obtain ⟨k, hk, rfl, hB, htk⟩ := hrel
        have HT := Lib.hid htk
        clear htk
        by_cases hlt : k < xs.length
        · have hlt2 : k < ys.length := by rw [← HL.out]; exact hlt
          have hc1 : wr.cell? ⟨b, off + k, none⟩ = some (.int .i64 xs[k]) := (hB.cell (p := ⟨b, off + k, none⟩) hb).trans (HC.out k hlt)
          have hc2 : wr.cell? ⟨b2, off2 + k, none⟩ = some (.int .i64 ys[k]) := (hB.cell (p := ⟨b2, off2 + k, none⟩) hb2).trans (HC2.out k hlt2)
          have hki : (k : Int) < (xs.length : Int) := by omega
          by_cases he : xs[k] = ys[k]
          · have HN := Lib.hid (show xs.take (k + 1) = ys.take (k + 1) by rw [List.take_succ_eq_append_getElem hlt, List.take_succ_eq_append_getElem hlt2, HT.out, he])
            rw [← he] at hc2
            have hbe : (xs[k] != xs[k]) = false := by simp
            generalize xs[k] = x at *
            clear hlt2 he
            go_wp2
            go_quiet (fail)
            go_wp2
            go_roundw
            case rel => exact ⟨k + 1, by omega, by go_num, below_drewN hB _, HN.out⟩
            case measure => simp [intOf]; omega
          · have hbe : (xs[k] != ys[k]) = true := by simpa using he
            have HN := Lib.hid (show decide (xs = ys) = false by
              simp only [decide_eq_false_iff_not]; intro e; subst e; exact he rfl)
            generalize xs[k] = x at *
            generalize ys[k] = y at *
            clear hlt2 he
            go_wp2
            go_quiet (fail)
            go_wp2
            go_ret
            exact ⟨ret_bool (by rw [HN.out]), below_drewN hB _⟩
        · have HN := Lib.hid (show xs = ys by
            have h := HT.out
            rwa [List.take_of_length_le (by omega), List.take_of_length_le (by rw [← HL.out]; omega)] at h)
          go_wp2
          go_ret
          exact ⟨ret_bool (by rw [HN.out]; simp), hB⟩
  · have hne : ((xs.length : Int) != (ys.length : Int)) = true := by simp; omega
    have hxy : decide (xs = ys) = false := by simp; intro e; exact hl (by rw [e])
    rw [hxy]
    clear ha hc hl h1 h2 hxy
    go_enter Tryd.func18, Tryd.ntmps18
    go_wp2
    go_ret
    exact ⟨rfl, Below.refl _ _⟩

def toInts (l : List Nat) : List Int := l.map fun n : Nat => (n : Int)
theorem intsAt_of_owns {W : World} {base : Nat} {v : Value} {l : List Nat} (h : W.ownsRow base 3 1 v l.length (ints l)) : IntsAt W v (toInts l) := by
  by_cases hv : v = .slice none 0 0
  · rcases h.2 with ⟨_, h0⟩ | ⟨g, cap, cur, e, _⟩
    · exact .inl ⟨hv, by rw [List.eq_nil_of_length_eq_zero h0]; rfl⟩
    · rw [hv] at e; cases e
  · obtain ⟨g, cap, rfl, _, hg, _, _, hc⟩ := row_cells h hv
    refine .inr ⟨g, 0, cap, by simp [toInts], hg, fun j hj => ?_⟩
    have hj' : j < l.length := by simpa [toInts] using hj
    rw [Nat.zero_add, hc j (.int .i64 l[j]) (by simp [ints, hj'])]
    simp [toInts]
theorem toInts_inj {a b : List Nat} : toInts a = toInts b ↔ a = b := by
  constructor
  · intro h
    have := congrArg (List.map Int.toNat) h
    simpa [toInts, List.map_map, Function.comp_def] using this
  · rintro rfl; rfl
theorem length_toInts (l : List Nat) : (toInts l).length = l.length := by simp [toInts]

theorem fx1 : ofV [0, 9] = .tuple #[.string ⟨#[1, 2]⟩, .int .i64 0] := by kernel_rfl
theorem fx2 : ofV [-1] = .tuple #[.string ⟨#[]⟩, .int .i64 10] := by kernel_rfl
theorem fx3 : nextV [1, 2] 1 = .tuple #[.int .i64 9, .bool true] := by kernel_rfl
theorem fx4 : gapV [1, 2] 9 12 = .tuple #[.int .i64 10, .bool true] := by kernel_rfl
theorem fx5 : nums [1, 2, 0] 0 = [0, 9] := by decide +kernel
theorem fx6 : (cnt [255] : Int) = 8 := by
  have h : cnt [255] = (bitsOf 255).length := by rw [bitsOf_length]; simp [cnt]
  rw [h]; decide +kernel
theorem fx7 : str (mk band [3] [6]) = .string ⟨#[2]⟩ := by kernel_rfl
theorem fx8 : str (mk bsub [3] [3]) = .string ⟨#[]⟩ := by kernel_rfl
theorem fx9 : str (mk bor [] [1]) = .string ⟨#[1]⟩ := by kernel_rfl

set_option maxRecDepth 100000 in
set_option maxHeartbeats 4000000 in
theorem fixed_any (w : World) :
    Calls Tryd.prog 14 #[] w fun e w' => e = .returned (.bool true) ∧ Below w.heap.size w w' := by
  go_enter Tryd.func14, Tryd.ntmps14
  go_wp2_with fail
  refine (of_any _ [0, 9] (by decide) _ (.inr ⟨w.heap.size, 0, 2, rfl, by simp, fun j hj => ?_⟩)).mono ?_
  · match j, hj with
    | 0, _ => simp
    | 1, _ => simp
  rintro e w1 ⟨rfl, hB1⟩
  rw [fx1]
  have h1 : Below w.heap.size w w1 := ((Below.refl _ w).alloc (Nat.le_refl _) _).trans (hB1.mono (by simp))
  clear hB1
  go_wp2_with fail
  refine (of_any _ [-1] (by decide) _ (.inr ⟨w1.heap.size, 0, 1, rfl, by simp, fun j hj => ?_⟩)).mono ?_
  · match j, hj with
    | 0, _ => simp
  rintro e w2 ⟨rfl, hB2⟩
  rw [fx2]
  have h2 : Below w.heap.size w w2 := (h1.alloc h1.size _).trans (hB2.mono (by have := h1.size; simp; omega))
  clear hB2 h1
  go_wp2_with fail
  refine (next_any ⟨#[1, 2]⟩ 1 (by decide) (by decide) (by decide) _).mono ?_
  rintro e w3 ⟨rfl, hB3⟩
  rw [show nextV (⟨#[1, 2]⟩ : ByteArray).data.toList 1 = _ from fx3]
  have h3 : Below w.heap.size w w3 := h2.trans (hB3.mono h2.size)
  clear hB3 h2
  go_wp2_with fail
  refine (gap_any ⟨#[1, 2]⟩ 9 12 (by decide) (by decide) (by decide) (by decide) (by decide) _).mono ?_
  rintro e w4 ⟨rfl, hB4⟩
  rw [show gapV (⟨#[1, 2]⟩ : ByteArray).data.toList 9 12 = _ from fx4]
  have h4 : Below w.heap.size w w4 := h3.trans (hB4.mono h3.size)
  clear hB4 h3
  go_wp2_with fail
  refine (list_any ⟨#[1, 2, 0]⟩ (by decide) _).mono ?_
  rintro e w5 ⟨v, rfl, hown, hB5⟩
  rw [show (⟨#[1, 2, 0]⟩ : ByteArray).data.toList = [1, 2, 0] from rfl, fx5] at hown
  have hv := intsAt_of_owns hown
  have HV := Lib.hid hv
  have h5 : Below w.heap.size w w5 := h4.trans (hB5.mono h4.size)
  clear hB5 h4 hown hv
  go_wp2_with fail
  have hu : IntsAt (w5.alloc (.cells #[.int .i64 0, .int .i64 9] 3)) (.slice (some ⟨w5.heap.size, 0, none⟩) 2 2) [0, 9] := .inr ⟨w5.heap.size, 0, 2, rfl, by simp, fun j hj => by
    match j, hj with
    | 0, _ => simp
    | 1, _ => simp⟩
  refine (same_any _ _ (toInts [0, 9]) [0, 9] (by decide) (by decide) _ (HV.out.later ((Below.refl _ _).alloc (Nat.le_refl _) _)) hu).mono ?_
  clear hu
  rintro e w6 ⟨rfl, hB6⟩
  rw [show decide (toInts [0, 9] = [0, 9]) = true from by decide]
  have h6 : Below w.heap.size w w6 := (h5.alloc h5.size _).trans (hB6.mono (by have := h5.size; simp; omega))
  clear hB6 h5 HV
  go_wp2_with fail
  refine (count_any ⟨#[255]⟩ _ (by decide)).mono ?_
  rintro e w7 ⟨rfl, rfl⟩
  rw [show (cnt (⟨#[255]⟩ : ByteArray).data.toList : Int) = 8 from fx6]
  go_wp2_with fail
  refine (and_any ⟨#[3]⟩ ⟨#[6]⟩ (by decide) (by decide) _).mono ?_
  rintro e w8 ⟨rfl, hB8⟩
  rw [show str (mk band (⟨#[3]⟩ : ByteArray).data.toList (⟨#[6]⟩ : ByteArray).data.toList) = _ from fx7]
  have h8 : Below w.heap.size w w8 := h6.trans (hB8.mono h6.size)
  clear hB8 h6
  go_wp2_with fail
  refine (minus_any ⟨#[3]⟩ ⟨#[3]⟩ (by decide) (by decide) _).mono ?_
  rintro e w9 ⟨rfl, hB9⟩
  rw [show str (mk bsub (⟨#[3]⟩ : ByteArray).data.toList (⟨#[3]⟩ : ByteArray).data.toList) = _ from fx8]
  have h9 : Below w.heap.size w w9 := h8.trans (hB9.mono h8.size)
  clear hB9 h8
  go_wp2_with fail
  refine (or_any ⟨#[]⟩ ⟨#[1]⟩ (by decide) (by decide) _).mono ?_
  rintro e w10 ⟨rfl, hB10⟩
  rw [show str (mk bor (⟨#[]⟩ : ByteArray).data.toList (⟨#[1]⟩ : ByteArray).data.toList) = _ from fx9]
  have h10 : Below w.heap.size w w10 := h9.trans (hB10.mono h9.size)
  clear hB10 h9
  go_wp2
  go_ret
  exact ⟨rfl, h10⟩
end Go.Proofs.YtoafojddochcgaaDoor
