/-
  The reference: Cut, Rows, Shape.
-/
import Derived.Test.YtmloljjllmmkoaaGreatTE
import Derived.OwnWalk
namespace Go.Proofs.YtmloljjllmmkoaaGreat
open Go.ChangeShapes Go.WideShapes Go.ChangeAt Go.RowKit Go.Shelf Go Go.Maps SM PL AL TR

theorem rows_steps {n : Nat} (hn : n ≤ 16384) : ((rowsL n = [] ∧ (n + 239) / 240 = 0) ∨ (∃ h : 0 < (rowsL n).length, (rowsL n)[0] = (n + 239) / 240)) ∧ (rowsL n).length ≤ 3 ∧ ∀ i (h : i < (rowsL n).length), 1 ≤ (rowsL n)[i] ∧ (rowsL n)[i] ≤ 69 ∧ ((rowsL n)[i] = 1 → i + 1 = (rowsL n).length) ∧ ((rowsL n)[i] ≠ 1 → ∃ h' : i + 1 < (rowsL n).length, (rowsL n)[i + 1] = ((rowsL n)[i] + 59) / 60) := by
  by_cases h0 : n = 0
  · subst h0
    have e : rowsL 0 = [] := rowsL_nil.2 rfl
    rw [e]
    exact ⟨.inl ⟨rfl, rfl⟩, by simp, fun i h => by simp at h⟩
  · have e := rows_is h0 hn
    by_cases h1 : n ≤ 240
    · rw [if_pos h1] at e
      rw [e]
      refine ⟨.inr ⟨by simp, by simp; omega⟩, by simp, fun i h => ?_⟩
      have : i = 0 := by simp at h; omega
      subst this
      simp
    · rw [if_neg h1] at e
      have hc : cuts n = (n + 239) / 240 := rfl
      by_cases h2 : n ≤ 14400
      · rw [if_pos h2] at e
        rw [e]
        refine ⟨.inr ⟨by simp, by simp [hc]⟩, by simp, fun i h => ?_⟩
        have : i = 0 ∨ i = 1 := by simp at h; omega
        rcases this with rfl | rfl
        · simp only [List.getElem_cons_zero, List.length_cons, List.length_nil]
          refine ⟨by omega, by omega, fun e1 => by omega, fun _ => ⟨by omega, ?_⟩⟩
          simp only [List.getElem_cons_succ, List.getElem_cons_zero]
          omega
        · simp
      · rw [if_neg h2] at e
        rw [e]
        refine ⟨.inr ⟨by simp, by simp [hc]⟩, by simp, fun i h => ?_⟩
        have : i = 0 ∨ i = 1 ∨ i = 2 := by simp at h; omega
        rcases this with rfl | rfl | rfl
        · simp only [List.getElem_cons_zero, List.length_cons, List.length_nil]
          refine ⟨by omega, by omega, fun e1 => by omega, fun _ => ⟨by omega, ?_⟩⟩
          simp only [List.getElem_cons_succ, List.getElem_cons_zero]
          omega
        · simp
        · simp
set_option maxRecDepth 100000 in
theorem rcut_240 (n : Nat) (hn : n ≤ 16384) (w : World) :
    Calls Tryz.prog 98 #[.int .i64 n, .int .i64 240] w fun e w' => e = .returned (.int .i64 ((n + 239) / 240 : Nat)) ∧ w = w' := by
  obtain ⟨q, hq⟩ : ∃ q, (n + 239) / 240 = q := ⟨_, rfl⟩
  rw [hq]
  go_enter Tryz.func98, Tryz.ntmps98
  go_wp2
  go_loopw [0, 5] (fun a r wr => ∃ (z : Int) (k : Nat), a = .int .i64 z ∧ r = .int .i64 k ∧ z + 240 * (k : Int) = (n : Int) ∧ -240 < z ∧ w = wr) (fun a _ _ => (intOf a + 240).toNat)
  case atStart => exact ⟨n, 0, rfl, rfl, by omega, by omega, rfl⟩
  case round =>
    obtain ⟨z, k, rfl, rfl, h1, h2, rfl⟩ := hrel
    by_cases hz : 0 < z
    · have hz2 : z ≤ 16384 := by omega
      have hk2 : (k : Int) ≤ 16384 := by omega
      go_wp2
      go_roundw
      case rel => exact ⟨z - 240, k + 1, rfl, by go_num, by omega, by omega, by first | rfl | trivial⟩
      case measure => simp [intOf]; omega
    · obtain rfl : k = q := by omega
      go_wp2
      go_ret
      exact ⟨rfl, rfl⟩
set_option maxRecDepth 100000 in
theorem rcut_60 (n : Nat) (hn : n ≤ 16384) (w : World) :
    Calls Tryz.prog 98 #[.int .i64 n, .int .i64 60] w fun e w' => e = .returned (.int .i64 ((n + 59) / 60 : Nat)) ∧ w = w' := by
  obtain ⟨q, hq⟩ : ∃ q, (n + 59) / 60 = q := ⟨_, rfl⟩
  rw [hq]
  go_enter Tryz.func98, Tryz.ntmps98
  go_wp2
  go_loopw [0, 5] (fun a r wr => ∃ (z : Int) (k : Nat), a = .int .i64 z ∧ r = .int .i64 k ∧ z + 60 * (k : Int) = (n : Int) ∧ -60 < z ∧ w = wr) (fun a _ _ => (intOf a + 60).toNat)
  case atStart => exact ⟨n, 0, rfl, rfl, by omega, by omega, rfl⟩
  case round =>
    obtain ⟨z, k, rfl, rfl, h1, h2, rfl⟩ := hrel
    by_cases hz : 0 < z
    · have hz2 : z ≤ 16384 := by omega
      have hk2 : (k : Int) ≤ 16384 := by omega
      go_wp2
      go_roundw
      case rel => exact ⟨z - 60, k + 1, rfl, by go_num, by omega, by omega, by first | rfl | trivial⟩
      case measure => simp [intOf]; omega
    · obtain rfl : k = q := by omega
      go_wp2
      go_ret
      exact ⟨rfl, rfl⟩
set_option maxRecDepth 100000 in
set_option maxHeartbeats 2000000 in
theorem rrows_any (n : Nat) (hn : n ≤ 16384) (w : World) :
    Calls Tryz.prog 66 #[.int .i64 n] w fun e w' => ∃ v, e = .returned v ∧ w'.ownsRow w.heap.size 3 1 v (rowsL n).length (ints (rowsL n)) ∧ Below w.heap.size w w' := by
  obtain ⟨i0, hi, hz0, hz1, hz2⟩ := info_parts info3
  obtain ⟨hs0, hs1, hs2⟩ := rows_steps hn
  have C1 := fun w => rcut_240 n hn w
  have C2 := fun (y : Nat) (hy : y ≤ 16384) w => rcut_60 y hy w
  generalize rowsL n = L at *
  have HS2 := Lib.hid hs2
  have HS0 := Lib.hid hs0
  obtain ⟨y0, hy0⟩ : ∃ y0, (n + 239) / 240 = y0 := ⟨_, rfl⟩
  rw [hy0] at C1 hs0
  have hst : (L = [] ∧ y0 = 0) ∨ ∃ h : 0 < L.length, L[0] = y0 := hs0
  have HSt := Lib.hid hst
  clear hs2 hs0 hst HS0 hy0
  go_enter Tryz.func66, Tryz.ntmps66
  go_wp2_with fail
  refine (C1 _).mono ?_
  rintro e w' ⟨rfl, rfl⟩
  have hrow0 : (w.alloc (.cells #[] 3)).ownsRow w.heap.size 3 1 (.slice (some ⟨w.heap.size, 0, none⟩) 0 0) 0 [] := World.ownsRow_made w #[] 0 (Nat.le_refl _) (by unfold maxLen; omega) (by simp)
  clear C1
  go_wp2
  go_loopw [3, 4] (fun v m wr => ∃ i y : Nat, m = .int .i64 y ∧ Hid ((L = [] ∧ y = 0 ∧ i = 0) ∨ ∃ h : i < L.length, L[i] = y) ∧ wr.ownsRow w.heap.size 3 1 v i (ints (L.take i)) ∧ Hid (Below w.heap.size w wr)) (fun _ m _ => (intOf m).toNat)
  case atStart => exact ⟨0, y0, rfl, Lib.hid (by rcases HSt.out with ⟨h1, h2⟩ | h1; exact .inl ⟨h1, h2, rfl⟩; exact .inr h1), hrow0, Lib.hid ((Below.refl _ w).alloc (Nat.le_refl _) _)⟩
  case round =>
    obtain ⟨i, y, rfl, HY, hrow, HB⟩ := hrel
    rcases HY.out with ⟨hL, hy, hi0⟩ | ⟨hiL, hy⟩
    · subst hL hy hi0
      go_wp2
      go_ret
      exact ⟨_, rfl, hrow, HB.out⟩
    · obtain ⟨b1, b2, b3, b4⟩ := HS2.out i hiL
      rw [hy] at b1 b2 b3 b4
      have hyI : (0 : Int) < (y : Int) := by omega
      have hszW : w.heap.size ≤ wr.heap.size := HB.out.size
      have HT := Lib.hid (show ints (L.take (i + 1)) = ints (L.take i) ++ [.int .i64 (y : Int)] by rw [List.take_succ_eq_append_getElem hiL, hy]; unfold ints; rw [List.map_append]; rfl)
      have hi3 : i ≤ 3 := by omega
      by_cases hy1 : y = 1
      · have hlen := Lib.hid (b3 hy1)
        subst hy1
        clear b1 b2 b3 b4
        go_wp2_with (at_builtin; refine wpList_append_own _ rfl _ _ 34 rfl w.heap.size 3 i0 (.int .i64 0) 1 8 Tryz.underlying34 hi hz0 hz1 hz2 rfl (by decide) _ _ _ rfl (hrow.alloc _) ⟨wr.heap.size, 0, none⟩ 1 1 [.int .i64 1] rfl rfl (cell_one_new _ _ _) (by simp [Value.oneCell']) (by unfold maxLen; omega) (by omega) (by simp; omega) ?_; intro v' w1 hown' hgrow hnl)
        have hB1 : Below w.heap.size w w1 := (HB.out.alloc hszW _).grown hgrow (by simp; omega) (fun j ej => (hrow.lt j ej).1)
        clear hnl
        have HBB := Lib.hid hB1
        have hr : w1.ownsRow w.heap.size 3 1 v' L.length (ints L) := by
          have e1 := HT.out
          rw [List.take_of_length_le (by rw [hlen.out]; exact Nat.le_refl _)] at e1
          rw [← hlen.out, e1]
          exact hown'
        have HR := Lib.hid hr
        clear hr hB1 hown'
        go_wp2
        go_ret
        exact ⟨_, rfl, HR.out, HBB.out⟩
      · obtain ⟨hi1, hnx⟩ := b4 hy1
        have hyne : ((y : Int) == 1) = false := by simp; omega
        have HNx := Lib.hid hnx
        have CC := C2 y (by omega)
        clear b1 b3 b4 hnx
        go_wp2_with (first
          | (at_builtin; refine wpList_append_own _ rfl _ _ 34 rfl w.heap.size 3 i0 (.int .i64 0) 1 8 Tryz.underlying34 hi hz0 hz1 hz2 rfl (by decide) _ _ _ rfl (hrow.alloc _) ⟨wr.heap.size, 0, none⟩ 1 1 [.int .i64 (y : Int)] rfl rfl (cell_one_new _ _ _) (by simp [Value.oneCell']) (by unfold maxLen; omega) (by omega) (by simp; omega) ?_; intro v' w1 hown' hgrow hnl)
          | (go_at_call 98; refine (CC _).mono ?_; rintro e w' ⟨rfl, rfl⟩))
        have hB1 : Below w.heap.size w w1 := (HB.out.alloc hszW _).grown hgrow (by simp; omega) (fun j ej => (hrow.lt j ej).1)
        go_roundw
        case rel => exact ⟨i + 1, (y + 59) / 60, rfl, Lib.hid (.inr ⟨hi1, HNx.out⟩), by rw [HT.out]; exact hown', Lib.hid hB1⟩
        case measure => simp [intOf]; omega
end Go.Proofs.YtmloljjllmmkoaaGreat

