/-
  The calls whose answers the document fixes.
-/
import Derived.Test.YtmcmhmcihbhmhaaDoorWirF
import Derived.Test.YtmcmhmcihbhmhaaDoorWirG
namespace Go.Proofs.YtmcmhmcihbhmhaaDoor
open Go.RowKit Go

theorem numW_300 : numW 300 = .tuple #[.string ⟨#[172, 2]⟩, .int .i64 0] := by
  have e : dg 300 = [172, 2] := by rw [dg_ge (by decide), dg_lt (by decide)]; rfl
  show (if bad 300 then _ else Value.tuple #[.string (bs (dg 300)), .int .i64 0]) = _
  rw [e]; rfl
theorem numW_neg : numW (-1) = .tuple #[.string ⟨#[]⟩, .int .i64 31] := rfl
theorem textW_ab : textW [97, 98] = .tuple #[.string ⟨#[2, 97, 98]⟩, .int .i64 0] := by
  have e : dg 2 = [2] := by rw [dg_lt (by decide)]; rfl
  show (if 2 ≤ 65536 then Value.tuple #[.string (bs (dg 2 ++ [97, 98])), .int .i64 0] else _) = _
  rw [e]; rfl
theorem numsW_12 : numsW [1, 2] = .tuple #[.string ⟨#[2, 1, 2]⟩, .int .i64 0] := by
  have e : dg 2 = [2] := by rw [dg_lt (by decide)]; rfl
  have e2 : layL [1, 2] = [1, 2] := by
    have e1 : dg 1 = [1] := by rw [dg_lt (by decide)]; rfl
    simp [layL, e, e1]
  show (if 2 ≤ 65536 ∧ _ then Value.tuple #[.string (bs (dg 2 ++ layL [1, 2])), .int .i64 0] else _) = _
  rw [e, e2]; rfl
theorem numR_f1 : numR ⟨[172, 2], 0⟩ 1000 = (300, ⟨[], 0⟩) := rfl
theorem numR_f2 : numR ⟨[128, 0], 0⟩ 1000 = (0, ⟨[128, 0], 30⟩) := rfl

set_option maxRecDepth 100000 in
set_option maxHeartbeats 2000000 in
theorem fixed_any (w : World) (hg : GE w) :
    Calls Tryd.prog 17 #[] w fun e w' => e = .returned (.bool true) ∧ Below w.heap.size w w' := by
  have C1 := fun w => wnum_any 300 w
  rw [numW_300] at C1
  have C2 := fun w => wtext_any ⟨#[97, 98]⟩ (by decide) w
  rw [show (⟨#[97, 98]⟩ : ByteArray).data.toList = [97, 98] from rfl, textW_ab] at C2
  have C3 := fun w => wnum_any (-1) w
  rw [numW_neg] at C3
  have C4 : ∀ w : World, Calls Tryd.prog 15 #[.slice (some ⟨w.heap.size, 0, none⟩) 2 2] (w.alloc (.cells #[.int .i64 1, .int .i64 2] 3)) fun e w' => e = .returned (.tuple #[.string ⟨#[2, 1, 2]⟩, .int .i64 0]) ∧ Below w.heap.size w w' := fun w => by
    refine (wnums_any _ [1, 2] (by decide) _ (IntsAt.at w.heap.size 0 2 rfl (by simp) fun j hj => ?_)).mono ?_
    · match j, hj with
      | 0, _ => simp
      | 1, _ => simp
      | j + 2, h => exact absurd h (by simp)
    · rintro e w' ⟨rfl, hB⟩
      rw [numsW_12]
      exact ⟨rfl, ((Below.refl _ w).alloc (Nat.le_refl _) _).trans (hB.mono (by simp))⟩
  go_enter Tryd.func17, Tryd.ntmps17
  go_wp2_with fail
  refine (C1 _).mono ?_
  rintro e w1 ⟨rfl, B1⟩
  go_wp2_with fail
  refine (C2 _).mono ?_
  rintro e w2 ⟨rfl, B2'⟩
  have B2 := B1.trans (B2'.mono B1.size)
  clear B1 B2'
  go_wp2_with fail
  refine (C3 _).mono ?_
  rintro e w3 ⟨rfl, B3'⟩
  have B3 := B2.trans (B3'.mono B2.size)
  clear B2 B3'
  go_wp2_with fail
  refine (C4 _).mono ?_
  rintro e w4 ⟨rfl, B4'⟩
  have B4 := B3.trans (B4'.mono B3.size)
  clear B3 B4'
  go_wp2_with fail
  refine (rnew_any ⟨#[172, 2]⟩ _).mono ?_
  rintro e w5 ⟨br, rfl, hbr, H5, B5'⟩
  have B5 := B4.trans (B5'.mono B4.size)
  have hbr' : w.heap.size ≤ br := Nat.le_trans B4.size hbr
  clear B4 B5' hbr
  go_wp2_with fail
  refine (rnew_any ⟨#[128, 0]⟩ _).mono ?_
  rintro e w6 ⟨bq, rfl, hbq, H6, B6'⟩
  have B6 := B5.trans (B6'.mono B5.size)
  have hlt := lt_of_heap H5
  have H5' := keeps_of B6' H5
  have hg6 := hg.below B6
  have h0 := hg.lt
  have hne : br ≠ bq := by omega
  have hbr0 : br ≠ 0 := by omega
  have hbq0 : bq ≠ 0 := by omega
  have hbq' : w.heap.size ≤ bq := by have := B5.size; omega
  clear B5 B6' hbq H5 hlt
  go_wp2_with fail
  refine (qnum_is hbr0 numR_f1 rfl (by decide) _ hg6 H5').mono ?_
  rintro e w7 ⟨rfl, M7⟩
  have H7 := M7.here
  have H7q := M7.other H6 (Ne.symm hne)
  have hg7 := hg6.moved M7 hbr0
  have B7 := B6.trans (M7.below hbr' B6.size)
  clear M7 B6 hg6 H5' H6
  go_wp2_with fail
  refine (qnum_is hbq0 numR_f2 rfl (by decide) _ hg7 H7q).mono ?_
  rintro e w8 ⟨rfl, M8⟩
  have H8 := M8.here
  have H8r := M8.other H7 hne
  have hg8 := hg7.moved M8 hbq0
  have B8 := B7.trans (M8.below hbq' B7.size)
  clear M8 B7 hg7 H7 H7q
  go_wp2_with fail
  refine (qend_is (r := ⟨[], 0⟩) rfl _ hg8 H8r).mono ?_
  rintro e w9 ⟨rfl, B9'⟩
  have H9 := keeps_of B9' H8
  have hg9 := hg8.below B9'
  have B9 := B8.trans (B9'.mono B8.size)
  clear B8 B9' H8 H8r hg8
  go_wp2_with fail
  refine (qend_is (r := ⟨[128, 0], 30⟩) rfl _ hg9 H9).mono ?_
  rintro e w10 ⟨rfl, B10'⟩
  have B10 := B9.trans (B10'.mono B9.size)
  clear B9 B10' H9 hg9
  go_wp2_with fail
  go_ret
  exact ⟨rfl, B10⟩
end Go.Proofs.YtmcmhmcihbhmhaaDoor
