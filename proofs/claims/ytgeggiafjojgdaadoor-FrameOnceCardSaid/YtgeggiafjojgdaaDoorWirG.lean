/-
  Num, Text and Nums: the bytes.
-/
import Derived.Test.YtgeggiafjojgdaaDoorWirL
import Derived.Deep.QuietTactic
import Derived.BigRegion
namespace Go.Proofs.YtgeggiafjojgdaaDoor
open Go.RowKit Go

/-- a number that has no bytes -/
def bad (n : Int) : Bool := decide (n < 0) || decide (4611686018427387903 < n)
theorem isNone_any (n : Int) (w : World) :
    Calls Tryd.prog 36 #[.int .i64 n] w fun v w' => v = .returned (.bool (bad n)) ∧ w = w' := by
  by_cases h : n < 0
  · have HX := Lib.hid (show bad n = true by simp [bad, h])
    go_enter Tryd.func36, Tryd.ntmps36
    go_wp2
    go_ret
    exact ⟨by rw [HX.out]; rfl, rfl⟩
  · have HX := Lib.hid (show bad n = decide (4611686018427387903 < n) by simp [bad, h])
    go_enter Tryd.func36, Tryd.ntmps36
    go_wp2
    go_ret
    exact ⟨by rw [HX.out]; rfl, rfl⟩
theorem good_of {n : Int} (h : bad n = false) : 0 ≤ n ∧ n ≤ 4611686018427387903 := by
  simp [bad] at h; omega
theorem bad_of {n : Int} (h : bad n = true) : ¬ (0 ≤ n ∧ n ≤ 4611686018427387903) := by
  simp [bad] at h; omega

def numW (n : Int) : Value := if bad n then .tuple #[.string ⟨#[]⟩, .int .i64 31] else .tuple #[.string (bs (dg n.toNat)), .int .i64 0]
def textW (l : List UInt8) : Value := if l.length ≤ 65536 then .tuple #[.string (bs (dg l.length ++ l)), .int .i64 0] else .tuple #[.string ⟨#[]⟩, .int .i64 31]
def numsW (zs : List Int) : Value := if zs.length ≤ 65536 ∧ zs.any bad = false then .tuple #[.string (bs (dg zs.length ++ layL (zs.map Int.toNat))), .int .i64 0] else .tuple #[.string ⟨#[]⟩, .int .i64 31]

theorem ints_one (w : World) (n : Nat) (t : TypeId) : IntsAt (w.alloc (.cells #[.int .i64 (n : Int)] t)) (.slice (some ⟨w.heap.size, 0, none⟩) 1 1) ([n].map fun n : Nat => (n : Int)) := by
  refine IntsAt.at w.heap.size 0 1 rfl (by simp) fun j hj => ?_
  obtain rfl : j = 0 := by simpa using hj
  simp

theorem lay_one (n : Nat) (hn : n ≤ 9223372036854775807) (w : World) (t : TypeId) :
    Calls Tryd.prog 37 #[.slice (some ⟨w.heap.size, 0, none⟩) 1 1] (w.alloc (.cells #[.int .i64 (n : Int)] t)) fun e w' => e = .returned (.string (bs (dg n))) ∧ Below w.heap.size w w' := by
  refine (lay_any _ [n] (by simp) (by simpa using hn) _ (ints_one w n t)).mono ?_
  rintro e w' ⟨rfl, hB⟩
  rw [layL_one]
  exact ⟨rfl, ((Below.refl _ w).alloc (Nat.le_refl _) _).trans (hB.mono (by simp))⟩

set_option maxRecDepth 100000 in
theorem wnum_any (n : Int) (w : World) :
    Calls Tryd.prog 24 #[.int .i64 n] w fun e w' => e = .returned (numW n) ∧ Below w.heap.size w w' := by
  unfold numW
  cases hb : bad n with
  | true =>
    have C := fun w => isNone_any n w
    rw [hb] at C
    go_enter Tryd.func24, Tryd.ntmps24
    go_wp2_with fail
    refine (C _).mono ?_
    rintro e w' ⟨rfl, rfl⟩
    go_wp2
    go_ret2
    exact ⟨rfl, Below.refl _ _⟩
  | false =>
    have C := fun w => isNone_any n w
    obtain ⟨h1, h2⟩ := good_of hb
    rw [hb] at C
    obtain ⟨m, rfl⟩ := Int.eq_ofNat_of_zero_le h1
    have C2 := fun w => lay_one m (by omega) w 3
    clear hb h1 h2
    go_enter Tryd.func24, Tryd.ntmps24
    go_wp2_with fail
    refine (C _).mono ?_
    rintro e w' ⟨rfl, rfl⟩
    go_wp2_with fail
    refine (C2 _).mono ?_
    rintro e w' ⟨rfl, hB⟩
    go_wp2
    go_ret2
    exact ⟨rfl, hB⟩

set_option maxRecDepth 100000 in
theorem wtext_any (s : ByteArray) (hs : s.size ≤ 281474976710656) (w : World) :
    Calls Tryd.prog 25 #[.string s] w fun e w' => e = .returned (textW s.data.toList) ∧ Below w.heap.size w w' := by
  unfold textW
  have hl : s.data.toList.length = s.size := by simp
  rw [hl]
  clear hl
  by_cases h : s.size ≤ 65536
  · rw [if_pos h]
    have h1 : (s.size : Int) ≤ 65536 := by omega
    have C2 := fun w => lay_one s.size (by omega) w 3
    have HE := Lib.hid (show bs (dg s.size ++ s.data.toList) = bs (dg s.size) ++ s by rw [bs_append]; rfl)
    have hd := dg_9 (n := s.size) (by omega)
    have hbz : (bs (dg s.size)).size ≤ 9 := by rw [bs_size]; exact hd
    generalize dg s.size = d at *
    have nsum : ¬ 9223372036854775807 < (bs d).size + s.size := by omega
    clear hd
    generalize bs d = D at *
    go_enter Tryd.func25, Tryd.ntmps25
    go_wp2_with fail
    refine (C2 _).mono ?_
    rintro e w' ⟨rfl, hB⟩
    go_wp2
    go_ret2
    exact ⟨by rw [HE.out]; rfl, hB⟩
  · rw [if_neg h]
    have h1 : (65536 : Int) < (s.size : Int) := by omega
    clear h
    go_enter Tryd.func25, Tryd.ntmps25
    go_wp2
    go_ret2
    exact ⟨rfl, Below.refl _ _⟩

theorem nums_toNat {zs : List Int} (h : zs.any bad = false) : (zs.map Int.toNat).map (fun n : Nat => (n : Int)) = zs ∧ ∀ n ∈ zs.map Int.toNat, n ≤ 9223372036854775807 := by
  have hg : ∀ z ∈ zs, bad z = false := fun z hz => by
    cases hb : bad z with
    | false => rfl
    | true => rw [List.any_eq_true.2 ⟨z, hz, hb⟩] at h; cases h
  constructor
  · rw [List.map_map]
    conv => rhs; rw [← List.map_id zs]
    refine List.map_congr_left fun z hz => ?_
    have := good_of (hg z hz)
    simp only [Function.comp, id]; omega
  · intro n hn
    obtain ⟨z, hz, rfl⟩ := List.mem_map.1 hn
    have := good_of (hg z hz)
    omega

end Go.Proofs.YtgeggiafjojgdaaDoor

