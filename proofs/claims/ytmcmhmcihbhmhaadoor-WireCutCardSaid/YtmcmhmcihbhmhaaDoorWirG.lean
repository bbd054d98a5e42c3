/-
  Num, Text and Nums: the bytes.
-/
import Derived.Test.YtmcmhmcihbhmhaaDoorWirL
import Derived.Deep.QuietTactic
import Derived.BigRegion
namespace Go.Proofs.YtmcmhmcihbhmhaaDoor
open Go.RowKit Go

/-- a number that has no bytes -/
def bad (n : Int) : Bool := decide (n < 0) || decide (4611686018427387903 < n)
theorem isNone_any (n : Int) (w : World) :
    Calls Tryd.prog 28 #[.int .i64 n] w fun v w' => v = .returned (.bool (bad n)) ∧ w = w' := by
  by_cases h : n < 0
  · have HX := Lib.hid (show bad n = true by simp [bad, h])
    go_enter Tryd.func28, Tryd.ntmps28
    go_wp2
    go_ret
    exact ⟨by rw [HX.out]; rfl, rfl⟩
  · have HX := Lib.hid (show bad n = decide (4611686018427387903 < n) by simp [bad, h])
    go_enter Tryd.func28, Tryd.ntmps28
    go_wp2
    go_ret
    exact ⟨by rw [HX.out]; rfl, rfl⟩
theorem good_of {n : Int} (h : bad n = false) : 0 ≤ n ∧ n ≤ 4611686018427387903 := by
  simp [bad] at h; omega
theorem bad_of {n : Int} (h : bad n = true) : ¬ (0 ≤ n ∧ n ≤ 4611686018427387903) := by
  simp [bad] at h; omega

def numW (n : Int) : Value := if bad n then .tuple #[.string ⟨#[]⟩, .int .i64 31] else .tuple #[.string (bs (dg n.toNat)), .int .i64 0]
def textW (l : List UInt8) : Value := if l.length ≤ 65536 then .tuple #[.string (bs (dg l.length ++ l)), .int .i64 0] else .tuple #[.string ⟨#[]⟩, .int .i64 31]
def numsW (zs : List Int) : Value := if zs.length ≤ 65536 ∧ zs.any bad = false then .tuple #[.string (bs (dg zs.length ++ layL (zs.map Int.toNat))), .int .i64 0] else .tuple #[.string ⟨#[]⟩, .int .i64 31]

theorem ints_one (w : World) (n : Nat) (t : TypeId) : IntsAt (w.alloc (.cells #[.int .i64 (n : Int)] t)) (.slice (some ⟨w.heap.size, 0, none⟩) 1 1) ([n].map fun n : Nat => (n : Int)) := by
  refine IntsAt.at w.heap.size 0 1 rfl (by simp) fun j hj => ?_
  obtain rfl : j = 0 := by simpa using hj
  simp

theorem lay_one (n : Nat) (hn : n ≤ 9223372036854775807) (w : World) (t : TypeId) :
    Calls Tryd.prog 29 #[.slice (some ⟨w.heap.size, 0, none⟩) 1 1] (w.alloc (.cells #[.int .i64 (n : Int)] t)) fun e w' => e = .returned (.string (bs (dg n))) ∧ Below w.heap.size w w' := by
  refine (lay_any _ [n] (by simp) (by simpa using hn) _ (ints_one w n t)).mono ?_
  rintro e w' ⟨rfl, hB⟩
  rw [layL_one]
  exact ⟨rfl, ((Below.refl _ w).alloc (Nat.le_refl _) _).trans (hB.mono (by simp))⟩

set_option maxRecDepth 100000 in
theorem wnum_any (n : Int) (w : World) :
    Calls Tryd.prog 11 #[.int .i64 n] w fun e w' => e = .returned (numW n) ∧ Below w.heap.size w w' := by
  unfold numW
  cases hb : bad n with
  | true =>
    have C := fun w => isNone_any n w
    rw [hb] at C
    go_enter Tryd.func11, Tryd.ntmps11
    go_wp2_with fail
    refine (C _).mono ?_
    rintro e w' ⟨rfl, rfl⟩
    go_wp2
    go_ret2
    exact ⟨rfl, Below.refl _ _⟩
  | false =>
    have C := fun w => isNone_any n w
    obtain ⟨h1, h2⟩ := good_of hb
    rw [hb] at C
    obtain ⟨m, rfl⟩ := Int.eq_ofNat_of_zero_le h1
    have C2 := fun w => lay_one m (by omega) w 3
    clear hb h1 h2
    go_enter Tryd.func11, Tryd.ntmps11
    go_wp2_with fail
    refine (C _).mono ?_
    rintro e w' ⟨rfl, rfl⟩
    go_wp2_with fail
    refine (C2 _).mono ?_
    rintro e w' ⟨rfl, hB⟩
    go_wp2
    go_ret2
    exact ⟨rfl, hB⟩

set_option maxRecDepth 100000 in
theorem wtext_any (s : ByteArray) (hs : s.size ≤ 281474976710656) (w : World) :
    Calls Tryd.prog 13 #[.string s] w fun e w' => e = .returned (textW s.data.toList) ∧ Below w.heap.size w w' := by
  unfold textW
  have hl : s.data.toList.length = s.size := by simp
  rw [hl]
  clear hl
  by_cases h : s.size ≤ 65536
  · rw [if_pos h]
    have h1 : (s.size : Int) ≤ 65536 := by omega
    have C2 := fun w => lay_one s.size (by omega) w 3
    have HE := Lib.hid (show bs (dg s.size ++ s.data.toList) = bs (dg s.size) ++ s by rw [bs_append]; rfl)
    have hd := dg_9 (n := s.size) (by omega)
    have hbz : (bs (dg s.size)).size ≤ 9 := by rw [bs_size]; exact hd
    generalize dg s.size = d at *
    have nsum : ¬ 9223372036854775807 < (bs d).size + s.size := by omega
    clear hd
    generalize bs d = D at *
    go_enter Tryd.func13, Tryd.ntmps13
    go_wp2_with fail
    refine (C2 _).mono ?_
    rintro e w' ⟨rfl, hB⟩
    go_wp2
    go_ret2
    exact ⟨by rw [HE.out]; rfl, hB⟩
  · rw [if_neg h]
    have h1 : (65536 : Int) < (s.size : Int) := by omega
    clear h
    go_enter Tryd.func13, Tryd.ntmps13
    go_wp2
    go_ret2
    exact ⟨rfl, Below.refl _ _⟩

set_option maxRecDepth 100000 in
set_option maxHeartbeats 1000000 in
/-- the first number without bytes -/
theorem index_any (v : Value) (zs : List Int) (hz : zs.length ≤ 281474976710656) (w : World) (h : IntsAt w v zs) :
    Calls Tryd.prog 36 #[v, .func (.func 28) #[] #[]] w fun e w' => (∃ i : Int, e = .returned (.int .i64 i) ∧ decide (0 ≤ i) = zs.any bad) ∧ w = w' := by
  obtain ⟨a, cap, rfl, ha⟩ := h.split
  have HA := Lib.hid ha
  clear ha h
  go_enter Tryd.func36, Tryd.ntmps36
  go_wp2
  go_loop [8] (fun i => ∃ k : Nat, k ≤ zs.length ∧ i = .int .i64 k ∧ (zs.take k).any bad = false) (fun i => zs.length - (intOf i).toNat)
  case atStart => exact ⟨0, Nat.zero_le _, rfl, rfl⟩
  case round =>
    obtain ⟨k, hk, rfl, hno⟩ := hrel
    have HN := Lib.hid hno
    clear hno
    by_cases hlt : k < zs.length
    · obtain ⟨b, off, rfl, hb, hc⟩ := HA.out (by intro e; rw [e] at hlt; exact absurd hlt (by simp))
      have hcell := hc k hlt
      have hk1 : (k : Int) < (zs.length : Int) := by omega
      have HS := Lib.hid (show (zs.take (k + 1)).any bad = bad zs[k] by
        rw [List.take_succ_eq_append_getElem hlt, List.any_append, HN.out]; simp)
      have HM := Lib.hid (List.getElem_mem hlt)
      generalize zs[k] = z at *
      clear hc
      have C := fun w => isNone_any z w
      cases hbz : bad z with
      | true =>
        rw [hbz] at C
        have HX := Lib.hid (show zs.any bad = true from List.any_eq_true.2 ⟨z, HM.out, hbz⟩)
        clear hbz
        go_wp2_with fail
        refine (C _).mono ?_
        rintro e w' ⟨rfl, rfl⟩
        go_wp2
        go_ret
        exact ⟨⟨(k : Int), rfl, by rw [HX.out]; simp⟩, rfl⟩
      | false =>
        rw [hbz] at C HS
        clear hbz
        go_wp2_with fail
        refine (C _).mono ?_
        rintro e w' ⟨rfl, rfl⟩
        go_wp2
        go_round
        case rel => exact ⟨k + 1, by omega, by go_num, HS.out⟩
        case measure => simp [intOf]; omega
    · obtain rfl : k = zs.length := by omega
      have HX := Lib.hid (show zs.any bad = false by have := HN.out; rwa [List.take_length] at this)
      go_wp2
      go_ret
      exact ⟨⟨-1, rfl, by rw [HX.out]; rfl⟩, rfl⟩

theorem contains_any (v : Value) (zs : List Int) (hz : zs.length ≤ 281474976710656) (w : World) (h : IntsAt w v zs) :
    Calls Tryd.prog 31 #[v, .func (.func 28) #[] #[]] w fun e w' => e = .returned (.bool (zs.any bad)) ∧ w = w' := by
  obtain ⟨a, cap, rfl, -⟩ := h.split
  have C := index_any _ zs hz w h
  go_enter Tryd.func31, Tryd.ntmps31
  go_wp2_with fail
  refine C.mono ?_
  rintro e w' ⟨⟨i, rfl, hi⟩, rfl⟩
  have HI := Lib.hid hi
  clear hi
  go_wp2
  go_ret
  exact ⟨by rw [← HI.out]; rfl, rfl⟩

theorem nums_toNat {zs : List Int} (h : zs.any bad = false) : (zs.map Int.toNat).map (fun n : Nat => (n : Int)) = zs ∧ ∀ n ∈ zs.map Int.toNat, n ≤ 9223372036854775807 := by
  have hg : ∀ z ∈ zs, bad z = false := fun z hz => by
    cases hb : bad z with
    | false => rfl
    | true => rw [List.any_eq_true.2 ⟨z, hz, hb⟩] at h; cases h
  constructor
  · rw [List.map_map]
    conv => rhs; rw [← List.map_id zs]
    refine List.map_congr_left fun z hz => ?_
    have := good_of (hg z hz)
    simp only [Function.comp, id]; omega
  · intro n hn
    obtain ⟨z, hz, rfl⟩ := List.mem_map.1 hn
    have := good_of (hg z hz)
    omega

set_option maxRecDepth 100000 in
set_option maxHeartbeats 1000000 in
theorem wnums_any (v : Value) (zs : List Int) (hz : zs.length ≤ 281474976710656) (w : World) (h : IntsAt w v zs) :
    Calls Tryd.prog 15 #[v] w fun e w' => e = .returned (numsW zs) ∧ Below w.heap.size w w' := by
  obtain ⟨a, cap, rfl, -⟩ := h.split
  have C := contains_any _ zs hz w h
  unfold numsW
  by_cases hl : zs.length ≤ 65536
  · have hl1 : (zs.length : Int) ≤ 65536 := by omega
    cases hb : zs.any bad with
    | true =>
      rw [hb] at C
      rw [if_neg (fun e => by cases e.2)]
      clear hb hl
      go_enter Tryd.func15, Tryd.ntmps15
      go_wp2_with fail
      refine C.mono ?_
      rintro e w' ⟨rfl, rfl⟩
      go_wp2
      go_ret2
      exact ⟨rfl, Below.refl _ _⟩
    | false =>
      rw [hb] at C
      rw [if_pos ⟨hl, rfl⟩]
      obtain ⟨e1, e2⟩ := nums_toNat hb
      have hlm : (zs.map Int.toNat).length = zs.length := List.length_map _
      have C2 := lay_one zs.length (by omega) w 3
      have hd := dg_9 (n := zs.length) (by omega)
      have hL := layL_len (zs.map Int.toNat) e2
      have HE := Lib.hid (show bs (dg zs.length ++ layL (zs.map Int.toNat)) = bs (dg zs.length) ++ bs (layL (zs.map Int.toNat)) from bs_append _ _)
      have C3 : ∀ w', Below w.heap.size w w' → Calls Tryd.prog 29 #[.slice a zs.length cap] w' fun e w2 => e = .returned (.string (bs (layL (zs.map Int.toNat)))) ∧ Below w'.heap.size w' w2 := fun w' hB =>
        lay_any _ (zs.map Int.toNat) (by omega) e2 w' (by rw [e1]; exact h.later hB)
      have hz1 : (bs (dg zs.length)).size ≤ 9 := by rw [bs_size]; exact hd
      have hz2 : (bs (layL (zs.map Int.toNat))).size ≤ 589824 := by rw [bs_size]; omega
      have nsum : ¬ 9223372036854775807 < (bs (dg zs.length)).size + (bs (layL (zs.map Int.toNat))).size := by omega
      clear e1 e2 hlm hd hL hb hl
      generalize dg zs.length ++ layL (zs.map Int.toNat) = DL at *
      generalize bs (dg zs.length) = D at *
      generalize bs (layL (zs.map Int.toNat)) = L at *
      go_enter Tryd.func15, Tryd.ntmps15
      go_wp2_with fail
      refine C.mono ?_
      rintro e w' ⟨rfl, rfl⟩
      go_wp2_with fail
      refine C2.mono ?_
      rintro e w2 ⟨rfl, hB⟩
      go_wp2_with fail
      refine (C3 w2 hB).mono ?_
      rintro e w3 ⟨rfl, hB2⟩
      go_wp2
      go_ret2
      exact ⟨by rw [HE.out]; rfl, hB.trans (hB2.mono hB.size)⟩
  · have hl1 : (65536 : Int) < (zs.length : Int) := by omega
    rw [if_neg (fun e => hl e.1)]
    clear hl C
    go_enter Tryd.func15, Tryd.ntmps15
    go_wp2
    go_ret2
    exact ⟨rfl, Below.refl _ _⟩
end Go.Proofs.YtmcmhmcihbhmhaaDoor
