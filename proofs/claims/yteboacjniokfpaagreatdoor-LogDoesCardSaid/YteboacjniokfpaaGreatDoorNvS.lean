/-
  The reference's logs: a number read back, a half's sectors, the records' bytes, how many bytes more.
-/
import Derived.Deep.RegionLaw
import Derived.Test.YteboacjniokfpaaGreatDoorNvM
import Derived.Deep.RegionHeld3
namespace Go.Proofs.YteboacjniokfpaaGreatDoor
open Go.RowKit Go Go.Maps SM

theorem valN_drop {s : ByteArray} {j : Nat} (h : j < s.size) : valN (s.data.toList.drop j) = s[j].toNat + 256 * valN (s.data.toList.drop (j + 1)) := by
  have hj : j < s.data.toList.length := by simpa using h
  rw [List.drop_eq_getElem_cons hj, valN]
  rfl
theorem valN_few {l : List UInt8} {k : Nat} (h : l.length ≤ k) : valN l < 256 ^ k := Nat.lt_of_lt_of_le (valN_lt l) (Nat.pow_le_pow_right (by decide) h)

set_option maxRecDepth 100000 in
set_option maxHeartbeats 1000000 in
theorem rval_any (s : ByteArray) (hs : s.size ≤ 7) (w : World) :
    Calls Tryz.prog 78 #[.string s] w fun e w' => e = .returned (.int .i64 (valN s.data.toList)) ∧ w = w' := by
  have hs0 : (s.size : Int) ≤ 7 := by omega
  go_enter Tryz.func78, Tryz.ntmps78
  go_wp2
  go_loopw [3, 4] (fun n i wr => ∃ k : Nat, k ≤ s.size ∧ n = .int .i64 (valN (s.data.toList.drop k)) ∧ i = .int .i64 ((k : Int) - 1) ∧ w = wr) (fun _ i _ => (intOf i + 1).toNat)
  case atStart => exact ⟨s.size, Nat.le_refl _, by rw [List.drop_of_length_le (by simp)]; rfl, by go_num, rfl⟩
  case round =>
    obtain ⟨k, hk, rfl, rfl, rfl⟩ := hrel
    rcases k with _ | j
    · have e1 : (((0 : Nat) : Int) - 1) = -1 := by omega
      rw [e1]
      simp only [List.drop_zero]
      go_wp2
      go_ret
      exact ⟨rfl, rfl⟩
    · have e1 : (((j + 1 : Nat) : Int) - 1) = (j : Int) := by omega
      rw [e1]
      have hj : j < s.size := by omega
      have HD := Lib.hid (valN_drop hj)
      have hm := valN_few (l := s.data.toList.drop (j + 1)) (k := 6) (by rw [List.length_drop]; simp; omega)
      have hb := s[j].toNat_lt
      generalize valN (s.data.toList.drop (j + 1)) = m at *
      have hj0 : (0 : Int) ≤ (j : Int) := Int.natCast_nonneg _
      have hc : wrap64 (s[j].toNat : Int) = (s[j].toNat : Int) := by unfold wrap64; omega
      go_wp2
      go_roundw
      case rel => exact ⟨j, by omega, by rw [HD.out]; generalize s[j].toNat = x at *; go_num, by go_num, trivial⟩
      case measure => simp [intOf]
theorem rhalf_any {q r n base : Nat} {u : Value} {dead : Bool} {s : DS} {zs : List Int} {v0 v2 : Value} {w0 w : World} (h : RD q r n base u dead s zs v0 v2 w0 w) (hk : s.Ok) :
    Calls Tryz.prog 59 #[.pointer (some ⟨q, 0, none⟩)] w fun e w' => e = .returned (.int .i64 (halfN s)) ∧ w = w' := by
  obtain ⟨v1, kp, hr⟩ := h.ref
  obtain ⟨a0, c00, rfl⟩ := row_shape hr.st
  have c0 := RO.c0 hr.obj
  have d0 := RLO.c0 h.obj
  have hle := hk.le
  have hpos := hk.pos
  have hh : ((halfN s : Nat) : Int) = (((s.stay.length : Nat) : Int) - 1) / 2 := by
    unfold halfN
    omega
  rw [hh]
  generalize s.stay.length = M at *
  clear hh h hr
  go_enter Tryz.func59, Tryz.ntmps59
  go_wp2
  go_ret
  exact ⟨by go_num, rfl⟩

set_option maxRecDepth 100000 in
set_option maxHeartbeats 2000000 in
theorem rbytes_any {v : Value} {l : List ByteArray} {w : World} (h : TextsAt w v l) (hl : (recB l).length ≤ 1048576) (hll : l.length ≤ 1048576) :
    Calls Tryz.prog 56 #[v] w fun e w' => e = .returned (.string (bsL (recB l))) ∧ Below w.heap.size w w' := by
  obtain ⟨a, c, rfl, ha⟩ := h
  have HA := Lib.hid ha
  have HLe := Lib.hid hl
  clear ha hl
  go_enter Tryz.func56, Tryz.ntmps56
  go_wp2
  go_loopw [3, 4] (fun t i wr => ∃ j : Nat, j ≤ l.length ∧ t = .string (bsL (recB (l.take j))) ∧ i = .int .i64 j ∧ Below w.heap.size w wr) (fun _ i _ => l.length - (intOf i).toNat)
  case atStart => exact ⟨0, Nat.zero_le _, rfl, rfl, Below.refl _ _⟩
  case round =>
    obtain ⟨j, hj, rfl, rfl, hB⟩ := hrel
    have HB := Lib.hid hB
    by_cases hlt : j < l.length
    · obtain ⟨b, off, rfl, hc⟩ := HA.out (by rintro rfl; simp at hlt)
      have c0 : wr.drew.cell? ⟨b, off + j, none⟩ = some (.string l[j]) := (hB.cell (p := ⟨b, off + j, none⟩) (lt_of_cell (hc j hlt))).trans (hc j hlt)
      have hji : (j : Int) < (l.length : Int) := by omega
      have hS : recB (l.take (j + 1)) = recB (l.take j) ++ (leN l[j].size 2 ++ l[j].data.toList) := by
        rw [List.take_succ_eq_append_getElem hlt, recB_append, recB_cons, recB_nil, List.append_nil]
      have hn : (recB (l.take j)).length + (2 + l[j].size) ≤ 1048576 := by
        have h1 : (recB (l.take (j + 1))).length ≤ (recB l).length := by
          conv => rhs; rw [← List.take_append_drop (j + 1) l, recB_append, List.length_append]
          omega
        rw [hS, List.length_append, List.length_append, length_leN, len_of] at h1
        have := HLe.out
        omega
      have HS := Lib.hid hS
      have hbk : b < wr.heap.size := Nat.lt_of_lt_of_le (lt_of_cell (hc j hlt)) hB.size
      generalize l[j] = X at *
      generalize recB (l.take j) = L at *
      have s1 : (bsL L).size ≤ 1048576 := by rw [size_bsL]; omega
      have s2 : X.size ≤ 1048576 := by omega
      have s3 : (bsL (leN X.size 2)).size = 2 := by rw [size_bsL, length_leN]
      have s4 : (bsL (leN X.size 2) ++ X).size ≤ 1048580 := by rw [ByteArray.size_append]; omega
      have HE := Lib.hid (show bsL L ++ (bsL (leN X.size 2) ++ X) = bsL (L ++ (leN X.size 2 ++ X.data.toList)) by
        apply ByteArray.ext
        simp [bsL, ByteArray.data_append])
      have q1 : ¬ 9223372036854775807 < 2 + X.size := by omega
      have q2 : ¬ 9223372036854775807 < (bsL L).size + (2 + X.size) := by omega
      have CN := fun w => rnum_any X.size 2 (by omega) (by omega) w
      have HBd := Lib.hid (show Below w.heap.size w wr.drew from hB.drew)
      clear hc hS hB
      go_wp2_with fail
      go_region_law (first
          | (go_simp; go_at_call 117; refine (CN _).mono ?_; rintro e w4 ⟨rfl, hB4⟩; have c1 := (hB4.cell (p := ⟨b, off + j, none⟩) (lt_of_cell c0)).trans c0; have HB4 := Lib.hid (HBd.out.trans (hB4.mono HBd.out.size)); clear hB4))
      all_goals (
        go_wp2_with fail
        go_roundw
        case rel => exact ⟨j + 1, by omega, by rw [HS.out, ← HE.out], by go_num, HB4.out⟩
        case measure => simp [intOf]; omega)
    · have hji : ¬ (j : Int) < (l.length : Int) := by omega
      obtain rfl : j = l.length := by omega
      rw [List.take_length]
      clear hB
      go_wp2
      go_ret
      exact ⟨rfl, HB.out⟩
theorem TextsAt.later {W W' : World} {v : Value} {l : List ByteArray} (h : TextsAt W v l) (hB : Below W.heap.size W W') : TextsAt W' v l := by
  obtain ⟨a, c, e, ha⟩ := h
  refine ⟨a, c, e, fun hne => ?_⟩
  obtain ⟨b, off, e2, hc⟩ := ha hne
  exact ⟨b, off, e2, fun j hj => (hB.cell (p := ⟨b, off + j, none⟩) (lt_of_cell (hc j hj))).trans (hc j hj)⟩
set_option maxRecDepth 100000 in
set_option maxHeartbeats 1000000 in
theorem rroom_any {q r n base : Nat} {u : Value} {dead : Bool} {s : DS} {zs : List Int} {v0 v2 : Value} {w0 w : World} {l : List ByteArray} (h : RD q r n base u dead s zs v0 v2 w0 w) (hk : s.Ok) (ht : TextsAt w u l) (hl : (recB l).length ≤ 1048576) (hll : l.length ≤ 1048576) :
    Calls Tryz.prog 30 #[.pointer (some ⟨q, 0, none⟩)] w fun e w' => e = .returned (.int .i64 (((64 * halfN s : Nat) : Int) - ((recB l).length : Int))) ∧ Below w.heap.size w w' := by
  have c2 : w.drew.cell? ⟨q, 2, none⟩ = some u := RLO.c2 h.obj
  have C1 := rhalf_any h.drew hk
  have hB1 : Below w.heap.size w w.drew := (Below.refl _ w).drew
  have C2 := rbytes_any (ht.later hB1) hl hll
  have hh : halfN s ≤ 8192 := by have := hk.le; unfold halfN; omega
  have hs : (bsL (recB l)).size = (recB l).length := size_bsL _
  have HB1 := Lib.hid hB1
  generalize bsL (recB l) = T at *
  generalize (recB l).length = K at *
  generalize halfN s = M at *
  have hm1 : IntKind.i64.wrap (64 * (M : Int)) = ((64 * M : Nat) : Int) := by rw [IntWalk.i64_in _ (by omega)]; omega
  have hK : K ≤ 1048576 := hl
  clear h ht hl hB1
  go_enter Tryz.func30, Tryz.ntmps30
  go_wp2_with fail
  go_region_held3 (fun w' => w'.cell? ⟨q, 2, none⟩ = some u)
    (first | exact c2 | exact c3)
    (first
      | (go_at_call 59; refine C1.mono ?_; rintro e w' ⟨rfl, rfl⟩)
      | (go_at_call 56; refine C2.mono ?_; rintro e w4 ⟨rfl, hB4⟩; have c3 := (hB4.cell (p := ⟨q, 2, none⟩) (lt_of_cell c2)).trans c2; have HB4 := Lib.hid (HB1.out.trans (hB4.mono HB1.out.size)); clear hB4))
  all_goals (
    go_wp2_with fail
    go_ret
    exact ⟨by rw [IntWalk.i64_in (64 * (M : Int) - (K : Int)) (by omega), show ((64 * M : Nat) : Int) = 64 * (M : Int) by omega]; rfl, HB4.out⟩)
end Go.Proofs.YteboacjniokfpaaGreatDoor

