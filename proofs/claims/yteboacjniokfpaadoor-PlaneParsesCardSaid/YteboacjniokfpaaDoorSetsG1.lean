/-
  The reference's List and Least.
-/
import Derived.Test.YteboacjniokfpaaDoorLawKit
namespace Go.Proofs.YteboacjniokfpaaDoor
open Go.RowKit Go.Shelf Go SM

/-- the numbers below k -/
def upTo (l : List UInt8) (k : Nat) : List Nat := (List.range k).filter (bit l)
theorem upTo_succ (l : List UInt8) (k : Nat) : upTo l (k + 1) = upTo l k ++ (if bit l k then [k] else []) := by
  unfold upTo
  rw [List.range_succ, List.filter_append]
  congr 1
  cases h : bit l k <;> simp [h]
theorem upTo_all (l : List UInt8) : upTo l (8 * l.length) = nums l 0 := by
  refine sorted_ext _ _ (List.Pairwise.filter _ List.pairwise_lt_range) (sorted_nums l 0) fun n => ?_
  rw [mem_nums]
  simp only [upTo, List.mem_filter, List.mem_range]
  constructor
  · rintro ⟨_, h⟩; exact ⟨Nat.zero_le _, h⟩
  · rintro ⟨_, h⟩
    refine ⟨?_, h⟩
    rcases Nat.lt_or_ge (n / 8) l.length with h2 | h2
    · omega
    · rw [bit_ge h2] at h; cases h
theorem length_upTo (l : List UInt8) (k : Nat) : (upTo l k).length ≤ k := by
  have := List.length_filter_le (bit l) (List.range k)
  simpa [upTo] using this
theorem bitI_nat (l : List UInt8) (k : Nat) : bitI l (k : Int) = bit l k := by simp [bitI]

set_option maxRecDepth 100000 in
set_option maxHeartbeats 2000000 in
theorem rlist_any (s : ByteArray) (hs : s.size ≤ 2199023255552) (w : World) :
    Calls Tryd.prog 40 #[.string s] w fun e w' => ∃ v, e = .returned v ∧ w'.ownsRow w.heap.size 3 1 v (nums s.data.toList 0).length (ints (nums s.data.toList 0)) ∧ Below w.heap.size w w' := by
  obtain ⟨i0, hi, hz0, hz1, hz2⟩ := info_parts info3
  go_enter Tryd.func40, Tryd.ntmps40
  go_wp2
  have hrow0 : (w.alloc (.cells #[] 3)).ownsRow w.heap.size 3 1 (.slice (some ⟨w.heap.size, 0, none⟩) 0 0) 0 [] := World.ownsRow_made w #[] 0 (Nat.le_refl _) (by unfold maxLen; omega) (by simp)
  go_loopw [3, 4] (fun v i wr => ∃ k : Nat, k ≤ 8 * s.size ∧ i = .int .i64 k ∧ wr.ownsRow w.heap.size 3 1 v (upTo s.data.toList k).length (ints (upTo s.data.toList k)) ∧ Below w.heap.size w wr) (fun _ i _ => 8 * s.size - (intOf i).toNat)
  case atStart => exact ⟨0, Nat.zero_le _, rfl, hrow0, (Below.refl _ w).alloc (Nat.le_refl _) _⟩
  case round =>
    obtain ⟨k, hk, rfl, hrow, hB⟩ := hrel
    have hlen := length_upTo s.data.toList k
    by_cases hlt : k < 8 * s.size
    · have hszW : w.heap.size ≤ wr.heap.size := hB.size
      have hsucc := upTo_succ s.data.toList k
      cases hbit : bit s.data.toList k with
      | true =>
        rw [hbit, if_pos rfl] at hsucc
        have HS := Lib.hid hsucc
        have HB := Lib.hid (show bitI s.data.toList (k : Int) = true by rw [bitI_nat, hbit])
        clear hsucc hbit
        go_wp2_with (first
          | (go_at_call 41; refine (rhas_any _ _ _ (by omega) (by omega) (by omega)).mono ?_; rintro e w' ⟨rfl, rfl⟩; rw [HB.out])
          | (at_builtin; refine wpList_append_own _ rfl _ _ 58 rfl w.heap.size 3 i0 (.int .i64 0) 1 8 Tryd.underlying58 hi hz0 hz1 hz2 rfl (by decide) _ _ _ rfl (hrow.alloc _) ⟨wr.heap.size, 0, none⟩ 1 1 [.int .i64 k] rfl rfl (cell_one_new _ _ _) (by simp [Value.oneCell']) (by unfold maxLen; omega) (by omega) (by simp; omega) ?_; intro v' w1 hown' hgrow _))
        have hB1 : Below w.heap.size w w1 := (hB.alloc hszW _).grown hgrow (by simp; omega) (fun j ej => (hrow.lt j ej).1)
        go_wp2
        go_roundw
        case rel => exact ⟨k + 1, by omega, by go_num, by rw [HS.out, List.length_append]; simpa [ints] using hown', hB1⟩
        case measure => simp [intOf]; omega
      | false =>
        rw [hbit] at hsucc
        have HS := Lib.hid (show upTo s.data.toList (k + 1) = upTo s.data.toList k by rw [hsucc]; simp)
        have HB := Lib.hid (show bitI s.data.toList (k : Int) = false by rw [bitI_nat, hbit])
        clear hsucc hbit
        go_wp2_with (go_at_call 41; refine (rhas_any _ _ _ (by omega) (by omega) (by omega)).mono ?_; rintro e w' ⟨rfl, rfl⟩; rw [HB.out])
        go_roundw
        case rel => exact ⟨k + 1, by omega, by go_num, by rw [HS.out]; exact hrow, hB⟩
        case measure => simp [intOf]; omega
    · obtain rfl : k = 8 * s.size := by omega
      have e := upTo_all s.data.toList
      rw [show s.data.toList.length = s.size by simp] at e
      rw [e] at hrow
      go_wp2
      go_ret
      exact ⟨_, rfl, hrow, hB⟩

theorem gd_bs (l : List UInt8) (j : Nat) (h : j < (bs l).size) : (bs l)[j] = gd l j := by
  rw [← gd_get h, bs_list]
theorem bs_cut (l : List UInt8) (j : Nat) : (bs l).extract 0 j = bs (l.take j) := by
  rw [extract_take, bs_list]; rfl

def strSize : Value → Nat
  | .string s => s.size
  | _ => 0

set_option maxRecDepth 100000 in
set_option maxHeartbeats 2000000 in
theorem rleast_any (l : List UInt8) (hs : l.length ≤ 140737488355328) (w : World) :
    Calls Tryd.prog 54 #[.string (bs l)] w fun e w' => e = .returned (.string (bs (least l))) ∧ w = w' := by
  go_enter Tryd.func54, Tryd.ntmps54
  go_wp2
  go_loop [0] (fun u => ∃ k : Nat, k ≤ l.length ∧ u = .string (bs (l.take k)) ∧ least (l.take k) = least l) (fun u => strSize u)
  case atStart => exact ⟨l.length, Nat.le_refl _, by rw [List.take_length], by rw [List.take_length]⟩
  case round =>
    obtain ⟨k, hk, rfl, hl⟩ := hrel
    have HL := Lib.hid hl
    clear hl
    have hsz : (bs (l.take k)).size = k := by rw [bs_size, List.length_take]; omega
    cases k with
    | zero =>
      rw [List.take_zero] at hsz ⊢
      have HX := Lib.hid (show least l = [] by rw [← HL.out]; rfl)
      have hX : bs [] = ⟨#[]⟩ := rfl
      rw [hX]
      go_wp2
      go_ret
      exact ⟨by rw [HX.out]; rfl, rfl⟩
    | succ j =>
      have hj : j < (bs (l.take (j + 1))).size := by omega
      have hget := gd_bs (l.take (j + 1)) j hj
      have hcut := bs_cut (l.take (j + 1)) j
      rw [List.take_take, Nat.min_eq_left (by omega)] at hcut
      have hgd : gd (l.take (j + 1)) j = gd l j := by
        simp only [gd, List.getD_eq_getElem?_getD, List.getElem?_take]; simp
      rw [hgd] at hget
      by_cases hz : gd l j = 0
      · rw [hz] at hget
        have HN := Lib.hid (show least (l.take j) = least l by rw [← HL.out, least_take_zero l j (by omega) hz])
        have HC := Lib.hid hcut
        have HZ := Lib.hid hsz
        generalize hX : bs (l.take (j + 1)) = X at *
        have hsz2 : X.size = j + 1 := HZ.out
        have hget2 : X[j] = 0 := by simpa using hget
        clear hX hget hgd
        go_wp2
        go_round
        case rel => exact ⟨j, by omega, rfl, HN.out⟩
        case measure => simp only [strSize, bs_size, List.length_take, hsz2]; omega
      · have hne := u8_ne hz
        have HN := Lib.hid (show least l = l.take (j + 1) by rw [← HL.out, least_take_self l j (by omega) hz])
        have HZ := Lib.hid hsz
        generalize hX : bs (l.take (j + 1)) = X at *
        have hsz2 : X.size = j + 1 := HZ.out
        have hget2 : ((X[j].toNat : Int) == 0) = false := by rw [hget]; exact hne
        have HX := Lib.hid hX
        clear hX hget hgd hcut hne
        go_wp2
        go_ret
        exact ⟨by rw [HN.out, HX.out]; rfl, rfl⟩
end Go.Proofs.YteboacjniokfpaaDoor

