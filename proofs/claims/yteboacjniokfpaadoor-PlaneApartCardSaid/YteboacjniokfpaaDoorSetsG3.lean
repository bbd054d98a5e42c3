/-
  The reference's Make: a set of two.
-/
import Derived.Test.YteboacjniokfpaaDoorSetsG1
namespace Go.Proofs.YteboacjniokfpaaDoor
open Go.RowKit Go.Shelf Go SM

def u8s (l : List UInt8) : List Value := l.map fun b => Value.int .u8 b.toNat
/-- the low k bits of a byte -/
def lowB (b : UInt8) (k : Nat) : Nat := b.toNat % 2 ^ k
theorem low_all : ∀ (b : Fin 256) (k : Fin 8), b.val % 2 ^ (k.val + 1) = b.val % 2 ^ k.val + (if b.val.testBit k.val then 2 ^ k.val else 0) := by decide +kernel
theorem low_succ (b : UInt8) (k : Nat) (hk : k < 8) : lowB b (k + 1) = lowB b k + (if b.toNat.testBit k then 2 ^ k else 0) := low_all ⟨b.toNat, b.toNat_lt⟩ ⟨k, hk⟩
theorem low_lt (b : UInt8) (k : Nat) : lowB b k < 256 := Nat.lt_of_le_of_lt (Nat.mod_le _ _) b.toNat_lt
theorem low_8 (b : UInt8) : lowB b 8 = b.toNat := Nat.mod_eq_of_lt b.toNat_lt
/-- which bits of a byte a way makes -/
def wayT : Nat → Bool → Bool → Bool
  | 0, x, y => x && y
  | 1, x, y => x || y
  | _, x, y => x && !y
def wayF : Nat → UInt8 → UInt8 → UInt8
  | 0 => band
  | 1 => bor
  | _ => bsub
theorem wayF_tb (way : Nat) (x y : UInt8) (k : Nat) (hk : k < 8) : (wayF way x y).toNat.testBit k = wayT way (x.toNat.testBit k) (y.toNat.testBit k) := by
  match way with
  | 0 => exact tb_band _ _ _
  | 1 => exact tb_bor _ _ _
  | _ + 2 => exact tb_bsub _ _ _ hk
theorem wayF_zero (way : Nat) : wayF way 0 0 = 0 := by
  unfold wayF; split <;> decide
theorem bit_at (l : List UInt8) (i k : Nat) (hk : k < 8) : bit l (8 * i + k) = (gd l i).toNat.testBit k := by
  unfold bit
  rw [show (8 * i + k) / 8 = i by omega, show (8 * i + k) % 8 = k by omega]
theorem bitI_at2 (l : List UInt8) (i k : Nat) (hk : k < 8) : bitI l (8 * (i : Int) + (k : Int)) = (gd l i).toNat.testBit k := by
  rw [← bit_at l i k hk, ← bitI_nat]; congr 1

theorem low_same {lo n : Nat} (h : n = lo) : Value.int .u8 (lo : Int) = .int .u8 (n : Int) := by rw [h]
theorem low_more {lo n z : Nat} (h : n = lo + 2 ^ z) (hn : n < 256) : Value.int .u8 (((lo : Int) + 2 ^ z % 256) % 256) = .int .u8 (n : Int) := by
  have e : (2 : Int) ^ z = ((2 ^ z : Nat) : Int) := by simp
  have : ((lo : Int) + 2 ^ z % 256) % 256 = (n : Int) := by rw [e]; omega
  rw [this]

set_option maxRecDepth 100000 in
set_option maxHeartbeats 8000000 in
theorem rmake_any (way : Nat) (hway : way ≤ 2) (a b : ByteArray) (ha : a.size ≤ 140737488351232) (hb : b.size ≤ 140737488351232) (w : World) :
    Calls Tryd.prog 42 #[.string a, .string b, .int .i64 way] w fun e w' => e = .returned (.string (bs (mk (wayF way) a.data.toList b.data.toList))) ∧ Below w.heap.size w w' := by
  obtain ⟨i0, hi, hz0, hz1, hz2⟩ := info_parts info5
  go_enter Tryd.func42, Tryd.ntmps42
  go_wp2
  have hrow0 : (w.alloc (.cells #[] 5)).ownsRow w.heap.size 5 1 (.slice (some ⟨w.heap.size, 0, none⟩) 0 0) 0 [] := World.ownsRow_made w #[] 0 (Nat.le_refl _) (by unfold maxLen; omega) (by simp)
  go_loopw [7, 8, 9, 10, 11, 12] (fun v i _ _ _ _ wr => ∃ k : Nat, k ≤ max a.size b.size ∧ i = .int .i64 k ∧ wr.ownsRow w.heap.size 5 1 v k (u8s ((zipB (wayF way) a.data.toList b.data.toList).take k)) ∧ v ≠ .slice none 0 0 ∧ Below w.heap.size w wr) (fun _ i _ _ _ _ _ => max a.size b.size - (intOf i).toNat)
  case atStart => exact ⟨0, Nat.zero_le _, rfl, hrow0, by simp, (Below.refl _ w).alloc (Nat.le_refl _) _⟩
  case round =>
    obtain ⟨k, hk, rfl, hrow, hnil, hB⟩ := hrel
    have HR := Lib.hid hrow
    have HN := Lib.hid hnil
    have HB := Lib.hid hB
    clear hrow hnil hB
    by_cases hlt : k < max a.size b.size
    · have hor : k < a.size ∨ k < b.size := by omega
      have HF := Lib.hid (show (zipB (wayF way) a.data.toList b.data.toList).take (k + 1) = (zipB (wayF way) a.data.toList b.data.toList).take k ++ [wayF way (gd a.data.toList k) (gd b.data.toList k)] by
        rw [List.take_succ_eq_append_getElem (by rw [zipB_length]; simpa using hlt)]
        congr 2
        simp [zipB])
      have hX := fun q (hq : q < 8) => bitI_at2 a.data.toList k q hq
      have hY := fun q (hq : q < 8) => bitI_at2 b.data.toList k q hq
      have hW := fun q (hq : q < 8) => wayF_tb way (gd a.data.toList k) (gd b.data.toList k) q hq
      generalize wayF way (gd a.data.toList k) (gd b.data.toList k) = F at HF hW
      generalize gd a.data.toList k = ga at hX hW
      generalize gd b.data.toList k = gb at hY hW
      have HX := Lib.hid hX
      have HY := Lib.hid hY
      have HW := Lib.hid hW
      clear hX hY hW
      obtain ⟨wo, rfl⟩ : ∃ wo : World, wo = wr := ⟨_, rfl⟩
      have hcut : k < a.size ∨ (¬ k < a.size ∧ k < b.size) := by omega
      have hways : (way = 0 ∨ way = 1) ∨ way = 2 := by omega
      clear hor
      rcases hcut with h1 | ⟨h1, h2⟩
      all_goals
        go_wp2
        go_loop [9, 10, 11, 12] (fun c q _ _ => ∃ z : Nat, z ≤ 8 ∧ q = .int .i64 z ∧ c = .int .u8 (lowB F z : Nat)) (fun _ q _ _ => 8 - (intOf q).toNat)
        case atStart => exact ⟨0, Nat.zero_le _, rfl, by simp [lowB, Nat.mod_one]⟩
        case round =>
          obtain ⟨z, hz, rfl, rfl⟩ := hrel
          by_cases hz8 : z < 8
          · have hx := HX.out z hz8
            have hy := HY.out z hz8
            have hw := HW.out z hz8
            have hls := low_succ F z hz8
            have hl1 := low_lt F z
            have hl2 := low_lt F (z + 1)
            rw [hw] at hls
            generalize ga.toNat.testBit z = xb at hx hls
            generalize gb.toNat.testBit z = yb at hy hls
            generalize lowB F z = lo at hls hl1
            have H1 := Lib.hid hx
            have H2 := Lib.hid hy
            clear hx hy hw
            have hk8 : 8 * (k : Int) + (z : Int) ≤ 9223372036854775807 := by omega
            rcases hways with (hw | hw) | hw
            · have t0 : ((way : Int) == 0) = true := by simp [hw]
              have t1 : ((way : Int) == 1) = false := by simp [hw]
              have t2 : ((way : Int) == 2) = false := by simp [hw]
              rw [hw] at hls
              clear hw
              cases xb <;> cases yb
              all_goals
                simp [wayT] at hls
                have HLS := Lib.hid hls
                clear hls
                go_wp2_with fail
                refine (rhas_any a _ _ (by omega) (by omega) (by omega)).mono ?_
                rintro e w' ⟨rfl, rfl⟩
                rw [H1.out]
                go_wp2_with fail
                refine (rhas_any b _ _ (by omega) (by omega) (by omega)).mono ?_
                rintro e w' ⟨rfl, rfl⟩
                rw [H2.out]
                go_wp2
                go_round
                case rel => exact ⟨z + 1, by omega, by go_num, by first | exact low_same HLS.out | exact low_more HLS.out hl2⟩
                case measure => simp [intOf]; omega
            · have t0 : ((way : Int) == 0) = false := by simp [hw]
              have t1 : ((way : Int) == 1) = true := by simp [hw]
              have t2 : ((way : Int) == 2) = false := by simp [hw]
              rw [hw] at hls
              clear hw
              cases xb <;> cases yb
              all_goals
                simp [wayT] at hls
                have HLS := Lib.hid hls
                clear hls
                go_wp2_with fail
                refine (rhas_any a _ _ (by omega) (by omega) (by omega)).mono ?_
                rintro e w' ⟨rfl, rfl⟩
                rw [H1.out]
                go_wp2_with fail
                refine (rhas_any b _ _ (by omega) (by omega) (by omega)).mono ?_
                rintro e w' ⟨rfl, rfl⟩
                rw [H2.out]
                go_wp2
                go_round
                case rel => exact ⟨z + 1, by omega, by go_num, by first | exact low_same HLS.out | exact low_more HLS.out hl2⟩
                case measure => simp [intOf]; omega
            · have t0 : ((way : Int) == 0) = false := by simp [hw]
              have t1 : ((way : Int) == 1) = false := by simp [hw]
              have t2 : ((way : Int) == 2) = true := by simp [hw]
              rw [hw] at hls
              clear hw
              cases xb <;> cases yb
              all_goals
                simp [wayT] at hls
                have HLS := Lib.hid hls
                clear hls
                go_wp2_with fail
                refine (rhas_any a _ _ (by omega) (by omega) (by omega)).mono ?_
                rintro e w' ⟨rfl, rfl⟩
                rw [H1.out]
                go_wp2_with fail
                refine (rhas_any b _ _ (by omega) (by omega) (by omega)).mono ?_
                rintro e w' ⟨rfl, rfl⟩
                rw [H2.out]
                go_wp2
                go_round
                case rel => exact ⟨z + 1, by omega, by go_num, by first | exact low_same HLS.out | exact low_more HLS.out hl2⟩
                case measure => simp [intOf]; omega
          · obtain rfl : z = 8 := by omega
            rw [low_8]
            have hszW : w.heap.size ≤ wo.heap.size := HB.out.size
            have hrow := HR.out
            have hnil := HN.out
            go_wp2_with (at_builtin; refine wpList_append_own _ rfl _ _ 34 rfl w.heap.size 5 i0 (.int .u8 0) 1 1 Tryd.underlying34 hi hz0 hz1 hz2 rfl (by decide) _ _ _ rfl (hrow.alloc _) ⟨wo.heap.size, 0, none⟩ 1 1 [.int .u8 F.toNat] rfl rfl (cell_one_new _ _ _) (by simp [Value.oneCell']) (by unfold maxLen; omega) (by omega) (by simp; omega) ?_; intro v' w1 hown' hgrow hnn; have HNN := Lib.hid hnn; clear hnn)
            have hB1 : Below w.heap.size w w1 := (HB.out.alloc hszW _).grown hgrow (by simp; omega) (fun j ej => (hrow.lt j ej).1)
            have hn' : v' ≠ .slice none 0 0 := fun e => hnil (HNN.out.1 e).1
            go_roundw
            case rel => exact ⟨k + 1, by omega, by go_num, by rw [HF.out]; simpa [u8s] using hown', hn', hB1⟩
            case measure => simp [intOf]; omega
    · have h1 : a.size ≤ k := by omega
      have h2 : b.size ≤ k := by omega
      have hlz : (zipB (wayF way) a.data.toList b.data.toList).length = k := by rw [zipB_length]; simp; omega
      have hrow := HR.out
      rw [List.take_of_length_le (by omega)] at hrow
      obtain ⟨g, cap, rfl, hgb, hgs, hcap1, hcap2, hcells⟩ := row_cells hrow HN.out
      have hconv : (convert 34 9 (.slice (some ⟨g, 0, none⟩) (zipB (wayF way) a.data.toList b.data.toList).length cap)).run Tryd.prog wr = .ok (str (zipB (wayF way) a.data.toList b.data.toList)) wr :=
        run_convert_bytes_back wr 34 9 5 ⟨g, 0, none⟩ cap (zipB (wayF way) a.data.toList b.data.toList) Tryd.underlying34 Tryd.underlying5 Tryd.underlying9 (fun j hj => by
          rw [Addr.add_lit, Nat.zero_add, hcells j (.int .u8 ((zipB (wayF way) a.data.toList b.data.toList)[j].toNat : Nat)) (by simp [u8s, hj])])
      rw [hlz, str_bs] at hconv
      have hB := HB.out
      have HLE := Lib.hid (rleast_any (zipB (wayF way) a.data.toList b.data.toList) (by omega) wr)
      clear hrow hcells hlz
      go_wp2_with (go_at_call 54; refine HLE.out.mono ?_; rintro e w' ⟨rfl, rfl⟩)
      go_ret
      exact ⟨rfl, hB⟩
end Go.Proofs.YteboacjniokfpaaDoor

