/-
  Of: the set of given numbers.
-/
import Derived.Test.YtknfakaklmpboaaSetsD
import Derived.Test.YtknfakaklmpboaaSetsOfM
import Derived.RegionTactic
import Derived.BigRegion
import Derived.Laws.OwnMore
namespace Go.Proofs.Ytknfakaklmpboaa
open Go.RowKit Go.Shelf Go SM

theorem mostI_take (zs : List Int) (k : Nat) (h : k < zs.length) : mostI (zs.take (k + 1)) = max (mostI (zs.take k)) zs[k] := by
  rw [List.take_succ_eq_append_getElem h, mostI_snoc]
theorem okI_take (zs : List Int) (k : Nat) (h : k < zs.length) : okI (zs.take (k + 1)) = (okI (zs.take k) && decide (0 ≤ zs[k] ∧ zs[k] ≤ 65535)) := by
  unfold okI
  rw [List.take_succ_eq_append_getElem h, List.all_append]; simp

set_option maxRecDepth 100000 in
set_option maxHeartbeats 2000000 in
/-- a number of the list is none of a set -/
theorem of_no (b off cap : Nat) (zs : List Int) (hz : zs.length ≤ 281474976710656) (hbad : okI zs = false) (w : World)
    (hc : ∀ j (h : j < zs.length), w.cell? ⟨b, off + j, none⟩ = some (.int .i64 zs[j])) :
    Calls Try.prog 12 #[.slice (some ⟨b, off, none⟩) zs.length cap] w fun e w' => e = .returned (.tuple #[.string ⟨#[]⟩, .int .i64 10]) ∧ w = w' := by
  have HC := Lib.hid hc
  have HB := Lib.hid hbad
  clear hc hbad
  go_enter Try.func12, Try.ntmps12
  go_wp2
  go_loop [4, 6, 12] (fun m _ i => ∃ k : Nat, k ≤ zs.length ∧ i = .int .i64 k ∧ m = .int .i64 (mostI (zs.take k)) ∧ okI (zs.take k) = true) (fun _ _ i => zs.length - (intOf i).toNat)
  case atStart => exact ⟨0, Nat.zero_le _, rfl, rfl, rfl⟩
  case round =>
    obtain ⟨k, hk, rfl, rfl, hok⟩ := hrel
    have HO := Lib.hid hok
    clear hok
    by_cases hlt : k < zs.length
    · have hcell := HC.out k hlt
      by_cases hin : 0 ≤ zs[k] ∧ zs[k] ≤ 65535
      · obtain ⟨hlo, hhi⟩ := hin
        have HM := Lib.hid (mostI_take zs k hlt)
        have HN := Lib.hid (show okI (zs.take (k + 1)) = true by rw [okI_take zs k hlt, HO.out]; simp [hlo, hhi])
        generalize zs[k] = z at *
        go_wp2
        go_round
        case rel => exact ⟨k + 1, by omega, by go_num, by rw [HM.out], HN.out⟩
        case measure => simp [intOf]; omega
      · by_cases hlo : 0 ≤ zs[k]
        · have hhi : 65535 < zs[k] := by omega
          clear hin
          generalize zs[k] = z at *
          go_wp2
          go_ret2
          exact ⟨rfl, rfl⟩
        · have hlo2 : zs[k] < 0 := by omega
          clear hin hlo
          generalize zs[k] = z at *
          go_wp2
          go_ret2
          exact ⟨rfl, rfl⟩
    · have : okI zs = true := by
        have := HO.out
        rwa [List.take_of_length_le (by omega)] at this
      rw [HB.out] at this; cases this

/-- a row of bytes of the call's own, at block g: each may be written -/
def RowAt (W : World) (g : Nat) (bs : List UInt8) : Prop := ∀ i, i < bs.length → W.cell? ⟨g, i, none⟩ = some (.int .u8 (gd bs i).toNat) ∧ W.frozen? ⟨g, i, none⟩ = false
theorem RowAt.new (w : World) (n : Nat) : RowAt (w.alloc (.cells (madeCells #[.int .u8 0] n) 5)) w.heap.size (List.replicate n 0) := fun i hi => by
  rw [List.length_replicate] at hi
  have h := World.alloc_heap_new w (.cells (madeCells #[.int .u8 0] n) 5)
  refine ⟨?_, ?_⟩
  · simp only [World.cell?, h, gd_zeros]
    have e : (madeCells #[Value.int .u8 0] n).toList[i]? = some (.int .u8 0) := by
      rw [toList_madeCells_one]; simp [hi]
    simpa using e
  · exact World.frozen?_alloc_at _ _ _ _ rfl
theorem RowAt.set {W : World} {g : Nat} {bs : List UInt8} (h : RowAt W g bs) (j : Nat) (x : UInt8) (hj : j < bs.length) : RowAt (W.setCell ⟨g, j, none⟩ (.int .u8 x.toNat)) g (bs.set j x) := fun i hi => by
  rw [List.length_set] at hi
  rw [gd_set _ _ _ hj, World.frozen?_setCell]
  refine ⟨?_, (h i hi).2⟩
  split
  · rename_i e
    subst e
    exact World.cell?_setCell_same _ _ _ (h j hj).1
  · rename_i e
    rw [World.cell?_setCell_other _ _ _ _ (by intro e2; cases e2; exact e rfl)]
    exact (h i hi).1

theorem bits_or_bit (x : UInt8) (z : Nat) : bits .or .u8 (x.toNat : Int) (2 ^ (z % 8) % 256) = ((bor x (UInt8.ofNat (2 ^ (z % 8) % 256))).toNat : Int) := by
  rw [← bits_or]
  congr 1
  have : 2 ^ (z % 8) % 256 < 256 := Nat.mod_lt _ (by decide)
  simp

set_option maxRecDepth 100000 in
set_option maxHeartbeats 4000000 in
theorem of_yes (b off cap : Nat) (zs : List Int) (hz : zs.length ≤ 281474976710656) (hgood : okI zs = true) (w : World) (hbw : b < w.heap.size)
    (hc : ∀ j (h : j < zs.length), w.cell? ⟨b, off + j, none⟩ = some (.int .i64 zs[j])) :
    Calls Try.prog 12 #[.slice (some ⟨b, off, none⟩) zs.length cap] w fun e w' => e = .returned (.tuple #[str (ofL zs), .int .i64 0]) ∧ Below w.heap.size w w' := by
  have HC := Lib.hid hc
  have HO := Lib.hid hgood
  clear hc hgood
  obtain ⟨i0, hi, hz0, hz1, hz2⟩ := info_parts info5
  go_enter Try.func12, Try.ntmps12
  go_wp2
  go_loop [4, 6, 12] (fun m _ i => ∃ k : Nat, k ≤ zs.length ∧ i = .int .i64 k ∧ m = .int .i64 (mostI (zs.take k))) (fun _ _ i => zs.length - (intOf i).toNat)
  case atStart => exact ⟨0, Nat.zero_le _, rfl, rfl⟩
  case round =>
    obtain ⟨k, hk, rfl, rfl⟩ := hrel
    by_cases hlt : k < zs.length
    · have hcell := HC.out k hlt
      obtain ⟨hlo, hhi⟩ := okI_mem HO.out (List.getElem_mem hlt)
      have HM := Lib.hid (mostI_take zs k hlt)
      generalize zs[k] = z at *
      go_wp2
      go_round
      case rel => exact ⟨k + 1, by omega, by go_num, by rw [HM.out]⟩
      case measure => simp [intOf]; omega
    · obtain rfl : k = zs.length := by omega
      have h1 := mostI_lo zs
      have h2 := mostI_le zs 65535 (by omega) (fun z hz => (okI_mem HO.out hz).2)
      rw [List.take_length]
      have hL : (mostI zs + 8) / 8 = (lenI zs : Int) := by unfold lenI; omega
      have hle := lenI_le HO.out
      generalize mostI zs = m at h1 h2 hL
      have HL := Lib.hid hL
      clear hL
      have hmk := run_makeSlice (P := Try.prog) (w := w) 49 5 i0 (.int .u8 0) Try.underlying49 hi hz0 .i64 .i64 ((m + 8) / 8) ((m + 8) / 8) (by omega) (by omega) (by rw [hz1]; omega) (by rw [hz2]; omega) (by omega)
      rw [hz1, Nat.mul_one, HL.out, Int.toNat_natCast, show Value.cells (.int .u8 0) = #[.int .u8 0] from rfl, ← HL.out] at hmk
      have HMK := Lib.hid hmk
      have hrun := HMK.out
      clear HMK hmk
      go_wp2
      clear hrun
      have hl0 : (List.replicate (lenI zs) (0 : UInt8)).length = lenI zs := by simp
      go_loopw [9, 32] (fun _ i wr => ∃ k : Nat, k ≤ zs.length ∧ i = .int .i64 k ∧ RowAt wr w.heap.size ((natsI (zs.take k)).foldl setBit (List.replicate (lenI zs) 0)) ∧ Below w.heap.size w wr) (fun _ i _ => zs.length - (intOf i).toNat)
      case atStart => exact ⟨0, Nat.zero_le _, rfl, RowAt.new w (lenI zs), (Below.refl _ w).alloc (Nat.le_refl _) _⟩
      case round =>
        obtain ⟨k, hk, rfl, hrow, hB⟩ := hrel
        by_cases hlt : k < zs.length
        · have hcell : wr.cell? ⟨b, off + k, none⟩ = some (.int .i64 zs[k]) := (hB.cell (p := ⟨b, off + k, none⟩) hbw).trans (HC.out k hlt)
          obtain ⟨hlo, hhi⟩ := okI_mem HO.out (List.getElem_mem hlt)
          have hzl := lenI_lt (List.getElem_mem hlt) hlo
          have hfold : (natsI (zs.take (k + 1))).foldl setBit (List.replicate (lenI zs) 0) = setBit ((natsI (zs.take k)).foldl setBit (List.replicate (lenI zs) 0)) zs[k].toNat := by
            unfold natsI
            rw [List.take_succ_eq_append_getElem hlt, List.map_append, List.foldl_append]; rfl
          have hfl := length_fold (natsI (zs.take k)) (List.replicate (lenI zs) 0)
          rw [hl0] at hfl
          generalize (natsI (zs.take k)).foldl setBit (List.replicate (lenI zs) 0) = bs at hrow hfold hfl
          obtain ⟨z, hz2⟩ : ∃ z : Nat, zs[k] = (z : Int) := ⟨zs[k].toNat, (Int.toNat_of_nonneg hlo).symm⟩
          rw [hz2] at hcell hlo hhi hzl hfold
          rw [Int.toNat_natCast] at hzl hfold
          obtain ⟨hc8, hf8⟩ := hrow (z / 8) (by omega)
          have hset := hrow.set (z / 8) (bor (gd bs (z / 8)) (UInt8.ofNat (2 ^ (z % 8) % 256))) (by omega)
          have hbits := bits_or_bit (gd bs (z / 8)) z
          rw [show bs.set (z / 8) (bor (gd bs (z / 8)) (UInt8.ofNat (2 ^ (z % 8) % 256))) = setBit bs z from rfl, ← hfold] at hset
          have HS := Lib.hid hset
          have hzi : (z : Int) / 8 < (lenI zs : Int) := by omega
          clear hset hfold hz2 hfl
          generalize bor (gd bs (z / 8)) (UInt8.ofNat (2 ^ (z % 8) % 256)) = x at hbits HS
          go_wp2
          go_region
          all_goals go_wp2
          go_roundw
          case rel => exact ⟨k + 1, by omega, by go_num, HS.out, (hB.setCell (p := ⟨w.heap.size, z / 8, none⟩) (Nat.le_refl _) _).drew⟩
          case measure => simp [intOf]; omega
        · obtain rfl : k = zs.length := by omega
          rw [List.take_length, show (natsI zs).foldl setBit (List.replicate (lenI zs) 0) = ofL zs from rfl] at hrow
          have hconv : (convert 49 9 (.slice (some ⟨w.heap.size, 0, none⟩) (ofL zs).length (lenI zs))).run Try.prog wr = .ok (str (ofL zs)) wr :=
            run_convert_bytes_back wr 49 9 5 ⟨w.heap.size, 0, none⟩ (lenI zs) (ofL zs) Try.underlying49 Try.underlying5 Try.underlying9 (fun j hj => by
              rw [Addr.add_lit, Nat.zero_add, (hrow j hj).1, gd_lt hj])
          rw [length_ofL] at hconv
          go_wp2
          go_ret2
          exact ⟨rfl, hB⟩
/-- a list of no number: a nil one, too -/
theorem of_nil (a : Option Addr) (cap : Nat) (w : World) :
    Calls Try.prog 12 #[.slice a 0 cap] w fun e w' => e = .returned (.tuple #[str [], .int .i64 0]) ∧ Below w.heap.size w w' := by
  obtain ⟨i0, hi, hz0, hz1, hz2⟩ := info_parts info5
  have hmk := run_makeSlice (P := Try.prog) (w := w) 49 5 i0 (.int .u8 0) Try.underlying49 hi hz0 .i64 .i64 0 0 (by omega) (by omega) (by simp) (by simp) (by omega)
  have hconv : (convert 49 9 (.slice (some ⟨w.heap.size, 0, none⟩) 0 0)).run Try.prog (w.alloc (.cells (madeCells #[.int .u8 0] 0) 5)) = .ok (str []) (w.alloc (.cells (madeCells #[.int .u8 0] 0) 5)) :=
    run_convert_bytes_back _ 49 9 5 ⟨w.heap.size, 0, none⟩ 0 [] Try.underlying49 Try.underlying5 Try.underlying9 (fun j hj => by cases hj)
  go_enter Try.func12, Try.ntmps12
  go_wp2
  refine wp_loop_rounds 1 ?_
  rw [rounds_succ]
  go_wp2
  refine wp_loop_rounds 1 ?_
  rw [rounds_succ]
  go_wp2
  go_ret2
  exact ⟨rfl, (Below.refl _ w).alloc (Nat.le_refl _) _⟩
/-- a list of numbers, as a slice that is read: nil, or its cells -/
def IntsAt (W : World) (v : Value) (zs : List Int) : Prop :=
  (v = .slice none 0 0 ∧ zs = []) ∨ ∃ b off cap, v = .slice (some ⟨b, off, none⟩) zs.length cap ∧ b < W.heap.size ∧ ∀ j (h : j < zs.length), W.cell? ⟨b, off + j, none⟩ = some (.int .i64 zs[j])
/-- what Of answers -/
def ofV (zs : List Int) : Value := if okI zs then .tuple #[str (ofL zs), .int .i64 0] else .tuple #[str [], .int .i64 10]

theorem of_any (v : Value) (zs : List Int) (hz : zs.length ≤ 281474976710656) (w : World) (h : IntsAt w v zs) :
    Calls Try.prog 12 #[v] w fun e w' => e = .returned (ofV zs) ∧ Below w.heap.size w w' := by
  rcases h with ⟨rfl, rfl⟩ | ⟨b, off, cap, rfl, hb, hc⟩
  · exact (of_nil none 0 w).mono fun e w' h => ⟨h.1, h.2⟩
  · cases hok : okI zs with
    | true =>
      refine (of_yes b off cap zs hz hok w hb hc).mono fun e w' h => ⟨?_, h.2⟩
      rw [h.1, ofV, if_pos hok]
    | false =>
      refine (of_no b off cap zs hz hok w hc).mono fun e w' h => ⟨?_, ?_⟩
      · rw [h.1, ofV, hok]; rfl
      · obtain ⟨_, rfl⟩ := h; exact Below.refl _ _
end Go.Proofs.Ytknfakaklmpboaa

