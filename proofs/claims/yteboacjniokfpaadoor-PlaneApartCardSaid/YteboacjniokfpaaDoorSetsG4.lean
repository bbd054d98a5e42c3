/-
  The reference's Of.
-/
import Derived.Test.YteboacjniokfpaaDoorSetsG3
import Derived.RegionTactic
import Derived.BigRegion
namespace Go.Proofs.YteboacjniokfpaaDoor
open Go.RowKit Go.Shelf Go SM

theorem row_frozen {W : World} {base : Nat} {e : TypeId} {v : Value} {n : Nat} {xs : List Value} {g cap : Nat} (h : W.ownsRow base e 1 v n xs) (hv : v = .slice (some ⟨g, 0, none⟩) n cap) (i : Nat) : W.frozen? ⟨g, i, none⟩ = false := by
  rcases h.2 with ⟨e, _⟩ | ⟨g', cap', cur, h1, h2, h3, _⟩
  · rw [hv] at e; cases e
  · rw [hv] at h1
    simp only [Value.slice.injEq, Option.some.injEq, Addr.mk.injEq, true_and, and_true] at h1
    obtain ⟨rfl, rfl⟩ := h1
    simp [World.frozen?, h3]
theorem u8s_set (l : List UInt8) (j : Nat) (x : UInt8) : (u8s l).set j (.int .u8 x.toNat) = u8s (l.set j x) := by simp [u8s, List.map_set]
theorem length_u8s (l : List UInt8) : (u8s l).length = l.length := by simp [u8s]
theorem drew_owns {W : World} {base : Nat} {e : TypeId} {v : Value} {n : Nat} {xs : List Value} (h : W.ownsRow base e 1 v n xs) : W.drew.ownsRow base e 1 v n xs := h
theorem length_stepR (l : List UInt8) (z : Nat) : (stepR l z).length = max l.length (z / 8 + 1) := by unfold stepR; rw [length_setBit]; simp; omega

set_option maxRecDepth 100000 in
set_option maxHeartbeats 2000000 in
theorem rof_no (b off cap : Nat) (zs : List Int) (hz : zs.length ≤ 281474976710656) (hbad : okI zs = false) (w : World) (hbw : b < w.heap.size)
    (hc : ∀ j (h : j < zs.length), w.cell? ⟨b, off + j, none⟩ = some (.int .i64 zs[j])) :
    Calls Tryd.prog 44 #[.slice (some ⟨b, off, none⟩) zs.length cap] w fun e w' => e = .returned (.tuple #[.string ⟨#[]⟩, .int .i64 10]) ∧ Below w.heap.size w w' := by
  have HC := Lib.hid hc
  have HB := Lib.hid hbad
  have hB0 : Below w.heap.size w (w.alloc (.cells #[] 5)) := (Below.refl _ w).alloc (Nat.le_refl _) _
  clear hc hbad
  go_enter Tryd.func44, Tryd.ntmps44
  go_wp2
  go_loop [5] (fun i => ∃ k : Nat, k ≤ zs.length ∧ i = .int .i64 k ∧ okI (zs.take k) = true) (fun i => zs.length - (intOf i).toNat)
  case atStart => exact ⟨0, Nat.zero_le _, rfl, rfl⟩
  case round =>
    obtain ⟨k, hk, rfl, hok⟩ := hrel
    have HO := Lib.hid hok
    clear hok
    by_cases hlt : k < zs.length
    · have hcell := (hB0.cell (p := ⟨b, off + k, none⟩) hbw).trans (HC.out k hlt)
      by_cases hin : 0 ≤ zs[k] ∧ zs[k] ≤ 65535
      · obtain ⟨hlo, hhi⟩ := hin
        have HN := Lib.hid (show okI (zs.take (k + 1)) = true by rw [okI_take zs k hlt, HO.out]; simp [hlo, hhi])
        generalize zs[k] = z at *
        go_wp2
        go_round
        case rel => exact ⟨k + 1, by omega, by go_num, HN.out⟩
        case measure => simp [intOf]; omega
      · by_cases hlo : 0 ≤ zs[k]
        · have hhi : 65535 < zs[k] := by omega
          clear hin
          generalize zs[k] = z at *
          go_wp2
          go_ret2
          exact ⟨rfl, hB0⟩
        · have hlo2 : zs[k] < 0 := by omega
          clear hin hlo
          generalize zs[k] = z at *
          go_wp2
          go_ret2
          exact ⟨rfl, hB0⟩
    · have : okI zs = true := by
        have := HO.out
        rwa [List.take_of_length_le (by omega)] at this
      rw [HB.out] at this; cases this

set_option maxRecDepth 100000 in
set_option maxHeartbeats 8000000 in
theorem rof_yes (b off cap : Nat) (zs : List Int) (hz : zs.length ≤ 281474976710656) (hgood : okI zs = true) (w : World) (hbw : b < w.heap.size)
    (hc : ∀ j (h : j < zs.length), w.cell? ⟨b, off + j, none⟩ = some (.int .i64 zs[j])) :
    Calls Tryd.prog 44 #[.slice (some ⟨b, off, none⟩) zs.length cap] w fun e w' => e = .returned (.tuple #[str (ofL zs), .int .i64 0]) ∧ Below w.heap.size w w' := by
  have HC := Lib.hid hc
  have HO := Lib.hid hgood
  have hB0 : Below w.heap.size w (w.alloc (.cells #[] 5)) := (Below.refl _ w).alloc (Nat.le_refl _) _
  have hrow0 : (w.alloc (.cells #[] 5)).ownsRow w.heap.size 5 1 (.slice (some ⟨w.heap.size, 0, none⟩) 0 0) 0 [] := World.ownsRow_made w #[] 0 (Nat.le_refl _) (by unfold maxLen; omega) (by simp)
  clear hc hgood
  obtain ⟨i0, hi, hz0, hz1, hz2⟩ := info_parts info5
  go_enter Tryd.func44, Tryd.ntmps44
  go_wp2
  go_loop [5] (fun i => ∃ k : Nat, k ≤ zs.length ∧ i = .int .i64 k) (fun i => zs.length - (intOf i).toNat)
  case atStart => exact ⟨0, Nat.zero_le _, rfl⟩
  case round =>
    obtain ⟨k, hk, rfl⟩ := hrel
    by_cases hlt : k < zs.length
    · have hcell := (hB0.cell (p := ⟨b, off + k, none⟩) hbw).trans (HC.out k hlt)
      obtain ⟨hlo, hhi⟩ := okI_mem HO.out (List.getElem_mem hlt)
      generalize zs[k] = z at *
      go_wp2
      go_round
      case rel => exact ⟨k + 1, by omega, by go_num⟩
      case measure => simp [intOf]; omega
    · obtain rfl : k = zs.length := by omega
      go_wp2
      go_loopw [4, 6] (fun v i wr => ∃ k : Nat, k ≤ zs.length ∧ i = .int .i64 k ∧ wr.ownsRow w.heap.size 5 1 v (rofL (zs.take k)).length (u8s (rofL (zs.take k))) ∧ v ≠ .slice none 0 0 ∧ Below w.heap.size w wr) (fun _ i _ => zs.length - (intOf i).toNat)
      case atStart => exact ⟨0, Nat.zero_le _, rfl, hrow0, by simp, hB0⟩
      case round =>
        obtain ⟨k, hk, rfl, hrow, hnil, hB⟩ := hrel
        have HR := Lib.hid hrow
        have HN := Lib.hid hnil
        have HB := Lib.hid hB
        clear hrow hnil hB
        by_cases hlt : k < zs.length
        · obtain ⟨hlo, hhi⟩ := okI_mem HO.out (List.getElem_mem hlt)
          have hcw := HC.out k hlt
          have HST := Lib.hid (rofL_take zs k hlt)
          have hl8 : (rofL (zs.take k)).length ≤ 8192 := length_rofL_le (by
            have h := HO.out
            unfold okI at h ⊢
            rw [List.all_eq_true] at h ⊢
            exact fun z hz => h z (List.mem_of_mem_take hz))
          obtain ⟨z, hz2⟩ : ∃ z : Nat, zs[k] = (z : Int) := ⟨zs[k].toNat, (Int.toNat_of_nonneg hlo).symm⟩
          rw [hz2] at hcw HST
          have hzh : z ≤ 65535 := by omega
          rw [Int.toNat_natCast] at HST
          have HCW := Lib.hid hcw
          clear hcw hlo hhi hz2
          generalize rofL (zs.take k) = l0 at HR HST hl8
          obtain ⟨wo, rfl⟩ : ∃ wo : World, wo = wr := ⟨_, rfl⟩
          go_wp2
          go_loopw [4] (fun v wr => ∃ m : Nat, m ≤ z / 8 + 1 - l0.length ∧ wr.ownsRow w.heap.size 5 1 v (l0.length + m) (u8s (l0 ++ List.replicate m 0)) ∧ v ≠ .slice none 0 0 ∧ Below w.heap.size w wr) (fun v _ => z / 8 + 1 - sliceLen v)
          case atStart => exact ⟨0, Nat.zero_le _, by simpa using HR.out, HN.out, HB.out⟩
          case round =>
            obtain ⟨m, hm, hrow, hnil, hB⟩ := hrel
            have hcell : wr.cell? ⟨b, off + k, none⟩ = some (.int .i64 (z : Int)) := (hB.cell (p := ⟨b, off + k, none⟩) hbw).trans HCW.out
            obtain ⟨g, cp, rfl, hgb, hgs, hcap1, hcap2, hcells⟩ := row_cells hrow hnil
            have HCL := Lib.hid hcells
            have hszW : w.heap.size ≤ wr.heap.size := hB.size
            clear hcells
            by_cases hmore : l0.length + m ≤ z / 8
            · have hmi : ((l0.length : Int) + (m : Int)) ≤ (z : Int) / 8 := by omega
              have HB1 := Lib.hid hB
              have HR1 := Lib.hid hrow
              clear hB hnil
              go_wp2_with (at_builtin; refine wpList_append_own _ rfl _ _ 34 rfl w.heap.size 5 i0 (.int .u8 0) 1 1 Tryd.underlying34 hi hz0 hz1 hz2 rfl (by decide) _ _ _ rfl (HR1.out.alloc _) ⟨wr.heap.size, 0, none⟩ 1 1 [.int .u8 0] rfl rfl (cell_one_new _ _ _) (by simp [Value.oneCell']) (by unfold maxLen; omega) (by omega) (by simp; omega) ?_; intro v' w1 hown' hgrow hnn; have HNN := Lib.hid hnn; clear hnn; obtain ⟨g', cap', rfl⟩ := ownsRow_succ hown')
              have hB1 : Below w.heap.size w w1 := (HB1.out.alloc hszW _).grown hgrow (by simp; omega) (fun j ej => (HR1.out.lt j ej).1)
              go_roundw
              case rel => exact ⟨m + 1, by omega, by rw [List.replicate_succ', ← List.append_assoc]; simpa [u8s, Nat.add_assoc] using hown', by simp, hB1⟩
              case measure => simp only [sliceLen]; omega
            · have hmi : (z : Int) / 8 < ((l0.length : Int) + (m : Int)) := by omega
              have hme : m = z / 8 + 1 - l0.length := by omega
              have hlen : z / 8 < l0.length + m := by omega
              have hc8 : wr.cell? ⟨g, z / 8, none⟩ = some (.int .u8 (gd (l0 ++ List.replicate m 0) (z / 8)).toNat) := HCL.out (z / 8) _ (by
                have h : z / 8 < (l0 ++ List.replicate m 0).length := by simpa using hlen
                rw [gd_lt h]
                simp only [u8s, List.getElem?_map, List.getElem?_eq_getElem h]; rfl)
              have hf8 : wr.frozen? ⟨g, z / 8, none⟩ = false := row_frozen hrow rfl _
              have hbits := bits_or_bit (gd (l0 ++ List.replicate m 0) (z / 8)) z
              obtain ⟨hst, hgr⟩ := hrow.stored (z / 8) (.int .u8 (bor (gd (l0 ++ List.replicate m 0) (z / 8)) (UInt8.ofNat (2 ^ (z % 8) % 256))).toNat)
              rw [u8s_set] at hst
              have e : (l0 ++ List.replicate m 0).set (z / 8) (bor (gd (l0 ++ List.replicate m 0) (z / 8)) (UInt8.ofNat (2 ^ (z % 8) % 256))) = stepR l0 z := by rw [hme]; rfl
              have el : l0.length + m = (stepR l0 z).length := by rw [length_stepR]; omega
              rw [e, ← HST.out] at hst
              rw [← HST.out] at el
              have hB2 : Below w.heap.size w (wr.setCell ⟨g, z / 8, none⟩ (.int .u8 (bor (gd (l0 ++ List.replicate m 0) (z / 8)) (UInt8.ofNat (2 ^ (z % 8) % 256))).toNat)) := hB.setCell (p := ⟨g, z / 8, none⟩) hgb _
              have HS := Lib.hid hst
              have HE := Lib.hid el
              have HB2 := Lib.hid hB2
              clear hst hgr e el hB2 hme
              generalize bor (gd (l0 ++ List.replicate m 0) (z / 8)) (UInt8.ofNat (2 ^ (z % 8) % 256)) = x at hbits HS HB2
              go_wp2
              go_region
              all_goals go_wp2
              go_roundw
              case rel => exact ⟨k + 1, by omega, by go_num, by
                have h := drew_owns HS.out
                rw [← HE.out]; exact h, by simp, HB2.out.drew⟩
              case measure => simp [intOf]; omega
        · obtain rfl : k = zs.length := by omega
          have hrow := HR.out
          rw [List.take_length, rofL_eq HO.out] at hrow
          obtain ⟨g, cap, rfl, hgb, hgs, hcap1, hcap2, hcells⟩ := row_cells hrow HN.out
          have hconv : (convert 34 9 (.slice (some ⟨g, 0, none⟩) (ofL zs).length cap)).run Tryd.prog wr = .ok (str (ofL zs)) wr :=
            run_convert_bytes_back wr 34 9 5 ⟨g, 0, none⟩ cap (ofL zs) Tryd.underlying34 Tryd.underlying5 Tryd.underlying9 (fun j hj => by
              rw [Addr.add_lit, Nat.zero_add, hcells j (.int .u8 ((ofL zs)[j].toNat : Nat)) (by simp [u8s, hj])])
          have hB := HB.out
          clear hrow hcells
          go_wp2
          go_ret2
          exact ⟨rfl, hB⟩
theorem rof_nil (a : Option Addr) (cap : Nat) (w : World) :
    Calls Tryd.prog 44 #[.slice a 0 cap] w fun e w' => e = .returned (.tuple #[str [], .int .i64 0]) ∧ Below w.heap.size w w' := by
  have hconv : (convert 34 9 (.slice (some ⟨w.heap.size, 0, none⟩) 0 0)).run Tryd.prog (w.alloc (.cells #[] 5)) = .ok (str []) (w.alloc (.cells #[] 5)) :=
    run_convert_bytes_back _ 34 9 5 ⟨w.heap.size, 0, none⟩ 0 [] Tryd.underlying34 Tryd.underlying5 Tryd.underlying9 (fun j hj => by cases hj)
  go_enter Tryd.func44, Tryd.ntmps44
  go_wp2
  refine wp_loop_rounds 1 ?_
  rw [rounds_succ]
  go_wp2
  refine wp_loop_rounds 1 ?_
  rw [rounds_succ]
  go_wp2
  go_ret2
  exact ⟨rfl, (Below.refl _ w).alloc (Nat.le_refl _) _⟩

theorem rof_any (v : Value) (zs : List Int) (hz : zs.length ≤ 281474976710656) (w : World) (h : IntsAt w v zs) :
    Calls Tryd.prog 44 #[v] w fun e w' => e = .returned (ofV zs) ∧ Below w.heap.size w w' := by
  rcases h with ⟨rfl, rfl⟩ | ⟨b, off, cap, rfl, hb, hc⟩
  · exact (rof_nil none 0 w).mono fun e w' h => ⟨h.1, h.2⟩
  · cases hok : okI zs with
    | true =>
      refine (rof_yes b off cap zs hz hok w hb hc).mono fun e w' h => ⟨?_, h.2⟩
      rw [h.1, ofV, if_pos hok]
    | false =>
      refine (rof_no b off cap zs hz hok w hb hc).mono fun e w' h => ⟨?_, h.2⟩
      rw [h.1, ofV, hok]; rfl
theorem ofV_form (zs : List Int) : ∃ (t : ByteArray) (c : Int), ofV zs = .tuple #[.string t, .int .i64 c] := by
  unfold ofV; split
  · exact ⟨_, _, rfl⟩
  · exact ⟨_, _, rfl⟩
end Go.Proofs.YteboacjniokfpaaDoor

