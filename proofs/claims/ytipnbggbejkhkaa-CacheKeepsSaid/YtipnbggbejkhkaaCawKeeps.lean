/-
  Of keys that were put, one behind the other, just the last ones, as many as there is room for, are there, each with what was put last: for every number as the room, and every list of keys, of which the first three hundred are put.
  Conditions: none besides the row's own.
-/
import Derived.Test.YtipnbggbejkhkaaCacR
import Derived.Deep.RegionLaw
import Derived.Laws.Cover1
namespace Go.Proofs.Ytipnbggbejkhkaa.keeps
open Go.ChangeShapes Go.WideShapes Go.ChangeAt Go.RowKit Go

set_option maxRecDepth 100000 in
set_option maxHeartbeats 4000000 in
theorem walk (n : Int) (v : Value) (zs : List Int) (w : World) (_hn : -9223372036854775808 ≤ n ∧ n ≤ 9223372036854775807) (hI : IntsAt w v zs) (hz : zs.length ≤ 140737488351232 ∧ ∀ z ∈ zs, CI.Ok z) :
    Calls Try.prog 6 #[.int .i64 n, v] w fun r w' => r = .returned (.bool true) ∧ Below w.heap.size w w' := by
  by_cases h : n < 1 ∨ 65536 < n
  · have hB0 := CI.new_bad n h w
    obtain ⟨a, cap, rfl, -⟩ := hI
    clear hz h
    go_enter Try.func6, Try.ntmps6
    go_wp2_with fail
    refine hB0.mono ?_
    rintro e w1 ⟨rfl, B1⟩
    go_wp2_with fail
    refine (fixed_any _).mono ?_
    rintro e w2 ⟨rfl, B2⟩
    have B3 := B1.trans (B2.mono B1.size)
    clear B1 B2
    go_wp2_with fail
    go_ret
    exact ⟨rfl, B3⟩
  · obtain ⟨k, rfl⟩ : ∃ k : Nat, n = k := ⟨n.toNat, by omega⟩
    have h1 : 1 ≤ k := by omega
    have h2 : k ≤ 65536 := by omega
    obtain ⟨a, cap, rfl, ha⟩ := hI
    obtain ⟨hz1, hz2⟩ := hz
    have HA := Lib.hid ha
    have HZ := Lib.hid hz2
    obtain ⟨N, hN1, hN2, hm⟩ := min300 zs.length
    have HC1 := Lib.hid (CI.x_new (w0 := w) k h1 h2 (Below.refl _ w))
    have H12 := Lib.hid (And.intro h1 h2)
    have hk7 : (k : Int) ≤ 70000 := by omega
    clear ha hz2 h h1 h2
    go_enter Try.func6, Try.ntmps6
    go_wp2_with fail
    refine HC1.out.mono ?_
    rintro e w1 ⟨c, F, rfl, hc, -, -⟩
    have HC := Lib.hid hc
    clear hc HC1
    go_wp2_with fail
    go_loopw [8] (fun i wr => ∃ (j : Nat) (F : Nat → Prop), j ≤ N ∧ i = .int .i64 j ∧ CI.CX w F c k ((once (hist zs j)).take k) wr) (fun i _ => N - (intOf i).toNat)
    case atStart => exact ⟨0, F, Nat.zero_le _, rfl, by show CI.CX w F c k (List.take k []) _; rw [List.take_nil]; exact HC.out⟩
    case round =>
      clear HC
      obtain ⟨j, F, hj, rfl, hc⟩ := hrel
      have HC := Lib.hid hc
      clear hc
      by_cases hlt : j < N
      · have hlz : j < zs.length := by omega
        obtain ⟨b, off, rfl, hb, hcell⟩ := HA.out (by intro e; rw [e] at hlz; exact absurd hlz (by simp))
        have hx : wr.cell? ⟨b, off + j, none⟩ = some (.int .i64 zs[j]) := (HC.out.2.cell (p := ⟨b, off + j, none⟩) hb).trans (hcell j hlz)
        have hok := Lib.hid (HZ.out zs[j] (List.getElem_mem hlz))
        have HH := Lib.hid (show hist zs (j + 1) = (zs[j], tx j) :: hist zs j by show (zs.getD j 0, tx j) :: hist zs j = _; rw [List.getD_eq_getElem?_getD, List.getElem?_eq_getElem hlz]; rfl)
        have hji : (j : Int) < (N : Int) := by omega
        have hjz : (j : Int) < (zs.length : Int) := by omega
        have hj0 : (0 : Int) ≤ (j : Int) := Int.natCast_nonneg _
        obtain ⟨hu1, hu2⟩ := byte_at j
        have HTX := Lib.hid (show tx j = ⟨#[UInt8.ofNat j, UInt8.ofNat (j / 256)]⟩ from rfl)
        generalize UInt8.ofNat j = u1 at hu1 HTX
        generalize UInt8.ofNat (j / 256) = u2 at hu2 HTX
        have hu3 : IntKind.u8.wrap ((j : Int).tdiv 256) = (u2.toNat : Int) := by rw [Int.tdiv_eq_ediv_of_nonneg hj0]; exact hu2
        have hu4 : IntKind.i64.wrap ((j : Int) / 256) = (j : Int) / 256 := IntWalk.i64_in _ (by omega)
        clear hcell
        generalize zs[j] = z at *
        have hB3 := ((Below.refl wr.heap.size wr).alloc (Nat.le_refl _) (.cells #[.int .u8 (u1.toNat : Nat), .int .u8 (u2.toNat : Nat)] 5)).drew
        have hcv := conv_two (show (wr.alloc (.cells #[.int .u8 (u1.toNat : Nat), .int .u8 (u2.toNat : Nat)] 5)).drew.heap[wr.heap.size]? = _ from heap_alloc_new _ _)
        have HC3 := Lib.hid (HC.out.later hB3)
        have hx2 : (wr.alloc (.cells #[.int .u8 (u1.toNat : Nat), .int .u8 (u2.toNat : Nat)] 5)).cell? ⟨b, off + j, none⟩ = some (.int .i64 z) := by
          rw [World.cell?_alloc_lt _ _ _ (Nat.lt_of_lt_of_le hb HC.out.2.size)]; exact hx
        clear hB3
        go_wp2_with fail
        go_region_law (go_simp; go_at_call 14; refine (CI.x_put HC3.out hok.out ⟨#[u1, u2]⟩).mono ?_; rintro e w2 ⟨rfl, F2, hc2, hs2⟩; have HC2 := Lib.hid hc2; clear hc2 hs2)
        all_goals (
          go_wp2_with fail
          go_roundw
          case rel => exact ⟨j + 1, F2, hlt, by go_num, by rw [HH.out, ← put_once k H12.out.1]; rw [HTX.out]; exact HC2.out⟩
          case measure => simp [intOf]; omega)
      · have hjN : j = N := by omega
        obtain rfl := hjN
        have hw2 : w.heap.size ≤ wr.heap.size := HC.out.2.size
        obtain ⟨wS, rfl⟩ : ∃ wS : World, wS = wr := ⟨_, rfl⟩
        obtain ⟨N, rfl⟩ : ∃ N : Nat, N = j := ⟨_, rfl⟩
        obtain ⟨i0, hi, hz0, hz1', hz2'⟩ := info_parts CI.infoK
        obtain ⟨i1, hj1, hj2, hj3, hj4⟩ := info_parts infoS
        obtain ⟨A, hA⟩ : ∃ A, (once (hist zs N)).take k = A := ⟨_, rfl⟩
        have hAn : (keysL A).Nodup := by rw [← hA]; exact (List.Sublist.map _ (List.take_sublist _ _)).nodup (once_nodup _)
        have hAl : A.length ≤ k := by rw [← hA, List.length_take]; omega
        have hsc0 := scan_all k (hist zs N)
        rw [hA] at hsc0
        have HSC0 := Lib.hid hsc0
        have hc2 := HC.out
        rw [hA] at hc2
        have HC2 := Lib.hid hc2
        have HAN := Lib.hid hAn
        have O1 := Lib.hid (World.ownsRow_made (e := 3) (size := 1) wS #[] 0 (Nat.le_refl _) (by decide) rfl)
        have O2 := Lib.hid (World.ownsRow_made (base := wS.heap.size) (e := 9) (size := 1) (wS.alloc (.cells #[] 3)) #[] 0 (by simp) (by decide) rfl)
        have O1' := Lib.hid (O1.out.alloc (.cells #[] 9))
        rw [World.size_alloc] at O2
        have hBS := Lib.hid (((Below.refl wS.heap.size wS).alloc (Nat.le_refl _) (.cells #[] 3)).alloc (by simp) (.cells #[] 9))
        clear HC hA hAn hsc0 hc2
        have hNz : (N : Int) ≤ 300 := by omega
        go_wp2_with fail
        go_loopw [9, 10, 11] (fun vw vt i wx => ∃ (m : Nat) (x : Int) (acc : List (Int × ByteArray)) (gw gt : Nat), m ≤ N ∧ i = .int .i64 x ∧ x = (m : Int) - 1 ∧ acc.length ≤ k ∧ Hid (scan k acc (hist zs m) = A) ∧ wx.ownsRow wS.heap.size 3 1 vw acc.length (CI.keyVals (keysL acc)) ∧ wx.ownsRow wS.heap.size 9 1 vt acc.length (strVals acc) ∧ vw.ownBlock = some gw ∧ vt.ownBlock = some gt ∧ gw ≠ gt ∧ Below wS.heap.size wS wx) (fun _ _ i _ => (intOf i + 1).toNat)
        case atStart => exact ⟨N, _, [], wS.heap.size, wS.heap.size + 1, Nat.le_refl _, rfl, rfl, Nat.zero_le _, HSC0, O1'.out, O2.out, rfl, rfl, by omega, hBS.out⟩
        case round =>
          clear HSC0 O1 O2 O1' hBS
          obtain ⟨m, x, acc, gw, gt, hmN, rfl, hx, hal, hsc, hrw, hrt, hgw, hgt, hne, hB⟩ := hrel
          obtain ⟨wx, rfl⟩ : ∃ wx : World, wx = wr := ⟨_, rfl⟩
          obtain ⟨aw, capw, rfl⟩ := row_shape hrw
          obtain ⟨at_, capt, rfl⟩ := row_shape hrt
          have HRW := Lib.hid hrw
          have HRT := Lib.hid hrt
          have HGW := Lib.hid hgw
          have HGT := Lib.hid hgt
          have HNE := Lib.hid hne
          have HB := Lib.hid hB
          have HSC := hsc
          clear hrw hrt hgw hgt hne hB hsc
          by_cases hgo : 0 < m ∧ acc.length < k
          · obtain ⟨hm0, hacck⟩ := hgo
            obtain ⟨i, rfl⟩ : ∃ i, m = i + 1 := ⟨m - 1, by omega⟩
            obtain rfl : x = (i : Int) := by omega
            have hacci : (acc.length : Int) < (k : Int) := by omega
            have hi0 : (0 : Int) ≤ (i : Int) := Int.natCast_nonneg _
            have hlz : i < zs.length := by omega
            obtain ⟨b, off, rfl, hb, hcell⟩ := HA.out (by intro e; rw [e] at hlz; exact absurd hlz (by simp))
            have hcz : w.cell? ⟨b, off + i, none⟩ = some (.int .i64 zs[i]) := hcell i hlz
            have HH := Lib.hid (show hist zs (i + 1) = (zs[i], tx i) :: hist zs i by show (zs.getD i 0, tx i) :: hist zs i = _; rw [List.getD_eq_getElem?_getD, List.getElem?_eq_getElem hlz]; rfl)
            have hiz : (i : Int) < (zs.length : Int) := by omega
            have hi3 : (i : Int) ≤ 300 := by omega
            obtain ⟨hu1, hu2⟩ := byte_at i
            have HTX := Lib.hid (show tx i = ⟨#[UInt8.ofNat i, UInt8.ofNat (i / 256)]⟩ from rfl)
            generalize UInt8.ofNat i = u1 at hu1 HTX
            generalize UInt8.ofNat (i / 256) = u2 at hu2 HTX
            have HCZ := Lib.hid hcz
            clear hcell hcz
            generalize zs[i] = z at *
            clear hx hm0
            go_wp2_with fail
            go_loopw [12, 13] (fun t q wy => ∃ (p : Nat) (fb : Bool), p ≤ acc.length ∧ q = .int .i64 p ∧ t = .bool fb ∧ Hid (fb = decide (z ∈ (keysL acc).take p)) ∧ Below wx.heap.size wx wy) (fun _ q _ => acc.length - (intOf q).toNat)
            case atStart => exact ⟨0, false, Nat.zero_le _, rfl, rfl, Lib.hid (by simp), Below.refl _ _⟩
            case round =>
              obtain ⟨p, fb, hp, rfl, rfl, hfb, hBy⟩ := hrel
              obtain ⟨wy, rfl⟩ : ∃ wy : World, wy = wr := ⟨_, rfl⟩
              have HBy := Lib.hid hBy
              have hcy : wy.cell? ⟨b, off + i, none⟩ = some (.int .i64 z) := ((HBy.out.cell (p := ⟨b, off + i, none⟩) (Nat.lt_of_lt_of_le (Nat.lt_of_lt_of_le hb hw2) HB.out.size)).trans (HB.out.cell (p := ⟨b, off + i, none⟩) (Nat.lt_of_lt_of_le hb hw2))).trans ((HC2.out.2.cell (p := ⟨b, off + i, none⟩) hb).trans HCZ.out)
              clear hBy
              by_cases hlt3 : p < acc.length
              · have hpi : (p : Int) < (acc.length : Int) := by omega
                obtain ⟨g, cap5, e5, hg1, hg2⟩ := HRW.out.form (by omega)
                obtain ⟨rfl, rfl⟩ : aw = some ⟨g, 0, none⟩ ∧ capw = cap5 := by simp at e5; exact e5
                have hkl : p < (keysL acc).length := by unfold keysL; rw [List.length_map]; exact hlt3
                have cw : wy.cell? ⟨g, p, none⟩ = some (.int .i64 (keysL acc)[p]) := by
                  refine (HBy.out.cell (p := ⟨g, p, none⟩) hg2).trans ?_
                  rw [HRW.out.cellAt p (by omega)]
                  unfold CI.keyVals
                  rw [List.getElem?_map, List.getElem?_eq_getElem hkl]; rfl
                have htk := List.take_succ_eq_append_getElem hkl
                cases fb with
                | true =>
                  have hfb2 : Hid (true = decide (z ∈ (keysL acc).take (p + 1))) := Lib.hid (by
                    have := hfb.out
                    rw [htk]
                    symm; rw [decide_eq_true_eq]
                    exact List.mem_append_left _ (by simpa using this.symm))
                  clear hfb htk e5 cw
                  go_wp2_with fail
                  go_region
                  all_goals (
                    go_wp2_with fail
                    go_roundw
                    case rel => exact ⟨p + 1, true, hlt3, by go_num, rfl, hfb2, HBy.out.drew⟩
                    case measure => simp [intOf]; omega)
                | false =>
                  by_cases hxz : (keysL acc)[p] = z
                  · have hfb2 : Hid (true = decide (z ∈ (keysL acc).take (p + 1))) := Lib.hid (by
                      rw [htk, hxz]
                      symm; rw [decide_eq_true_eq]
                      simp)
                    generalize (keysL acc)[p] = y at *
                    have hyz : (y == z) = true := by simp [hxz]
                    clear hfb htk e5 hxz
                    go_wp2_with fail
                    go_region
                    all_goals (
                      go_wp2_with fail
                      go_roundw
                      case rel => exact ⟨p + 1, true, hlt3, by go_num, rfl, hfb2, HBy.out.drew⟩
                      case measure => simp [intOf]; omega)
                  · have hfb2 : Hid (false = decide (z ∈ (keysL acc).take (p + 1))) := Lib.hid (by
                      have := hfb.out
                      rw [htk]
                      symm; rw [decide_eq_false_iff_not]
                      intro hm
                      rcases List.mem_append.1 hm with h | h
                      · have := this.symm; simp [h] at this
                      · exact hxz (List.mem_singleton.1 h).symm)
                    generalize (keysL acc)[p] = y at *
                    have hyz : (y == z) = false := by simp [hxz]
                    clear hfb htk e5 hxz
                    go_wp2_with fail
                    go_region
                    all_goals (
                      go_wp2_with fail
                      go_roundw
                      case rel => exact ⟨p + 1, false, hlt3, by go_num, rfl, hfb2, HBy.out.drew⟩
                      case measure => simp [intOf]; omega)
              · obtain rfl : p = acc.length := by omega
                have hfb2 := hfb.out
                rw [show (keysL acc).take acc.length = keysL acc from List.take_of_length_le (by unfold keysL; rw [List.length_map]; exact Nat.le_refl _)] at hfb2
                have HFB := Lib.hid hfb2
                clear hfb hfb2
                cases fb with
                | true =>
                  have HB2 := Lib.hid (HB.out.trans (HBy.out.mono HB.out.size))
                  have HRW2 := Lib.hid (ownsRow_of_block HRW.out (fun j e => HBy.out.block j (HRW.out.lt j e).2))
                  have HRT2 := Lib.hid (ownsRow_of_block HRT.out (fun j e => HBy.out.block j (HRT.out.lt j e).2))
                  have hsc2 : Hid (scan k acc (hist zs i) = A) := Lib.hid (by
                    have h := HSC.out
                    rw [HH.out, scan, if_pos hacck] at h
                    have hz : z ∈ keysL acc := by have := HFB.out.symm; simpa using this
                    rw [if_pos hz] at h
                    exact h)
                  go_wp2_with fail
                  go_roundw
                  case rel => exact ⟨i, _, acc, gw, gt, by omega, rfl, rfl, hal, hsc2, HRW2.out, HRT2.out, HGW.out, HGT.out, HNE.out, HB2.out⟩
                  case measure => first | (simp [intOf]; done) | (simp [intOf]; omega)
                | false =>
                  have hsz1 : wS.heap.size ≤ wx.heap.size := HB.out.size
                  have hsz2 : wx.heap.size ≤ wy.heap.size := HBy.out.size
                  have hrw2 := ownsRow_of_block HRW.out (fun j e => HBy.out.block j (HRW.out.lt j e).2)
                  have hrt2 := ownsRow_of_block HRT.out (fun j e => HBy.out.block j (HRT.out.lt j e).2)
                  have hsc2 : Hid (scan k (acc ++ [(z, tx i)]) (hist zs i) = A) := Lib.hid (by
                    have h := HSC.out
                    rw [HH.out, scan, if_pos hacck] at h
                    have hz : ¬ z ∈ keysL acc := by have := HFB.out.symm; simpa using this
                    rw [if_neg hz] at h
                    exact h)
                  have hk2 := H12.out.2
                  have hgtl : gt < wy.heap.size := (hrt2.lt gt HGT.out).2
                  have hgwl : gw < wy.heap.size := (hrw2.lt gw HGW.out).2
                  have HL1 := Lib.hid (show (acc ++ [(z, tx i)]).length = acc.length + 1 by simp)
                  have HL2 := Lib.hid (show CI.keyVals (keysL (acc ++ [(z, tx i)])) = CI.keyVals (keysL acc) ++ [.int .i64 z] by rw [keysL_append]; unfold CI.keyVals; rw [List.map_append]; rfl)
                  have HL3 := Lib.hid (show strVals (acc ++ [(z, tx i)]) = strVals acc ++ [.string ⟨#[u1, u2]⟩] by unfold strVals; rw [List.map_append, ← HTX.out]; rfl)
                  have HB2 := Lib.hid (HB.out.trans (HBy.out.mono HB.out.size))
                  clear hk2
                  have hk3 := H12.out.2
                  have hu4 : IntKind.i64.wrap ((i : Int) / 256) = (i : Int) / 256 := IntWalk.i64_in _ (by omega)
                  go_wp2_with (first
                    | (at_builtin; refine wpList_append_own_at _ rfl _ _ 27 rfl wS.heap.size 3 i0 (.int .i64 0) 1 8 Try.underlying27 hi hz0 hz1' hz2' rfl (by decide) _ _ _ rfl (hrw2.alloc _) ⟨wy.heap.size, 0, none⟩ 1 1 [.int .i64 z] rfl rfl (cell_one_new _ _ _) (by simp [Value.oneCell']) (by unfold maxLen; omega) (by omega) (by simp; omega) ?_; intro v6 w6 hown6 hgrow6 _ hat6; have hsz6 : wy.heap.size + 1 ≤ w6.heap.size := (by have := hgrow6.size; simp at this; exact this); have hrt6 := ownsRow_of_block hrt2 (fun j e => (hgrow6.block j (by have := (hrt2.lt j e).2; simp; omega) (by intro e2; exact HNE.out (by have h3 := HGW.out; have h4 := HGT.out; have h5 := e.symm.trans h4; have h6 := e2.trans h3; have h7 := Option.some.inj h5; have h8 := Option.some.inj h6; omega))).trans (Below.heap_alloc wy _ j (hrt2.lt j e).2)); have hcv := conv_two (heap_alloc_new w6 (.cells #[.int .u8 (u1.toNat : Nat), .int .u8 (u2.toNat : Nat)] 5)); have hB6 : Below wS.heap.size wy w6 := ((Below.refl _ wy).alloc (by omega) _).grown hgrow6 (by simp; omega) (fun j ej => (hrw2.lt j ej).1); have HO6 := Lib.hid hown6; have HAT6 := Lib.hid hat6; have HB6 := Lib.hid hB6; clear hown6 hgrow6 hat6 hB6)
                    | (at_builtin; refine wpList_append_own_at _ rfl _ _ 50 rfl wS.heap.size 9 i1 (.string ⟨#[]⟩) 1 16 Try.underlying50 hj1 hj2 hj3 hj4 rfl (by decide) _ _ _ rfl ((hrt6.alloc _).alloc _) ⟨w6.heap.size + 1, 0, none⟩ 1 1 [.string ⟨#[u1, u2]⟩] rfl rfl (by simpa using cell_one_new (w6.alloc (.cells #[.int .u8 (u1.toNat : Nat), .int .u8 (u2.toNat : Nat)] 5)) (.string ⟨#[u1, u2]⟩) 9) (by simp [Value.oneCell']) (by unfold maxLen; omega) (by omega) (by simp; omega) ?_; intro v7 w7 hown7 hgrow7 _ hat7; have HO7 := Lib.hid hown7; have HG7 := Lib.hid hgrow7; have HAT7 := Lib.hid hat7; clear hown7 hgrow7 hat7))
                  go_roundw
                  case rel =>
                    obtain ⟨g6, cap6, e6, hg6a, hg6b⟩ := HO6.out.form (by omega)
                    obtain ⟨g7, cap7, e7, hg7a, hg7b⟩ := HO7.out.form (by omega)
                    have b6 : v6.ownBlock = some g6 := by rw [e6]; rfl
                    have b7 : v7.ownBlock = some g7 := by rw [e7]; rfl
                    have k6 : g6 = gw ∨ wy.heap.size + 1 = g6 := by
                      rcases HAT6.out with h | h
                      · left
                        have h2 : v6.ownBlock = some gw := h.trans HGW.out
                        rw [b6] at h2
                        exact Option.some.inj h2
                      · right
                        rw [b6] at h
                        have := Option.some.inj h
                        simp at this
                        exact this.symm
                    have k7 : g7 = gt ∨ w6.heap.size + 1 + 1 = g7 := by
                      rcases HAT7.out with h | h
                      · left
                        have h2 : v7.ownBlock = some gt := h.trans HGT.out
                        rw [b7] at h2
                        exact Option.some.inj h2
                      · right
                        rw [b7] at h
                        have := Option.some.inj h
                        simp at this
                        exact this.symm
                    have hne6 : g6 ≠ gt := by rcases k6 with h | h; (rw [h]; exact HNE.out); omega
                    have hne7 : g6 ≠ g7 := by rcases k7 with h | h; (rw [h]; exact hne6); omega
                    have hw7 : w7.ownsRow wS.heap.size 3 1 v6 (acc.length + 1) (CI.keyVals (keysL acc) ++ [.int .i64 z]) := by
                      have h1 := (HO6.out.alloc (.cells #[.int .u8 (u1.toNat : Nat), .int .u8 (u2.toNat : Nat)] 5)).alloc (.cells #[.string ⟨#[u1, u2]⟩] 9)
                      exact h1.kept HG7.out (Or.inr (by
                        intro e
                        have h3 : v6.ownBlock = some gt := e.trans HGT.out
                        rw [b6] at h3
                        exact hne6 (Option.some.inj h3)))
                    have hB7 : Below wS.heap.size w6 w7 := (((Below.refl _ w6).alloc (by omega) (.cells #[.int .u8 (u1.toNat : Nat), .int .u8 (u2.toNat : Nat)] 5)).alloc (by simp; omega) (.cells #[.string ⟨#[u1, u2]⟩] 9)).grown HG7.out (by simp; omega) (fun j e => by
                      have h3 : some gt = some j := HGT.out.symm.trans e
                      have := Option.some.inj h3
                      have := (hrt2.lt gt HGT.out).1
                      omega)
                    exact ⟨i, _, acc ++ [(z, tx i)], g6, g7, by omega, rfl, rfl, by rw [HL1.out]; omega, hsc2, by rw [HL1.out, HL2.out]; exact hw7, by rw [HL1.out, HL3.out]; exact HO7.out, b6, b7, hne7, (HB2.out.trans HB6.out).trans hB7⟩
                  case measure => first | (simp [intOf]; done) | (simp [intOf]; omega)
          · have hx2 : acc = A := by
              have h := HSC.out
              rcases Nat.eq_zero_or_pos m with h0 | h0
              · rw [h0] at h; exact h
              · obtain ⟨m', rfl⟩ : ∃ m', m = m' + 1 := ⟨m - 1, by omega⟩
                rw [show hist zs (m' + 1) = (zs.getD m' 0, tx m') :: hist zs m' from rfl, scan, if_neg (by omega)] at h
                exact h
            subst hx2
            have HCx := Lib.hid (HC2.out.later HB.out)
            have RW := Lib.hid (show RowIn F wx wS.heap.size 3 1 (.slice aw acc.length capw) acc.length (CI.keyVals (keysL acc)) from ⟨HRW.out, fun i hi hF => by have := (HRW.out.lt i hi).1; have := HC2.out.lt hF; omega⟩)
            have RT := Lib.hid (show RowIn F wx wS.heap.size 9 1 (.slice at_ acc.length capt) acc.length (strVals acc) from ⟨HRT.out, fun i hi hF => by have := (HRT.out.lt i hi).1; have := HC2.out.lt hF; omega⟩)
            have hkl : (keysL acc).length = acc.length := by unfold keysL; rw [List.length_map]
            have HKL := Lib.hid hkl
            have HOKA := Lib.hid HC2.out.ok
            have hal2 : acc.length ≤ 65536 := by have := H12.out.2; omega
            have hexit : (x < 0) ∨ (0 ≤ x ∧ (k : Int) ≤ (acc.length : Int)) := by omega
            clear HSC HRW HRT HGW HGT HNE HB HC2 hgo hx hkl hAl hal
            rcases hexit with hx1 | ⟨hx1, hx3⟩
            all_goals (
              go_wp2_with fail
              refine (CI.x_keys HCx.out).mono ?_
              rintro e w6 ⟨v6, rfl, hr6, hc6, hB6⟩
              have HC6 := Lib.hid hc6
              have RW6 := Lib.hid (RW.out.later hB6)
              have RT6 := Lib.hid (RT.out.later hB6)
              have HR6 := Lib.hid hr6
              clear hr6 hc6 hB6
              go_wp2_with fail
              refine (same_self v6 _ (keysL acc) (by rw [HKL.out]; omega) _ (ints_of_row HR6.out.1) (ints_of_row (by rw [HKL.out]; exact RW6.out.1))).mono ?_
              rintro e w7 ⟨rfl, hB7⟩
              have HC7 := Lib.hid (HC6.out.later hB7)
              have RW7 := Lib.hid (RW6.out.later hB7)
              have RT7 := Lib.hid (RT6.out.later hB7)
              clear hB7 HR6 HCx RW RT HC6 RW6 RT6
              go_wp2_with fail
              go_loopw [14] (fun i wl => ∃ (p : Nat) (F : Nat → Prop) (L : List (Int × ByteArray)), p ≤ acc.length ∧ i = .int .i64 p ∧ Hid (∀ x, getL L x = getL acc x) ∧ CI.CX w F c k L wl ∧ RowIn F wl wS.heap.size 3 1 (.slice aw acc.length capw) acc.length (CI.keyVals (keysL acc)) ∧ RowIn F wl wS.heap.size 9 1 (.slice at_ acc.length capt) acc.length (strVals acc)) (fun i _ => acc.length - (intOf i).toNat)
              case atStart => exact ⟨0, F, acc, Nat.zero_le _, rfl, Lib.hid (fun _ => rfl), HC7.out, RW7.out, RT7.out⟩
              case round =>
                clear HC7 RW7 RT7
                obtain ⟨p, F2, L, hp, rfl, hge, hc, hrw, hrt⟩ := hrel
                obtain ⟨wl, rfl⟩ : ∃ wl : World, wl = wr := ⟨_, rfl⟩
                have HC8 := Lib.hid hc
                have RW8 := Lib.hid hrw
                have RT8 := Lib.hid hrt
                clear hc hrw hrt
                by_cases hlt4 : p < acc.length
                · have hpi : (p : Int) < (acc.length : Int) := by omega
                  obtain ⟨g, cap5, e5, hg1, hg2⟩ := RW8.out.1.form (by omega)
                  obtain ⟨rfl, rfl⟩ : aw = some ⟨g, 0, none⟩ ∧ capw = cap5 := by simp at e5; exact e5
                  obtain ⟨g2, cap6, e6, hg3, hg4⟩ := RT8.out.1.form (by omega)
                  obtain ⟨rfl, rfl⟩ : at_ = some ⟨g2, 0, none⟩ ∧ capt = cap6 := by simp at e6; exact e6
                  have cw : wl.cell? ⟨g, p, none⟩ = some (.int .i64 acc[p].1) := by
                    rw [RW8.out.1.cellAt p (by omega)]
                    unfold CI.keyVals keysL
                    rw [List.map_map, List.getElem?_map, List.getElem?_eq_getElem hlt4]; rfl
                  have hok := Lib.hid (HOKA.out acc[p] (List.getElem_mem hlt4))
                  have hgv := getL_at HAN.out hlt4
                  rw [← hge.out] at hgv
                  have HGV := Lib.hid (show CI.getV L acc[p].1 = .tuple #[.string acc[p].2, .bool true] by unfold CI.getV; rw [hgv])
                  have hct : (strVals acc)[p]? = some (.string acc[p].2) := by unfold strVals; rw [List.getElem?_map, List.getElem?_eq_getElem hlt4]; rfl
                  have HCT := Lib.hid hct
                  obtain ⟨zk, hzk⟩ : ∃ zk, acc[p].1 = zk := ⟨_, rfl⟩
                  obtain ⟨zt, hzt⟩ : ∃ zt, acc[p].2 = zt := ⟨_, rfl⟩
                  rw [hzk] at cw hok HGV
                  rw [hzt] at HGV HCT
                  clear hgv hct hzk hzt e5 e6
                  go_wp2_with fail
                  refine (CI.x_get HC8.out hok.out).mono ?_
                  rintro e w8 ⟨he, F8, hc8, hs8⟩
                  rw [HGV.out] at he
                  subst he
                  have HC9 := Lib.hid hc8
                  have RW9 := Lib.hid (RW8.out.step hs8)
                  have hrt9 := RT8.out.step hs8
                  have RT9 := Lib.hid hrt9
                  have ct : w8.cell? ⟨g2, p, none⟩ = some (.string zt) := by rw [hrt9.1.cellAt p (by omega)]; exact HCT.out
                  have HGE := Lib.hid (show ∀ x, getL (useL L zk) x = getL acc x from fun x => (useL_get L zk x).trans (hge.out x))
                  clear hc8 hs8 hrt9 cw
                  go_wp2_with fail
                  go_roundw
                  case rel => exact ⟨p + 1, F8, _, hlt4, by go_num, HGE.out, HC9.out, RW9.out, RT9.out⟩
                  case measure => first | (simp [intOf]; done) | (simp [intOf]; omega)
                · clear RT8
                  go_wp2_with fail
                  go_loopw [17] (fun i wl => ∃ (p : Nat) (F : Nat → Prop) (L : List (Int × ByteArray)), p ≤ N ∧ i = .int .i64 p ∧ Hid (∀ x, getL L x = getL acc x) ∧ CI.CX w F c k L wl ∧ RowIn F wl wS.heap.size 3 1 (.slice aw acc.length capw) acc.length (CI.keyVals (keysL acc))) (fun i _ => N - (intOf i).toNat)
                  case atStart => exact ⟨0, F2, L, Nat.zero_le _, rfl, hge, HC8.out, RW8.out⟩
                  case round =>
                    clear HC8 RW8 hge
                    obtain ⟨i, F3, L3, hi5, rfl, hge3, hc, hrw⟩ := hrel
                    obtain ⟨wq, rfl⟩ : ∃ wq : World, wq = wr := ⟨_, rfl⟩
                    have HC8 := Lib.hid hc
                    have RW8 := Lib.hid hrw
                    clear hc hrw
                    by_cases hlt5 : i < N
                    · have hiN : (i : Int) < (N : Int) := by omega
                      have hlz : i < zs.length := by omega
                      obtain ⟨b, off, rfl, hb, hcell⟩ := HA.out (by intro e; rw [e] at hlz; exact absurd hlz (by simp))
                      have hcz : w.cell? ⟨b, off + i, none⟩ = some (.int .i64 zs[i]) := hcell i hlz
                      have hok := Lib.hid (HZ.out zs[i] (List.getElem_mem hlz))
                      have hiz : (i : Int) < (zs.length : Int) := by omega
                      have HCZ := Lib.hid hcz
                      have cq : wq.cell? ⟨b, off + i, none⟩ = some (.int .i64 zs[i]) := (HC8.out.2.cell (p := ⟨b, off + i, none⟩) hb).trans hcz
                      obtain ⟨ok, hokd⟩ : ∃ ok, (getL L3 zs[i]).isSome = ok := ⟨_, rfl⟩
                      have hgv : ∃ s, CI.getV L3 zs[i] = .tuple #[.string s, .bool ok] := by
                        unfold CI.getV
                        rw [← hokd]
                        cases getL L3 zs[i] with
                        | none => exact ⟨_, rfl⟩
                        | some s => exact ⟨_, rfl⟩
                      obtain ⟨s, hgv⟩ := hgv
                      have HGV := Lib.hid hgv
                      have HOKD := Lib.hid (show ok = decide (zs[i] ∈ keysL acc) by rw [← hokd, hge3.out, getL_some])
                      clear hcell hcz hokd hgv
                      generalize zs[i] = z at *
                      go_wp2_with fail
                      refine (CI.x_get HC8.out hok.out).mono ?_
                      rintro e w8 ⟨he, F8, hc8, hs8⟩
                      rw [HGV.out] at he
                      subst he
                      have HC9 := Lib.hid hc8
                      have RW9 := Lib.hid (RW8.out.step hs8)
                      have HGE := Lib.hid (show ∀ x, getL (useL L3 z) x = getL acc x from fun x => (useL_get L3 z x).trans (hge3.out x))
                      clear hc8 hs8 cq HC8 RW8 hge3
                      go_wp2_with fail
                      go_loopw [20, 21] (fun t q wy => ∃ (p : Nat) (fb : Bool), p ≤ acc.length ∧ q = .int .i64 p ∧ t = .bool fb ∧ Hid (fb = decide (z ∈ (keysL acc).take p)) ∧ Below w8.heap.size w8 wy) (fun _ q _ => acc.length - (intOf q).toNat)
                      case atStart => exact ⟨0, false, Nat.zero_le _, rfl, rfl, Lib.hid (by simp), Below.refl _ _⟩
                      case round =>
                        obtain ⟨p, fb, hp, rfl, rfl, hfb, hBy⟩ := hrel
                        obtain ⟨wy, rfl⟩ : ∃ wy : World, wy = wr := ⟨_, rfl⟩
                        have HBy := Lib.hid hBy
                        have hcy : wy.cell? ⟨b, off + i, none⟩ = some (.int .i64 z) := ((HBy.out.cell (p := ⟨b, off + i, none⟩) (Nat.lt_of_lt_of_le hb HC9.out.2.size)).trans (HC9.out.2.cell (p := ⟨b, off + i, none⟩) hb)).trans HCZ.out
                        clear hBy
                        by_cases hlt6 : p < acc.length
                        · have hpi : (p : Int) < (acc.length : Int) := by omega
                          obtain ⟨g, cap5, e5, hg1, hg2⟩ := RW9.out.1.form (by omega)
                          obtain ⟨rfl, rfl⟩ : aw = some ⟨g, 0, none⟩ ∧ capw = cap5 := by simp at e5; exact e5
                          have hkl : p < (keysL acc).length := by unfold keysL; rw [List.length_map]; exact hlt6
                          have cw : wy.cell? ⟨g, p, none⟩ = some (.int .i64 (keysL acc)[p]) := by
                            refine (HBy.out.cell (p := ⟨g, p, none⟩) hg2).trans ?_
                            rw [RW9.out.1.cellAt p (by omega)]
                            unfold CI.keyVals
                            rw [List.getElem?_map, List.getElem?_eq_getElem hkl]; rfl
                          have htk := List.take_succ_eq_append_getElem hkl
                          cases fb with
                          | true =>
                            have hfb2 : Hid (true = decide (z ∈ (keysL acc).take (p + 1))) := Lib.hid (by
                              have := hfb.out
                              rw [htk]
                              symm; rw [decide_eq_true_eq]
                              exact List.mem_append_left _ (by simpa using this.symm))
                            clear hfb htk e5 cw
                            go_wp2_with fail
                            go_region
                            all_goals (
                              go_wp2_with fail
                              go_roundw
                              case rel => exact ⟨p + 1, true, hlt6, by go_num, rfl, hfb2, HBy.out.drew⟩
                              case measure => simp [intOf]; omega)
                          | false =>
                            by_cases hxz : (keysL acc)[p] = z
                            · have hfb2 : Hid (true = decide (z ∈ (keysL acc).take (p + 1))) := Lib.hid (by
                                rw [htk, hxz]
                                symm; rw [decide_eq_true_eq]
                                simp)
                              generalize (keysL acc)[p] = y at *
                              have hyz : (y == z) = true := by simp [hxz]
                              clear hfb htk e5 hxz
                              go_wp2_with fail
                              go_region
                              all_goals (
                                go_wp2_with fail
                                go_roundw
                                case rel => exact ⟨p + 1, true, hlt6, by go_num, rfl, hfb2, HBy.out.drew⟩
                                case measure => simp [intOf]; omega)
                            · have hfb2 : Hid (false = decide (z ∈ (keysL acc).take (p + 1))) := Lib.hid (by
                                have := hfb.out
                                rw [htk]
                                symm; rw [decide_eq_false_iff_not]
                                intro hm
                                rcases List.mem_append.1 hm with h | h
                                · have := this.symm; simp [h] at this
                                · exact hxz (List.mem_singleton.1 h).symm)
                              generalize (keysL acc)[p] = y at *
                              have hyz : (y == z) = false := by simp [hxz]
                              clear hfb htk e5 hxz
                              go_wp2_with fail
                              go_region
                              all_goals (
                                go_wp2_with fail
                                go_roundw
                                case rel => exact ⟨p + 1, false, hlt6, by go_num, rfl, hfb2, HBy.out.drew⟩
                                case measure => simp [intOf]; omega)
                        · obtain rfl : p = acc.length := by omega
                          have hfb2 := hfb.out
                          rw [show (keysL acc).take acc.length = keysL acc from List.take_of_length_le (by rw [HKL.out]; exact Nat.le_refl _), ← HOKD.out] at hfb2
                          subst hfb2
                          have HC10 := Lib.hid (HC9.out.later HBy.out)
                          have RW10 := Lib.hid (RW9.out.later HBy.out)
                          clear hfb
                          go_wp2_with fail
                          go_roundw
                          case rel => exact ⟨i + 1, F8, _, hlt5, by go_num, HGE.out, HC10.out, RW10.out⟩
                          case measure => first | (simp [intOf]; done) | (simp [intOf]; omega)
                    · have HB9 := Lib.hid HC8.out.2
                      clear HC8 RW8
                      go_wp2_with fail
                      refine (fixed_any _).mono ?_
                      rintro e w9 ⟨rfl, B9⟩
                      have HB10 := HB9.out.trans (B9.mono HB9.out.size)
                      clear B9
                      go_wp2_with fail
                      go_ret
                      exact ⟨rfl, HB10⟩)
set_option maxRecDepth 100000 in
/-- WHAT THE WALK GIVES, for every argument that can be read. -/
theorem contract (H : Type) (enc : TypeId × Value → H) (W : World) (base : Nat) (args : Array Value) (ds gs : List (DataW H)) (before : List MemPlace)
    (hval : ∀ (j : Nat) t v, Try.f6.params[j]? = some t → args[j]? = some v → Value.okWide Try.prog W .any base t v)
    (hW : DataW.Whole enc Try.prog Try.f6.params.toList Rows.cacheKeepsSpec.vars false W args.toList ds gs before)
    (hreach : (DataW.weightsEach Try.prog (Try.f6.params.toList) ds).all (· ≤ reachBytes) = true) :
    Calls Try.prog 6 args W fun e W' => ∃ v, e = .returned v ∧ Rows.cacheKeepsSpec.post enc Try.prog Try.f6 false true false false W args v W' := by
  have hW' := hW
  obtain ⟨p, q, hA0, hV, rfl, hfz, hnd⟩ := hW
  have hA : DataW.TrodAll enc Try.prog W 0 (fun _ => true) true Try.f6.params.toList args.toList ds p := hA0
  rw [Try.params6] at hA hval hreach
  obtain ⟨v0, v1, d0, d1, p0, p1, rfl, rfl, rfl, h0, h1⟩ := trodAll_two hA
  obtain ⟨rfl, rfl⟩ := trodVars_none hV
  obtain ⟨n0, rfl, rfl, rfl, wn0⟩ := open_int Try.underlying3 (hval 0 3 v0 rfl rfl) h0
  have r0 := int_range wn0
  have lt1 : ∀ x ∈ p1, x.block < W.heap.size := fun x hx => hW'.lt x (by simp [hx])
  obtain ⟨l1, k1, r1⟩ := ints_open (hval 1 27 v1 rfl rfl) h1 lt1 hreach (j := 1) rfl rfl
  clear hA0 hval
  simp only [List.append_nil] at hW'
  refine (walk n0 v1 l1 W r0 k1 r1).mono fun e W' ⟨he, hB⟩ => ?_
  subst he
  exact ⟨_, rfl, post_of_below (pa := [] ++ (p1)) (pv := []) hW' (fun _ _ _ => trodAll_mk1 (shut_bool Try.underlying4 _)) (fun sp hsp => trodAll_mk2 (shut_int Try.underlying3 wn0) (WideElems.Trod_stays laidOut (by kernel_rfl) (of_decide_eq_true (by kernel_rfl)) h1 (fun x hx => hB.same (lt1 x hx)) (fun x hx => hsp x (by simp [hx])))) (fun _ _ => rfl) (by simp) hB (ok_one (by kernel_rfl) rfl (okWide_bool_mk Try.underlying4 _))⟩

theorem reads (os : Os) {H : Type} (enc : TypeId × Value → H) : ∃ places, DataW.whole enc Try.prog ((laidWorld os).forCall (fun _ _ => 0) ⟨#[], #[.int .i64 0, .slice none 0 0], []⟩).memory Try.f6.params.toList Rows.cacheKeepsSpec.vars false (#[.int .i64 0, .slice none 0 0] : Array Value).toList 8 = some ([.lit (.int .i64 0), .nil], [], places) :=
  ⟨[], by kernel_rfl⟩

set_option maxRecDepth 100000 in
theorem lifted (os : Os) (started : os.Started) (H : Type) (enc : TypeId × Value → H) (F : Stop.Interp) :
    ReturnsInHanded {} Try.checked os 6 .any ((OpenSpec.ofChange Rows.cacheKeepsSpec).preRow enc Try.prog Try.f6 Rows.cacheKeepsRow.domain false Rows.cacheKeepsRow.laid) (((OpenSpec.ofChange Rows.cacheKeepsSpec).at F).post enc Try.prog Try.f6 false true false false) := by
  obtain ⟨places, hx⟩ := reads os enc
  refine returnsInHanded_of_row (C := Try.checked) (s := OpenSpec.ofChange Rows.cacheKeepsSpec) own started (by kernel_rfl) Try.func6
    (witness_row_at (enc := enc) (C := Try.checked) false (laidWorld os) #[.int .i64 0, .slice none 0 0] rfl (by kernel_rfl) (by kernel_rfl) (by kernel_rfl)
      (OpenSpec.preRow_of_cond 8 hx (by kernel_rfl) (fun k hk => by cases hk) (by kernel_rfl) (laid_met os _))) ?_
  intro W base args ds gs before hval hW _ hcond hreach hL _ _
  obtain ⟨p, q, hA0, hV, hpq, hfz, hnd⟩ := id hW
  obtain ⟨rfl, _⟩ := trodVars_none hV
  rw [List.append_nil] at hreach
  exact contract H enc W base args ds [] before hval hW hreach

theorem said : Rows.CacheKeepsSaid :=
  OpenClaim.holds_of_cond 6 Try.f6 rfl rfl rfl rfl rfl rfl rfl ⟨rfl, rfl, rfl, rfl, rfl⟩ rfl rfl rfl rfl rfl (by kernel_rfl) Try.func6 (by kernel_rfl)
    (of_decide_eq_true (by kernel_rfl)) (by unfold Func.isWrapper; first | (rw [if_pos (by decide +kernel)]; kernel_rfl) | (rw [if_neg (by decide +kernel)]; exact ⟨rfl, rfl⟩))
    (fun os started H enc _ F => by rw [OpenClaim.pre_eq_preRow]; exact lifted os started H enc F)


end Go.Proofs.Ytipnbggbejkhkaa.keeps
