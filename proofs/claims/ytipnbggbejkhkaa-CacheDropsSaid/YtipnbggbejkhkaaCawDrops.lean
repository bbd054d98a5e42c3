/-
  A key that was dropped is not there, and all others are as they were, in their order: for every number as the room, every list of keys, of which the first three hundred are put, and every key.
  Conditions: none besides the row's own.
-/
import Derived.Test.YtipnbggbejkhkaaCacIX
namespace Go.Proofs.Ytipnbggbejkhkaa.drops
open Go.ChangeShapes Go.WideShapes Go.ChangeAt Go.RowKit Go

set_option maxRecDepth 100000 in
set_option maxHeartbeats 4000000 in
theorem walk (n : Int) (v : Value) (zs : List Int) (d : Int) (w : World) (_hn : -9223372036854775808 ≤ n ∧ n ≤ 9223372036854775807) (hI : IntsAt w v zs) (hz : zs.length ≤ 140737488351232 ∧ ∀ z ∈ zs, CI.Ok z) (hd : -9223372036854775808 ≤ d ∧ d ≤ 9223372036854775807) :
    Calls Try.prog 8 #[.int .i64 n, v, .int .i64 d] w fun r w' => r = .returned (.bool true) ∧ Below w.heap.size w w' := by
  by_cases h : n < 1 ∨ 65536 < n
  · have hB0 := CI.new_bad n h w
    obtain ⟨a, cap, rfl, -⟩ := hI
    clear hz hd h
    go_enter Try.func8, Try.ntmps8
    go_wp2_with fail
    refine hB0.mono ?_
    rintro e w1 ⟨rfl, B1⟩
    go_wp2_with fail
    refine (fixed_any _).mono ?_
    rintro e w2 ⟨rfl, B2⟩
    have B3 := B1.trans (B2.mono B1.size)
    clear B1 B2
    go_wp2_with fail
    go_ret
    exact ⟨rfl, B3⟩
  · obtain ⟨k, rfl⟩ : ∃ k : Nat, n = k := ⟨n.toNat, by omega⟩
    have h1 : 1 ≤ k := by omega
    have h2 : k ≤ 65536 := by omega
    obtain ⟨a, cap, rfl, ha⟩ := hI
    obtain ⟨hz1, hz2⟩ := hz
    have HA := Lib.hid ha
    have HZ := Lib.hid hz2
    have HD := Lib.hid (show CI.Ok d from hd)
    clear ha hz2 h
    go_enter Try.func8, Try.ntmps8
    go_wp2_with fail
    refine (CI.x_new (w0 := w) k h1 h2 (Below.refl _ _)).mono ?_
    rintro e w1 ⟨c, F, rfl, hc, -, -⟩
    have HC := Lib.hid hc
    clear hc
    go_wp2_with fail
    go_loopw [9] (fun i wr => ∃ (j : Nat) (F : Nat → Prop) (L : List (Int × ByteArray)), j ≤ zs.length ∧ j ≤ 300 ∧ i = .int .i64 j ∧ CI.CX w F c k L wr) (fun i _ => zs.length - (intOf i).toNat)
    case atStart => exact ⟨0, F, [], Nat.zero_le _, Nat.zero_le _, rfl, HC.out⟩
    case round =>
      clear HC
      obtain ⟨j, F, L, hj, hj3, rfl, hc⟩ := hrel
      have HC := Lib.hid hc
      clear hc
      by_cases hlt : j < zs.length ∧ j < 300
      · obtain ⟨hlt, hlt3⟩ := hlt
        obtain ⟨b, off, rfl, hb, hcell⟩ := HA.out (by intro e; rw [e] at hlt; exact absurd hlt (by simp))
        have hx : wr.cell? ⟨b, off + j, none⟩ = some (.int .i64 zs[j]) := (HC.out.2.cell (p := ⟨b, off + j, none⟩) hb).trans (hcell j hlt)
        have hok := Lib.hid (HZ.out zs[j] (List.getElem_mem hlt))
        have hji : (j : Int) < (zs.length : Int) := by omega
        have hj3i : (j : Int) < 300 := by omega
        clear hcell
        generalize zs[j] = z at *
        go_wp2_with fail
        refine (CI.x_put HC.out (k := z) hok.out ⟨#[120]⟩).mono ?_
        rintro e w2 ⟨rfl, F2, hc2, hs2⟩
        have HC2 := Lib.hid hc2
        clear hc2 hs2
        go_wp2_with fail
        go_roundw
        case rel => exact ⟨j + 1, F2, _, hlt, hlt3, by go_num, HC2.out⟩
        case measure => simp [intOf]; omega
      · have hcase : ¬ j < zs.length ∨ (j < zs.length ∧ ¬ j < 300) := by omega
        obtain ⟨Z, hZ⟩ : ∃ Z, keysL L = Z := ⟨_, rfl⟩
        obtain ⟨Y, hY⟩ : ∃ Y, Z.filter (· ≠ d) = Y := ⟨_, rfl⟩
        have hyl : Y.length ≤ Z.length := by rw [← hY]; exact List.length_filter_le _ _
        have hzl : Z.length ≤ 65536 := by have := HC.out.fits; rw [← hZ]; unfold keysL; rw [List.length_map]; omega
        have HY := Lib.hid hY
        have hkd : keysL (dropL L d) = Y := by rw [keysL_drop, hZ]; exact hY
        have HKD := Lib.hid hkd
        obtain ⟨tb, htb⟩ : ∃ tb, decide (d ∈ Z) = tb := ⟨_, rfl⟩
        have hgs : (getL L d).isSome = tb := by rw [← htb, ← hZ]; exact getL_some L d
        have HTB := Lib.hid htb
        have HGS := Lib.hid hgs
        have HKZ := Lib.hid hZ
        clear hZ hY hkd hgs htb
        obtain ⟨i0, hi, hz0, hz1', hz2'⟩ := info_parts CI.infoK
        rcases hcase with hge | ⟨hlt1, hge⟩
        all_goals (
          go_wp2_with fail
          refine (CI.x_keys HC.out).mono ?_
          rintro e w2 ⟨v1, rfl, hr1, hc2, -⟩
          rw [HKZ.out] at hr1
          go_wp2_with fail
          refine (CI.x_drop hc2 HD.out).mono ?_
          rintro e w3 ⟨rfl, F3, hc3, hs3⟩
          rw [HGS.out]
          have hr3 := hr1.step hs3
          clear hr1 hc2 hs3
          go_wp2_with fail
          refine (CI.x_get hc3 HD.out).mono ?_
          rintro e w4 ⟨he, F4, hc4, hs4⟩
          have hgn := getL_drop L d
          unfold CI.getV at he
          unfold useL at hc4
          rw [hgn] at he hc4
          subst he
          have hr4 := hr3.step hs4
          clear hr3 hc3 hs4 hgn
          go_wp2_with fail
          refine (CI.x_keys hc4).mono ?_
          rintro e w5 ⟨v2, rfl, hr5, hc5, hB5⟩
          rw [HKD.out] at hr5
          have hI1 := ints_of_row (hr4.later hB5).1
          have hI2 := ints_of_row hr5.1
          obtain ⟨a1, cap1, rfl, ha1⟩ := hI1
          obtain ⟨a2, cap2, rfl, ha2⟩ := hI2
          have H1 := Lib.hid ha1
          have H2 := Lib.hid ha2
          have HB5 := Lib.hid hc5.2
          clear ha1 ha2 hr4 hr5 hc4 hc5 hB5
          go_wp2_with fail
          go_loopw [15, 16, 17] (fun u f i wr => ∃ (q : Nat) (fb : Bool), q ≤ Z.length ∧ i = .int .i64 q ∧ f = .bool fb ∧ Hid (fb = decide (d ∈ Z.take q)) ∧ wr.ownsRow w5.heap.size 3 1 u ((Z.take q).filter (· ≠ d)).length (CI.keyVals ((Z.take q).filter (· ≠ d))) ∧ Below w5.heap.size w5 wr) (fun _ _ i _ => Z.length - (intOf i).toNat)
          case atStart => exact ⟨0, false, Nat.zero_le _, rfl, rfl, Lib.hid (by simp), World.ownsRow_made (e := 3) (size := 1) w5 #[] 0 (Nat.le_refl _) (by decide) rfl, (Below.refl _ w5).alloc (Nat.le_refl _) _⟩
          case round =>
            obtain ⟨q, fb, hq, rfl, rfl, hfb, hrow, hB⟩ := hrel
            by_cases hlt2 : q < Z.length
            · obtain ⟨b, off, rfl, hb, hcell⟩ := H1.out (by intro e; rw [e] at hlt2; exact absurd hlt2 (by simp))
              have hx : wr.cell? ⟨b, off + q, none⟩ = some (.int .i64 Z[q]) := (hB.cell (p := ⟨b, off + q, none⟩) hb).trans (hcell q hlt2)
              have hqi : (q : Int) < (Z.length : Int) := by omega
              have htk := List.take_succ_eq_append_getElem hlt2
              clear hcell
              by_cases hzd : Z[q] = d
              · have HR := Lib.hid (show wr.ownsRow w5.heap.size 3 1 _ ((Z.take (q + 1)).filter (· ≠ d)).length (CI.keyVals ((Z.take (q + 1)).filter (· ≠ d))) from by
                  rw [htk, List.filter_append, hzd]; simpa using hrow)
                have hfb2 : Hid (true = decide (d ∈ Z.take (q + 1))) := Lib.hid (by rw [htk, hzd]; simp)
                have HB := Lib.hid hB
                generalize Z[q] = z at *
                subst hzd
                clear htk hfb hrow hB
                go_wp2_with fail
                go_roundw
                case rel => exact ⟨q + 1, true, hlt2, by go_num, rfl, hfb2, HR.out, HB.out⟩
                case measure => simp [intOf]; omega
              · have HR := Lib.hid (show CI.keyVals ((Z.take (q + 1)).filter (· ≠ d)) = CI.keyVals ((Z.take q).filter (· ≠ d)) ++ [.int .i64 Z[q]] from by
                  rw [htk, List.filter_append, List.filter_cons_of_pos (by simpa using hzd), List.filter_nil]; unfold CI.keyVals; rw [List.map_append]; rfl)
                have HT := Lib.hid (show ((Z.take (q + 1)).filter (· ≠ d)).length = ((Z.take q).filter (· ≠ d)).length + 1 from by
                  rw [htk, List.filter_append, List.filter_cons_of_pos (by simpa using hzd)]; simp)
                have hfb2 : Hid (fb = decide (d ∈ Z.take (q + 1))) := Lib.hid (by
                  rw [hfb.out, htk]
                  refine decide_eq_decide.2 ⟨fun h => List.mem_append_left _ h, fun h => ?_⟩
                  rcases List.mem_append.1 h with h | h
                  · exact h
                  · exact absurd (List.mem_singleton.1 h).symm hzd)
                have hTk : ((Z.take q).filter (· ≠ d)).length ≤ q := Nat.le_trans (List.length_filter_le _ _) (by simp; omega)
                have HB := Lib.hid hB
                have hsz := hB.size
                generalize Z[q] = z at *
                generalize CI.keyVals ((Z.take q).filter (· ≠ d)) = ks at *
                generalize ((Z.take q).filter (· ≠ d)).length = nq at *
                clear htk hfb hB
                go_wp2_with (at_builtin; refine wpList_append_own _ rfl _ _ 27 rfl w5.heap.size 3 i0 (.int .i64 0) 1 8 Try.underlying27 hi hz0 hz1' hz2' rfl (by decide) _ _ _ rfl (hrow.alloc _) ⟨wr.heap.size, 0, none⟩ 1 1 [.int .i64 z] rfl rfl (cell_one_new _ _ _) (by simp [Value.oneCell']) (by unfold maxLen; omega) (by omega) (by simp; omega) ?_; intro v' w6 hown' hgrow _; have hB3 : Below w5.heap.size wr w6 := ((Below.refl _ wr).alloc hsz _).grown hgrow (by simp; omega) (fun j ej => (hrow.lt j ej).1); have HO := Lib.hid hown'; have HB4 := Lib.hid (HB.out.trans hB3); clear hown' hgrow hB3)
                go_roundw
                case rel => exact ⟨q + 1, fb, hlt2, by go_num, rfl, hfb2, by rw [HT.out, HR.out]; exact HO.out, HB4.out⟩
                case measure => simp [intOf]; omega
            · obtain rfl : q = Z.length := by omega
              rw [List.take_length] at hrow hfb
              rw [HY.out] at hrow
              have hfb3 := hfb.out
              rw [HTB.out] at hfb3
              subst hfb3
              obtain ⟨a3, cap3, rfl, ha3⟩ := ints_of_row hrow
              have H3 := Lib.hid ha3
              have HB6 := Lib.hid (HB5.out.trans (hB.mono HB5.out.size))
              have H2' := Lib.hid (show Y ≠ [] → ∃ b off, a2 = some ⟨b, off, none⟩ ∧ b < wr.heap.size ∧ ∀ j (h : j < Y.length), wr.cell? ⟨b, off + j, none⟩ = some (.int .i64 Y[j]) from fun hne => by
                obtain ⟨b, off, e, hb, hc⟩ := H2.out hne
                exact ⟨b, off, e, Nat.lt_of_lt_of_le hb hB.size, fun j hj => (hB.cell (p := ⟨b, off + j, none⟩) hb).trans (hc j hj)⟩)
              have hn1 : (fb != fb) = false := by simp
              have hn2 : ((Y.length : Int) != (Y.length : Int)) = false := by simp
              clear hrow ha3 hfb hB
              obtain ⟨w6, rfl⟩ : ∃ w6 : World, w6 = wr := ⟨_, rfl⟩
              go_wp2_with fail
              go_loopw [18] (fun i wx => ∃ p : Nat, p ≤ Y.length ∧ i = .int .i64 p ∧ Below w6.heap.size w6 wx) (fun i _ => Y.length - (intOf i).toNat)
              case atStart => exact ⟨0, Nat.zero_le _, rfl, Below.refl _ _⟩
              case round =>
                obtain ⟨p, hp, rfl, hBx⟩ := hrel
                obtain ⟨wx, rfl⟩ : ∃ wx : World, wx = wr := ⟨_, rfl⟩
                by_cases hlt3 : p < Y.length
                · obtain ⟨b2, off2, rfl, hb2, hcell2⟩ := H2'.out (by intro e; rw [e] at hlt3; exact absurd hlt3 (by simp))
                  obtain ⟨b3, off3, rfl, hb3, hcell3⟩ := H3.out (by intro e; rw [e] at hlt3; exact absurd hlt3 (by simp))
                  have hx2 : wx.cell? ⟨b2, off2 + p, none⟩ = some (.int .i64 Y[p]) := (hBx.cell (p := ⟨b2, off2 + p, none⟩) hb2).trans (hcell2 p hlt3)
                  have hx3 : wx.cell? ⟨b3, off3 + p, none⟩ = some (.int .i64 Y[p]) := (hBx.cell (p := ⟨b3, off3 + p, none⟩) hb3).trans (hcell3 p hlt3)
                  have hpi : (p : Int) < (Y.length : Int) := by omega
                  have HBx := Lib.hid hBx
                  generalize Y[p] = y at *
                  clear hcell2 hcell3 hBx hn1 hn2
                  go_wp2_with fail
                  go_region
                  all_goals (
                    go_wp2_with fail
                    go_roundw
                    case rel => exact ⟨p + 1, hlt3, by go_num, HBx.out.drew⟩
                    case measure => simp [intOf]; omega)
                · have HBx := Lib.hid (HB6.out.trans (hBx.mono HB6.out.size))
                  clear hBx
                  go_wp2_with fail
                  refine (fixed_any _).mono ?_
                  rintro e w7 ⟨rfl, B7⟩
                  have HB7 := HBx.out.trans (B7.mono HBx.out.size)
                  clear B7
                  go_wp2_with fail
                  go_ret
                  exact ⟨rfl, HB7⟩)

set_option maxRecDepth 100000 in
/-- WHAT THE WALK GIVES, for every argument that can be read. -/
theorem contract (H : Type) (enc : TypeId × Value → H) (W : World) (base : Nat) (args : Array Value) (ds gs : List (DataW H)) (before : List MemPlace)
    (hval : ∀ (j : Nat) t v, Try.f8.params[j]? = some t → args[j]? = some v → Value.okWide Try.prog W .any base t v)
    (hW : DataW.Whole enc Try.prog Try.f8.params.toList Rows.cacheDropsSpec.vars false W args.toList ds gs before)
    (hreach : (DataW.weightsEach Try.prog (Try.f8.params.toList) ds).all (· ≤ reachBytes) = true) :
    Calls Try.prog 8 args W fun e W' => ∃ v, e = .returned v ∧ Rows.cacheDropsSpec.post enc Try.prog Try.f8 false true false false W args v W' := by
  have hW' := hW
  obtain ⟨p, q, hA0, hV, rfl, hfz, hnd⟩ := hW
  have hA : DataW.TrodAll enc Try.prog W 0 (fun _ => true) true Try.f8.params.toList args.toList ds p := hA0
  rw [Try.params8] at hA hval hreach
  obtain ⟨v0, v1, v2, d0, d1, d2, p0, p1, p2, rfl, rfl, rfl, h0, h1, h2⟩ := trodAll_three hA
  obtain ⟨rfl, rfl⟩ := trodVars_none hV
  obtain ⟨n0, rfl, rfl, rfl, wn0⟩ := open_int Try.underlying3 (hval 0 3 v0 rfl rfl) h0
  have r0 := int_range wn0
  obtain ⟨n2, rfl, rfl, rfl, wn2⟩ := open_int Try.underlying3 (hval 2 3 v2 rfl rfl) h2
  have r2 := int_range wn2
  have lt1 : ∀ x ∈ p1, x.block < W.heap.size := fun x hx => hW'.lt x (by simp [hx])
  obtain ⟨l1, k1, r1⟩ := ints_open (hval 1 27 v1 rfl rfl) h1 lt1 hreach (j := 1) rfl rfl
  clear hA0 hval
  simp only [List.append_nil] at hW'
  refine (walk n0 v1 l1 n2 W r0 k1 r1 r2).mono fun e W' ⟨he, hB⟩ => ?_
  subst he
  exact ⟨_, rfl, post_of_below (pa := [] ++ (p1 ++ ([]))) (pv := []) hW' (fun _ _ _ => trodAll_mk1 (shut_bool Try.underlying4 _)) (fun sp hsp => trodAll_mk3 (shut_int Try.underlying3 wn0) (WideElems.Trod_stays laidOut (by kernel_rfl) (of_decide_eq_true (by kernel_rfl)) h1 (fun x hx => hB.same (lt1 x hx)) (fun x hx => hsp x (by simp [hx]))) (shut_int Try.underlying3 wn2)) (fun _ _ => rfl) (by simp) hB (ok_one (by kernel_rfl) rfl (okWide_bool_mk Try.underlying4 _))⟩

theorem reads (os : Os) {H : Type} (enc : TypeId × Value → H) : ∃ places, DataW.whole enc Try.prog ((laidWorld os).forCall (fun _ _ => 0) ⟨#[], #[.int .i64 0, .slice none 0 0, .int .i64 0], []⟩).memory Try.f8.params.toList Rows.cacheDropsSpec.vars false (#[.int .i64 0, .slice none 0 0, .int .i64 0] : Array Value).toList 8 = some ([.lit (.int .i64 0), .nil, .lit (.int .i64 0)], [], places) :=
  ⟨[], by kernel_rfl⟩

set_option maxRecDepth 100000 in
theorem lifted (os : Os) (started : os.Started) (H : Type) (enc : TypeId × Value → H) (F : Stop.Interp) :
    ReturnsInHanded {} Try.checked os 8 .any ((OpenSpec.ofChange Rows.cacheDropsSpec).preRow enc Try.prog Try.f8 Rows.cacheDropsRow.domain false Rows.cacheDropsRow.laid) (((OpenSpec.ofChange Rows.cacheDropsSpec).at F).post enc Try.prog Try.f8 false true false false) := by
  obtain ⟨places, hx⟩ := reads os enc
  refine returnsInHanded_of_row (C := Try.checked) (s := OpenSpec.ofChange Rows.cacheDropsSpec) own started (by kernel_rfl) Try.func8
    (witness_row_at (enc := enc) (C := Try.checked) false (laidWorld os) #[.int .i64 0, .slice none 0 0, .int .i64 0] rfl (by kernel_rfl) (by kernel_rfl) (by kernel_rfl)
      (OpenSpec.preRow_of_cond 8 hx (by kernel_rfl) (fun k hk => by cases hk) (by kernel_rfl) (laid_met os _))) ?_
  intro W base args ds gs before hval hW _ hcond hreach hL _ _
  obtain ⟨p, q, hA0, hV, hpq, hfz, hnd⟩ := id hW
  obtain ⟨rfl, _⟩ := trodVars_none hV
  rw [List.append_nil] at hreach
  exact contract H enc W base args ds [] before hval hW hreach

theorem said : Rows.CacheDropsSaid :=
  OpenClaim.holds_of_cond 8 Try.f8 rfl rfl rfl rfl rfl rfl rfl ⟨rfl, rfl, rfl, rfl, rfl⟩ rfl rfl rfl rfl rfl (by kernel_rfl) Try.func8 (by kernel_rfl)
    (of_decide_eq_true (by kernel_rfl)) (by unfold Func.isWrapper; first | (rw [if_pos (by decide +kernel)]; kernel_rfl) | (rw [if_neg (by decide +kernel)]; exact ⟨rfl, rfl⟩))
    (fun os started H enc _ F => by rw [OpenClaim.pre_eq_preRow]; exact lifted os started H enc F)


end Go.Proofs.Ytipnbggbejkhkaa.drops
