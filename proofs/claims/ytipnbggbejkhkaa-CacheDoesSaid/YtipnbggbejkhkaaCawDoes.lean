/-
  Whatever is got, put and dropped, in any order, each answer, and the order of the keys, is as the document says, and the list of keys is its owner's: for every number as the room, and every list of calls, of which the first three hundred are made.
  Conditions: none besides the row's own.
-/
import Derived.Test.YtipnbggbejkhkaaCacM
import Derived.Deep.RegionLaw
namespace Go.Proofs.Ytipnbggbejkhkaa.does
open Go.ChangeShapes Go.WideShapes Go.ChangeAt Go.RowKit Go

def opObj (K M : Int) (S : ByteArray) : Obj := .cells #[.int .i64 K, .int .i64 M, .string S] 36 (0, 0)
theorem opObj.c1 {w : World} {b : Nat} {K M : Int} {S : ByteArray} (h : w.heap[b]? = some (opObj K M S)) : w.cell? ⟨b, 1, none⟩ = some (.int .i64 M) := by simp [World.cell?, h, opObj]
theorem opObj.c2 {w : World} {b : Nat} {K M : Int} {S : ByteArray} (h : w.heap[b]? = some (opObj K M S)) : w.cell? ⟨b, 2, none⟩ = some (.string S) := by simp [World.cell?, h, opObj]

set_option maxRecDepth 100000 in
set_option maxHeartbeats 8000000 in
theorem walk (n : Int) (v : Value) (script : List (Int × Int × ByteArray)) (w : World) (_hn : -9223372036854775808 ≤ n ∧ n ≤ 9223372036854775807) (hO : OpsAt w v script) (hz : script.length ≤ 9223372036854775807 ∧ ∀ q ∈ script, CI.Ok q.1 ∧ CI.Ok q.2.1) :
    Calls Try.prog 4 #[.int .i64 n, v] w fun r w' => r = .returned (.bool true) ∧ Below w.heap.size w w' := by
  by_cases h : n < 1 ∨ 65536 < n
  · have hB0 := CI.new_bad n h w
    obtain ⟨a, cap, rfl, -⟩ := hO
    clear hz
    rcases h with h | h
    all_goals (
      go_enter Try.func4, Try.ntmps4
      go_wp2_with fail
      refine hB0.mono ?_
      rintro e w1 ⟨rfl, B1⟩
      go_wp2_with fail
      refine (fixed_any _).mono ?_
      rintro e w2 ⟨rfl, B2⟩
      have B3 := B1.trans (B2.mono B1.size)
      clear B1 B2
      have hx : ¬ (n < 1) ∨ n < 1 := by omega
      go_wp2_with fail
      go_ret
      exact ⟨rfl, B3⟩)
  · obtain ⟨k, rfl⟩ : ∃ k : Nat, n = k := ⟨n.toNat, by omega⟩
    have h1 : 1 ≤ k := by omega
    have h2 : k ≤ 65536 := by omega
    obtain ⟨a, cap, rfl, ha⟩ := hO
    obtain ⟨hz1, hz2⟩ := hz
    have HA := Lib.hid ha
    have HZ := Lib.hid hz2
    clear ha hz2 h
    go_enter Try.func4, Try.ntmps4
    go_wp2_with fail
    refine (CI.x_new (w0 := w) k h1 h2 (Below.refl _ _)).mono ?_
    rintro e w1 ⟨c, F, rfl, hc, -, -⟩
    have HP := Lib.hid (ref_new hc)
    obtain ⟨m, hm⟩ : ∃ m, w1.heap.size = m := ⟨_, rfl⟩
    rw [hm] at HP
    clear hc
    go_wp2_with fail
    go_loopw [8] (fun i wr => ∃ (j : Nat) (F G : Nat → Prop) (L : List (Int × ByteArray)) (v : Value), j ≤ script.length ∧ j ≤ 300 ∧ i = .int .i64 j ∧ Pair w F c k L G m v L wr) (fun i _ => 300 - (intOf i).toNat)
    case atStart => exact ⟨0, F, _, [], _, Nat.zero_le _, Nat.zero_le _, rfl, HP.out⟩
    case round =>
      clear HP hm
      obtain ⟨j, F, G, L, v, hj, hj3, rfl, hp⟩ := hrel
      have HP := Lib.hid hp
      clear hp
      by_cases hlt : j < script.length ∧ j < 300
      · obtain ⟨hlt, hlt3⟩ := hlt
        obtain ⟨b, off, rfl, hb, hcell⟩ := HA.out (by intro e; rw [e] at hlt; exact absurd hlt (by simp))
        obtain ⟨hx0, hx1, hx2⟩ := hcell j hlt
        obtain ⟨-, hok⟩ := HZ.out script[j] (List.getElem_mem hlt)
        have HB := HP.out.cx.2
        have hy0 := (HB.cell (p := ⟨b, off + j * 3, none⟩) hb).trans hx0
        have hy1 := (HB.cell (p := ⟨b, off + j * 3 + 1, none⟩) hb).trans hx1
        have hy2 := (HB.cell (p := ⟨b, off + j * 3 + 2, none⟩) hb).trans hx2
        have HOK := Lib.hid hok
        have hji : (j : Int) < (script.length : Int) := by omega
        have hj3i : (j : Int) < 300 := by omega
        clear hcell hx0 hx1 hx2 hok HB
        obtain ⟨K, hK⟩ : ∃ K, script[j].1 = K := ⟨_, rfl⟩
        obtain ⟨M, hM⟩ : ∃ M, script[j].2.1 = M := ⟨_, rfl⟩
        obtain ⟨S, hS⟩ : ∃ S, script[j].2.2 = S := ⟨_, rfl⟩
        rw [hK] at hy0
        rw [hM] at hy1 HOK
        rw [hS] at hy2
        clear hK hM hS
        have hq1 := HP.out.later ((Below.refl _ wr).alloc (Nat.le_refl _) (opObj K M S))
        have HP1 := Lib.hid hq1
        have HO1 := Lib.hid (heap_alloc_new wr (opObj K M S))
        have hcase : K = 0 ∨ K = 1 ∨ K = 2 ∨ (K ≠ 0 ∧ K ≠ 1 ∧ K ≠ 2) := by omega
        have hqF : ¬ F wr.heap.size := fun hi => by have := HP.out.cx.lt hi; omega
        have hqG : ¬ G wr.heap.size := fun hi => by have := HP.out.ref.lt hi; omega
        have hqw : w.heap.size ≤ wr.heap.size := HP.out.cx.2.size
        have hft := HP.out.cx.fits
        have hnd := Lib.hid HP.out.cx.nodup
        have HQF := Lib.hid hqF
        have HQG := Lib.hid hqG
        clear hq1 HP hqF hqG
        rcases hcase with rfl | rfl | rfl | ⟨hk0, hk1, hk2⟩
        · go_wp2_with fail
          refine (CI.x_get HP1.out.cx HOK.out).mono ?_
          rintro e w2 ⟨he, F2, hc2, hs2⟩
          obtain ⟨s, bb, e1, e2⟩ := getV_form L M
          rw [e1] at he
          subst he
          have hp2 := HP1.out.cache hc2 hs2
          have q1 := opObj.c1 (hs2.1.keep HO1.out HQF.out)
          have HE2 := Lib.hid e2
          have HP2 := Lib.hid hp2
          clear hc2 hs2 e1 e2 hp2 hy0 hy1 hy2
          go_wp2_with fail
          refine (rget_any HP2.out.ref (by omega) hnd.out M).mono ?_
          rintro e w3 ⟨he, hr⟩
          rw [HE2.out] at he
          subst he
          obtain ⟨v3, G3, hP3, -⟩ := HP2.out.refs hr
          obtain ⟨L3, hL3⟩ : ∃ L3, useL L M = L3 := ⟨_, rfl⟩
          rw [hL3] at hP3
          have HX := Lib.hid hP3
          clear hP3 hr q1 hL3

          go_wp2_with fail
          have hL3 : (keysL L3).length ≤ 65536 := by have := HX.out.cx.fits; unfold keysL; rw [List.length_map]; omega
          have hL4 : L3.length ≤ 65536 := by have := HX.out.cx.fits; omega
          go_loopw [18] (fun t wt => ∃ p : Nat, p ≤ 2 ∧ t = .int .i64 p ∧ Pair w F2 c k L3 G3 m v3 L3 wt) (fun t _ => 2 - (intOf t).toNat)
          case atStart => exact ⟨0, by omega, rfl, HX.out⟩
          case round =>
            clear HX
            obtain ⟨p, hp, rfl, hpt⟩ := hrel
            obtain ⟨wt, rfl⟩ : ∃ wt : World, wt = wr := ⟨_, rfl⟩
            have HT := Lib.hid hpt
            clear hpt
            by_cases hp2 : p < 2
            · have hp2i : (p : Int) < 2 := by omega
              have hwt : w.heap.size ≤ wt.heap.size := HT.out.cx.2.size
              go_wp2_with fail
              refine (CI.x_keys HT.out.cx).mono ?_
              rintro e w4 ⟨v4, rfl, hr4, hc4, hB4⟩
              have hvG : ∀ i, v4.ownBlock = some i → ¬ G3 i := fun i hi hG => by have := (hr4.1.lt i hi).1; have := HT.out.ref.lt hG; omega
              have hvl : ∀ i, v4.ownBlock = some i → w.heap.size ≤ i := fun i hi => by have := (hr4.1.lt i hi).1; omega
              have HP4 := Lib.hid (HT.out.later hB4)
              have HR4 := Lib.hid hr4
              have HVG := Lib.hid hvG
              have HVL := Lib.hid hvl
              clear hr4 hc4 hB4 hvG hvl
              go_wp2_with fail
              refine (rkeys_any HP4.out.ref (by omega)).mono ?_
              rintro e w5 ⟨v5, rfl, hr5, hB5⟩
              have HP5 := Lib.hid (HP4.out.later hB5)
              have HR45 := Lib.hid (HR4.out.later hB5)
              have HR5 := Lib.hid hr5
              clear hr5 hB5
              go_wp2_with fail
              refine (same_self v4 v5 (keysL L3) (by omega) _ (ints_of_row HR45.out.1) (ints_of_row HR5.out)).mono ?_
              rintro e w6 ⟨rfl, hB6⟩
              have HP6 := Lib.hid (HP5.out.later hB6)
              have hr6 := HR45.out.later hB6
              obtain ⟨N, hN⟩ : ∃ N, (keysL L3).length = N := ⟨_, rfl⟩
              rw [hN] at hr6 hL3
              obtain ⟨a4, cap4, rfl⟩ := row_shape hr6.1
              have HR6 := Lib.hid hr6
              clear hr6 hN hB6
              go_wp2_with fail
              go_loopw [20] (fun x wx => ∃ (y : Nat) (xs : List Value), y ≤ N ∧ x = .int .i64 y ∧ Stir (fun i => (Value.slice a4 N cap4).ownBlock = some i) w6 wx ∧ wx.ownsRow wt.heap.size 3 1 (.slice a4 N cap4) N xs) (fun x _ => N - (intOf x).toNat)
              case atStart => exact ⟨0, _, Nat.zero_le _, rfl, Stir.refl _ _, HR6.out.1⟩
              case round =>
                obtain ⟨y, xs, hy, rfl, hS, hrow⟩ := hrel
                obtain ⟨wx, rfl⟩ : ∃ wx : World, wx = wr := ⟨_, rfl⟩
                by_cases hyN : y < N
                · have hyi : (y : Int) < (N : Int) := by omega
                  obtain ⟨g, cap5, e5, hg1, hg2⟩ := hrow.form (by omega)
                  obtain ⟨rfl, rfl⟩ : a4 = some ⟨g, 0, none⟩ ∧ cap4 = cap5 := by simp at e5; exact e5
                  have hxl : y < xs.length := by have := hrow.1; omega
                  have cy := hrow.cellAt y (by omega)
                  rw [List.getElem?_eq_getElem hxl] at cy
                  have fy := hrow.frozenAt y
                  obtain ⟨hrow2, -⟩ := hrow.stored y (.int .i64 (-1))
                  have HR := Lib.hid hrow2
                  have HS := Lib.hid (hS.set (b := g) (i := y) (Or.inl rfl) (.int .i64 (-1)))
                  generalize xs[y] = z at *
                  clear hS hrow hrow2 e5
                  go_wp2_with fail
                  go_roundw
                  case rel => exact ⟨y + 1, _, hyN, by go_num, HS.out, HR.out⟩
                  case measure => simp [intOf]; omega
                · have HS := Lib.hid (HP6.out.stay hS (fun i hi h => HR6.out.2 i h hi) (fun i hi h => HVG.out i h hi) (fun i h => HVL.out i h))
                  clear hS hrow
                  go_wp2_with fail
                  go_roundw
                  case rel => exact ⟨p + 1, hp2, by go_num, HS.out⟩
                  case measure => simp [intOf]; omega
            · go_wp2_with fail
              go_roundw
              case rel => exact ⟨j + 1, F2, G3, L3, v3, hlt, hlt3, by go_num, HT.out⟩
              case measure => simp [intOf]; omega
        · go_wp2_with fail
          refine (CI.x_put HP1.out.cx HOK.out S).mono ?_
          rintro e w2 ⟨he, F2, hc2, hs2⟩
          obtain ⟨gg, bb, e1⟩ := putV_form k L M S
          rw [e1] at he
          subst he
          have hp2 := HP1.out.cache hc2 hs2
          have q1 := opObj.c1 (hs2.1.keep HO1.out HQF.out)
          have q2 := opObj.c2 (hs2.1.keep HO1.out HQF.out)
          have HE2 := Lib.hid e1
          have HP2 := Lib.hid hp2
          clear hc2 hs2 e1 hp2 hy0 hy1 hy2
          go_wp2_with fail
          refine (rput_any HP2.out.ref (by omega) h1 h2 hnd.out M S).mono ?_
          rintro e w3 ⟨he, hr⟩
          rw [HE2.out] at he
          subst he
          obtain ⟨v3, G3, hP3, -⟩ := HP2.out.refs hr
          obtain ⟨L3, hL3⟩ : ∃ L3, putL k L M S = L3 := ⟨_, rfl⟩
          rw [hL3] at hP3
          have HX := Lib.hid hP3
          clear hP3 hr q1 q2 hL3

          go_wp2_with fail
          have hL3 : (keysL L3).length ≤ 65536 := by have := HX.out.cx.fits; unfold keysL; rw [List.length_map]; omega
          have hL4 : L3.length ≤ 65536 := by have := HX.out.cx.fits; omega
          go_loopw [18] (fun t wt => ∃ p : Nat, p ≤ 2 ∧ t = .int .i64 p ∧ Pair w F2 c k L3 G3 m v3 L3 wt) (fun t _ => 2 - (intOf t).toNat)
          case atStart => exact ⟨0, by omega, rfl, HX.out⟩
          case round =>
            clear HX
            obtain ⟨p, hp, rfl, hpt⟩ := hrel
            obtain ⟨wt, rfl⟩ : ∃ wt : World, wt = wr := ⟨_, rfl⟩
            have HT := Lib.hid hpt
            clear hpt
            by_cases hp2 : p < 2
            · have hp2i : (p : Int) < 2 := by omega
              have hwt : w.heap.size ≤ wt.heap.size := HT.out.cx.2.size
              go_wp2_with fail
              refine (CI.x_keys HT.out.cx).mono ?_
              rintro e w4 ⟨v4, rfl, hr4, hc4, hB4⟩
              have hvG : ∀ i, v4.ownBlock = some i → ¬ G3 i := fun i hi hG => by have := (hr4.1.lt i hi).1; have := HT.out.ref.lt hG; omega
              have hvl : ∀ i, v4.ownBlock = some i → w.heap.size ≤ i := fun i hi => by have := (hr4.1.lt i hi).1; omega
              have HP4 := Lib.hid (HT.out.later hB4)
              have HR4 := Lib.hid hr4
              have HVG := Lib.hid hvG
              have HVL := Lib.hid hvl
              clear hr4 hc4 hB4 hvG hvl
              go_wp2_with fail
              refine (rkeys_any HP4.out.ref (by omega)).mono ?_
              rintro e w5 ⟨v5, rfl, hr5, hB5⟩
              have HP5 := Lib.hid (HP4.out.later hB5)
              have HR45 := Lib.hid (HR4.out.later hB5)
              have HR5 := Lib.hid hr5
              clear hr5 hB5
              go_wp2_with fail
              refine (same_self v4 v5 (keysL L3) (by omega) _ (ints_of_row HR45.out.1) (ints_of_row HR5.out)).mono ?_
              rintro e w6 ⟨rfl, hB6⟩
              have HP6 := Lib.hid (HP5.out.later hB6)
              have hr6 := HR45.out.later hB6
              obtain ⟨N, hN⟩ : ∃ N, (keysL L3).length = N := ⟨_, rfl⟩
              rw [hN] at hr6 hL3
              obtain ⟨a4, cap4, rfl⟩ := row_shape hr6.1
              have HR6 := Lib.hid hr6
              clear hr6 hN hB6
              go_wp2_with fail
              go_loopw [20] (fun x wx => ∃ (y : Nat) (xs : List Value), y ≤ N ∧ x = .int .i64 y ∧ Stir (fun i => (Value.slice a4 N cap4).ownBlock = some i) w6 wx ∧ wx.ownsRow wt.heap.size 3 1 (.slice a4 N cap4) N xs) (fun x _ => N - (intOf x).toNat)
              case atStart => exact ⟨0, _, Nat.zero_le _, rfl, Stir.refl _ _, HR6.out.1⟩
              case round =>
                obtain ⟨y, xs, hy, rfl, hS, hrow⟩ := hrel
                obtain ⟨wx, rfl⟩ : ∃ wx : World, wx = wr := ⟨_, rfl⟩
                by_cases hyN : y < N
                · have hyi : (y : Int) < (N : Int) := by omega
                  obtain ⟨g, cap5, e5, hg1, hg2⟩ := hrow.form (by omega)
                  obtain ⟨rfl, rfl⟩ : a4 = some ⟨g, 0, none⟩ ∧ cap4 = cap5 := by simp at e5; exact e5
                  have hxl : y < xs.length := by have := hrow.1; omega
                  have cy := hrow.cellAt y (by omega)
                  rw [List.getElem?_eq_getElem hxl] at cy
                  have fy := hrow.frozenAt y
                  obtain ⟨hrow2, -⟩ := hrow.stored y (.int .i64 (-1))
                  have HR := Lib.hid hrow2
                  have HS := Lib.hid (hS.set (b := g) (i := y) (Or.inl rfl) (.int .i64 (-1)))
                  generalize xs[y] = z at *
                  clear hS hrow hrow2 e5
                  go_wp2_with fail
                  go_roundw
                  case rel => exact ⟨y + 1, _, hyN, by go_num, HS.out, HR.out⟩
                  case measure => simp [intOf]; omega
                · have HS := Lib.hid (HP6.out.stay hS (fun i hi h => HR6.out.2 i h hi) (fun i hi h => HVG.out i h hi) (fun i h => HVL.out i h))
                  clear hS hrow
                  go_wp2_with fail
                  go_roundw
                  case rel => exact ⟨p + 1, hp2, by go_num, HS.out⟩
                  case measure => simp [intOf]; omega
            · go_wp2_with fail
              go_roundw
              case rel => exact ⟨j + 1, F2, G3, L3, v3, hlt, hlt3, by go_num, HT.out⟩
              case measure => simp [intOf]; omega
        · have hpd : Pair w F c k L G m v L (wr.alloc (opObj 2 M S)).drew := HP1.out.later ((Below.refl _ _).drew)
          have HPd := Lib.hid hpd
          have HOd := Lib.hid (show (wr.alloc (opObj 2 M S)).drew.heap[wr.heap.size]? = some (opObj 2 M S) from HO1.out)
          clear hpd
          go_wp2_with fail
          go_region_law (first
            | (go_simp; go_at_call 16; refine (CI.x_drop HP2.out.cx HOK.out).mono ?_; rintro e w3 ⟨rfl, F2, hc3, hs3⟩; have HX := Lib.hid (HP2.out.cache hc3 hs3); clear hc3 hs3)
            | (go_simp; go_at_call 16; refine (CI.x_drop HPd.out.cx HOK.out).mono ?_; rintro e w2 ⟨rfl, F2, hc2, hs2⟩; have HP2 := Lib.hid (HPd.out.cache hc2 hs2); have q1 := opObj.c1 (hs2.1.keep HOd.out HQF.out); clear hc2 hs2)
            | (go_simp; go_at_call 17; refine (rdrop_any HP2.out.ref (by omega) hnd.out M).mono ?_; rintro e w3 ⟨rfl, hr⟩; obtain ⟨v3, G3, hP3, -⟩ := HP2.out.refs hr; have HX := Lib.hid hP3; clear hP3 hr)
            | (go_simp; go_at_call 17; refine (rdrop_any HPd.out.ref (by omega) hnd.out M).mono ?_; rintro e w2 ⟨rfl, hr⟩; obtain ⟨v3, G3, hP2, hsG⟩ := HPd.out.refs hr; have HP2 := Lib.hid hP2; have q1 := opObj.c1 (hsG.keep HOd.out HQG.out); clear hr hP2 hsG))
          all_goals (
            obtain ⟨L3, hL3⟩ : ∃ L3, dropL L M = L3 := ⟨_, rfl⟩
            rw [hL3] at HX
            clear hL3 HP2 HPd HOd hy0 hy1 hy2
            go_wp2_with fail
            have hL3 : (keysL L3).length ≤ 65536 := by have := HX.out.cx.fits; unfold keysL; rw [List.length_map]; omega
            have hL4 : L3.length ≤ 65536 := by have := HX.out.cx.fits; omega
            go_loopw [18] (fun t wt => ∃ p : Nat, p ≤ 2 ∧ t = .int .i64 p ∧ Pair w F2 c k L3 G3 m v3 L3 wt) (fun t _ => 2 - (intOf t).toNat)
            case atStart => exact ⟨0, by omega, rfl, HX.out⟩
            case round =>
              clear HX
              obtain ⟨p, hp, rfl, hpt⟩ := hrel
              obtain ⟨wt, rfl⟩ : ∃ wt : World, wt = wr := ⟨_, rfl⟩
              have HT := Lib.hid hpt
              clear hpt
              by_cases hp2 : p < 2
              · have hp2i : (p : Int) < 2 := by omega
                have hwt : w.heap.size ≤ wt.heap.size := HT.out.cx.2.size
                go_wp2_with fail
                refine (CI.x_keys HT.out.cx).mono ?_
                rintro e w4 ⟨v4, rfl, hr4, hc4, hB4⟩
                have hvG : ∀ i, v4.ownBlock = some i → ¬ G3 i := fun i hi hG => by have := (hr4.1.lt i hi).1; have := HT.out.ref.lt hG; omega
                have hvl : ∀ i, v4.ownBlock = some i → w.heap.size ≤ i := fun i hi => by have := (hr4.1.lt i hi).1; omega
                have HP4 := Lib.hid (HT.out.later hB4)
                have HR4 := Lib.hid hr4
                have HVG := Lib.hid hvG
                have HVL := Lib.hid hvl
                clear hr4 hc4 hB4 hvG hvl
                go_wp2_with fail
                refine (rkeys_any HP4.out.ref (by omega)).mono ?_
                rintro e w5 ⟨v5, rfl, hr5, hB5⟩
                have HP5 := Lib.hid (HP4.out.later hB5)
                have HR45 := Lib.hid (HR4.out.later hB5)
                have HR5 := Lib.hid hr5
                clear hr5 hB5
                go_wp2_with fail
                refine (same_self v4 v5 (keysL L3) (by omega) _ (ints_of_row HR45.out.1) (ints_of_row HR5.out)).mono ?_
                rintro e w6 ⟨rfl, hB6⟩
                have HP6 := Lib.hid (HP5.out.later hB6)
                have hr6 := HR45.out.later hB6
                obtain ⟨N, hN⟩ : ∃ N, (keysL L3).length = N := ⟨_, rfl⟩
                rw [hN] at hr6 hL3
                obtain ⟨a4, cap4, rfl⟩ := row_shape hr6.1
                have HR6 := Lib.hid hr6
                clear hr6 hN hB6
                go_wp2_with fail
                go_loopw [20] (fun x wx => ∃ (y : Nat) (xs : List Value), y ≤ N ∧ x = .int .i64 y ∧ Stir (fun i => (Value.slice a4 N cap4).ownBlock = some i) w6 wx ∧ wx.ownsRow wt.heap.size 3 1 (.slice a4 N cap4) N xs) (fun x _ => N - (intOf x).toNat)
                case atStart => exact ⟨0, _, Nat.zero_le _, rfl, Stir.refl _ _, HR6.out.1⟩
                case round =>
                  obtain ⟨y, xs, hy, rfl, hS, hrow⟩ := hrel
                  obtain ⟨wx, rfl⟩ : ∃ wx : World, wx = wr := ⟨_, rfl⟩
                  by_cases hyN : y < N
                  · have hyi : (y : Int) < (N : Int) := by omega
                    obtain ⟨g, cap5, e5, hg1, hg2⟩ := hrow.form (by omega)
                    obtain ⟨rfl, rfl⟩ : a4 = some ⟨g, 0, none⟩ ∧ cap4 = cap5 := by simp at e5; exact e5
                    have hxl : y < xs.length := by have := hrow.1; omega
                    have cy := hrow.cellAt y (by omega)
                    rw [List.getElem?_eq_getElem hxl] at cy
                    have fy := hrow.frozenAt y
                    obtain ⟨hrow2, -⟩ := hrow.stored y (.int .i64 (-1))
                    have HR := Lib.hid hrow2
                    have HS := Lib.hid (hS.set (b := g) (i := y) (Or.inl rfl) (.int .i64 (-1)))
                    generalize xs[y] = z at *
                    clear hS hrow hrow2 e5
                    go_wp2_with fail
                    go_roundw
                    case rel => exact ⟨y + 1, _, hyN, by go_num, HS.out, HR.out⟩
                    case measure => simp [intOf]; omega
                  · have HS := Lib.hid (HP6.out.stay hS (fun i hi h => HR6.out.2 i h hi) (fun i hi h => HVG.out i h hi) (fun i h => HVL.out i h))
                    clear hS hrow
                    go_wp2_with fail
                    go_roundw
                    case rel => exact ⟨p + 1, hp2, by go_num, HS.out⟩
                    case measure => simp [intOf]; omega
              · go_wp2_with fail
                go_roundw
                case rel => exact ⟨j + 1, F2, G3, L3, v3, hlt, hlt3, by go_num, HT.out⟩
                case measure => simp [intOf]; omega)
        · obtain ⟨w3, hw3⟩ : ∃ w3, wr.alloc (opObj K M S) = w3 := ⟨_, rfl⟩
          rw [hw3] at HP1 HO1
          have ho1 := HO1.out
          have q0 : w3.cell? ⟨wr.heap.size, 0, none⟩ = some (.int .i64 K) := by simp [World.cell?, ho1, opObj]
          have HX := HP1
          clear ho1
          obtain ⟨F2, rfl⟩ : ∃ F2, F2 = F := ⟨_, rfl⟩
          obtain ⟨G3, rfl⟩ : ∃ G3, G3 = G := ⟨_, rfl⟩
          obtain ⟨L3, rfl⟩ : ∃ L3, L3 = L := ⟨_, rfl⟩
          obtain ⟨v3, rfl⟩ : ∃ v3, v3 = v := ⟨_, rfl⟩
          unfold opObj at hw3
          have hk0' : (K == 0) = false := by simp [hk0]
          have hk1' : (K == 1) = false := by simp [hk1]
          have hk2' : (K == 2) = false := by simp [hk2]
          clear HP1 HO1 hk0 hk1 hk2

          go_wp2_with fail
          have hL3 : (keysL L3).length ≤ 65536 := by have := HX.out.cx.fits; unfold keysL; rw [List.length_map]; omega
          have hL4 : L3.length ≤ 65536 := by have := HX.out.cx.fits; omega
          go_loopw [18] (fun t wt => ∃ p : Nat, p ≤ 2 ∧ t = .int .i64 p ∧ Pair w F2 c k L3 G3 m v3 L3 wt) (fun t _ => 2 - (intOf t).toNat)
          case atStart => exact ⟨0, by omega, rfl, HX.out⟩
          case round =>
            clear HX
            obtain ⟨p, hp, rfl, hpt⟩ := hrel
            obtain ⟨wt, rfl⟩ : ∃ wt : World, wt = wr := ⟨_, rfl⟩
            have HT := Lib.hid hpt
            clear hpt
            by_cases hp2 : p < 2
            · have hp2i : (p : Int) < 2 := by omega
              have hwt : w.heap.size ≤ wt.heap.size := HT.out.cx.2.size
              go_wp2_with fail
              refine (CI.x_keys HT.out.cx).mono ?_
              rintro e w4 ⟨v4, rfl, hr4, hc4, hB4⟩
              have hvG : ∀ i, v4.ownBlock = some i → ¬ G3 i := fun i hi hG => by have := (hr4.1.lt i hi).1; have := HT.out.ref.lt hG; omega
              have hvl : ∀ i, v4.ownBlock = some i → w.heap.size ≤ i := fun i hi => by have := (hr4.1.lt i hi).1; omega
              have HP4 := Lib.hid (HT.out.later hB4)
              have HR4 := Lib.hid hr4
              have HVG := Lib.hid hvG
              have HVL := Lib.hid hvl
              clear hr4 hc4 hB4 hvG hvl
              go_wp2_with fail
              refine (rkeys_any HP4.out.ref (by omega)).mono ?_
              rintro e w5 ⟨v5, rfl, hr5, hB5⟩
              have HP5 := Lib.hid (HP4.out.later hB5)
              have HR45 := Lib.hid (HR4.out.later hB5)
              have HR5 := Lib.hid hr5
              clear hr5 hB5
              go_wp2_with fail
              refine (same_self v4 v5 (keysL L3) (by omega) _ (ints_of_row HR45.out.1) (ints_of_row HR5.out)).mono ?_
              rintro e w6 ⟨rfl, hB6⟩
              have HP6 := Lib.hid (HP5.out.later hB6)
              have hr6 := HR45.out.later hB6
              obtain ⟨N, hN⟩ : ∃ N, (keysL L3).length = N := ⟨_, rfl⟩
              rw [hN] at hr6 hL3
              obtain ⟨a4, cap4, rfl⟩ := row_shape hr6.1
              have HR6 := Lib.hid hr6
              clear hr6 hN hB6
              go_wp2_with fail
              go_loopw [20] (fun x wx => ∃ (y : Nat) (xs : List Value), y ≤ N ∧ x = .int .i64 y ∧ Stir (fun i => (Value.slice a4 N cap4).ownBlock = some i) w6 wx ∧ wx.ownsRow wt.heap.size 3 1 (.slice a4 N cap4) N xs) (fun x _ => N - (intOf x).toNat)
              case atStart => exact ⟨0, _, Nat.zero_le _, rfl, Stir.refl _ _, HR6.out.1⟩
              case round =>
                obtain ⟨y, xs, hy, rfl, hS, hrow⟩ := hrel
                obtain ⟨wx, rfl⟩ : ∃ wx : World, wx = wr := ⟨_, rfl⟩
                by_cases hyN : y < N
                · have hyi : (y : Int) < (N : Int) := by omega
                  obtain ⟨g, cap5, e5, hg1, hg2⟩ := hrow.form (by omega)
                  obtain ⟨rfl, rfl⟩ : a4 = some ⟨g, 0, none⟩ ∧ cap4 = cap5 := by simp at e5; exact e5
                  have hxl : y < xs.length := by have := hrow.1; omega
                  have cy := hrow.cellAt y (by omega)
                  rw [List.getElem?_eq_getElem hxl] at cy
                  have fy := hrow.frozenAt y
                  obtain ⟨hrow2, -⟩ := hrow.stored y (.int .i64 (-1))
                  have HR := Lib.hid hrow2
                  have HS := Lib.hid (hS.set (b := g) (i := y) (Or.inl rfl) (.int .i64 (-1)))
                  generalize xs[y] = z at *
                  clear hS hrow hrow2 e5
                  go_wp2_with fail
                  go_roundw
                  case rel => exact ⟨y + 1, _, hyN, by go_num, HS.out, HR.out⟩
                  case measure => simp [intOf]; omega
                · have HS := Lib.hid (HP6.out.stay hS (fun i hi h => HR6.out.2 i h hi) (fun i hi h => HVG.out i h hi) (fun i h => HVL.out i h))
                  clear hS hrow
                  go_wp2_with fail
                  go_roundw
                  case rel => exact ⟨p + 1, hp2, by go_num, HS.out⟩
                  case measure => simp [intOf]; omega
            · go_wp2_with fail
              go_roundw
              case rel => exact ⟨j + 1, F2, G3, L3, v3, hlt, hlt3, by go_num, HT.out⟩
              case measure => simp [intOf]; omega
      · have hcase : ¬ j < script.length ∨ (j < script.length ∧ ¬ j < 300) := by omega
        have HB := Lib.hid HP.out.cx.2
        clear HP
        rcases hcase with hge | ⟨hlt1, hge⟩
        all_goals (
          go_wp2_with fail
          refine (fixed_any _).mono ?_
          rintro e w2 ⟨rfl, B2⟩
          have HB2 := HB.out.trans (B2.mono HB.out.size)
          clear B2
          go_wp2_with fail
          go_ret
          exact ⟨rfl, HB2⟩)

set_option maxRecDepth 100000 in
/-- WHAT THE WALK GIVES, for every argument that can be read. -/
theorem contract (H : Type) (enc : TypeId × Value → H) (W : World) (base : Nat) (args : Array Value) (ds gs : List (DataW H)) (before : List MemPlace)
    (hval : ∀ (j : Nat) t v, Try.f4.params[j]? = some t → args[j]? = some v → Value.okWide Try.prog W .any base t v)
    (hW : DataW.Whole enc Try.prog Try.f4.params.toList Rows.cacheDoesSpec.vars false W args.toList ds gs before)
    (hreach : (DataW.weightsEach Try.prog (Try.f4.params.toList) ds).all (· ≤ reachBytes) = true) :
    Calls Try.prog 4 args W fun e W' => ∃ v, e = .returned v ∧ Rows.cacheDoesSpec.post enc Try.prog Try.f4 false true false false W args v W' := by
  have hW' := hW
  obtain ⟨p, q, hA0, hV, rfl, hfz, hnd⟩ := hW
  have hA : DataW.TrodAll enc Try.prog W 0 (fun _ => true) true Try.f4.params.toList args.toList ds p := hA0
  rw [Try.params4] at hA hval hreach
  obtain ⟨v0, v1, d0, d1, p0, p1, rfl, rfl, rfl, h0, h1⟩ := trodAll_two hA
  obtain ⟨rfl, rfl⟩ := trodVars_none hV
  obtain ⟨n0, rfl, rfl, rfl, wn0⟩ := open_int Try.underlying3 (hval 0 3 v0 rfl rfl) h0
  have r0 := int_range wn0
  have lt1 : ∀ x ∈ p1, x.block < W.heap.size := fun x hx => hW'.lt x (by simp [hx])
  obtain ⟨l1, k1, r1⟩ := ops_open (hval 1 30 v1 rfl rfl) h1 lt1
  clear hA0 hval
  simp only [List.append_nil] at hW'
  refine (walk n0 v1 l1 W r0 k1 r1).mono fun e W' ⟨he, hB⟩ => ?_
  subst he
  exact ⟨_, rfl, post_of_below (pa := [] ++ (p1)) (pv := []) hW' (fun _ _ _ => trodAll_mk1 (shut_bool Try.underlying4 _)) (fun sp hsp => trodAll_mk2 (shut_int Try.underlying3 wn0) (WideElems.Trod_stays laidOut (by kernel_rfl) (of_decide_eq_true (by kernel_rfl)) h1 (fun x hx => hB.same (lt1 x hx)) (fun x hx => hsp x (by simp [hx])))) (fun _ _ => rfl) (by simp) hB (ok_one (by kernel_rfl) rfl (okWide_bool_mk Try.underlying4 _))⟩

theorem reads (os : Os) {H : Type} (enc : TypeId × Value → H) : ∃ places, DataW.whole enc Try.prog ((laidWorld os).forCall (fun _ _ => 0) ⟨#[], #[.int .i64 0, .slice none 0 0], []⟩).memory Try.f4.params.toList Rows.cacheDoesSpec.vars false (#[.int .i64 0, .slice none 0 0] : Array Value).toList 8 = some ([.lit (.int .i64 0), .nil], [], places) :=
  ⟨[], by kernel_rfl⟩

set_option maxRecDepth 100000 in
theorem lifted (os : Os) (started : os.Started) (H : Type) (enc : TypeId × Value → H) (F : Stop.Interp) :
    ReturnsInHanded {} Try.checked os 4 .any ((OpenSpec.ofChange Rows.cacheDoesSpec).preRow enc Try.prog Try.f4 Rows.cacheDoesRow.domain false Rows.cacheDoesRow.laid) (((OpenSpec.ofChange Rows.cacheDoesSpec).at F).post enc Try.prog Try.f4 false true false false) := by
  obtain ⟨places, hx⟩ := reads os enc
  refine returnsInHanded_of_row (C := Try.checked) (s := OpenSpec.ofChange Rows.cacheDoesSpec) own started (by kernel_rfl) Try.func4
    (witness_row_at (enc := enc) (C := Try.checked) false (laidWorld os) #[.int .i64 0, .slice none 0 0] rfl (by kernel_rfl) (by kernel_rfl) (by kernel_rfl)
      (OpenSpec.preRow_of_cond 8 hx (by kernel_rfl) (fun k hk => by cases hk) (by kernel_rfl) (laid_met os _))) ?_
  intro W base args ds gs before hval hW _ hcond hreach hL _ _
  obtain ⟨p, q, hA0, hV, hpq, hfz, hnd⟩ := id hW
  obtain ⟨rfl, _⟩ := trodVars_none hV
  rw [List.append_nil] at hreach
  exact contract H enc W base args ds [] before hval hW hreach

theorem said : Rows.CacheDoesSaid :=
  OpenClaim.holds_of_cond 4 Try.f4 rfl rfl rfl rfl rfl rfl rfl ⟨rfl, rfl, rfl, rfl, rfl⟩ rfl rfl rfl rfl rfl (by kernel_rfl) Try.func4 (by kernel_rfl)
    (of_decide_eq_true (by kernel_rfl)) (by unfold Func.isWrapper; first | (rw [if_pos (by decide +kernel)]; kernel_rfl) | (rw [if_neg (by decide +kernel)]; exact ⟨rfl, rfl⟩))
    (fun os started H enc _ F => by rw [OpenClaim.pre_eq_preRow]; exact lifted os started H enc F)


end Go.Proofs.Ytipnbggbejkhkaa.does
