/-
  Of the same puts and gets a cache with less room has the first keys of one with more: for every number as the room, and every list of calls, of which the first three hundred are made.
  Conditions: none besides the row's own.
-/
import Derived.Test.YtipnbggbejkhkaaCacN
namespace Go.Proofs.Ytipnbggbejkhkaa.less
open Go.ChangeShapes Go.WideShapes Go.ChangeAt Go.RowKit Go

def opObj (K M : Int) (S : ByteArray) : Obj := .cells #[.int .i64 K, .int .i64 M, .string S] 36 (0, 0)
theorem opObj.c1 {w : World} {b : Nat} {K M : Int} {S : ByteArray} (h : w.heap[b]? = some (opObj K M S)) : w.cell? ⟨b, 1, none⟩ = some (.int .i64 M) := by simp [World.cell?, h, opObj]
theorem opObj.c2 {w : World} {b : Nat} {K M : Int} {S : ByteArray} (h : w.heap[b]? = some (opObj K M S)) : w.cell? ⟨b, 2, none⟩ = some (.string S) := by simp [World.cell?, h, opObj]

set_option maxRecDepth 100000 in
set_option maxHeartbeats 4000000 in
theorem walk (n : Int) (v : Value) (script : List (Int × Int × ByteArray)) (w : World) (_hn : -9223372036854775808 ≤ n ∧ n ≤ 9223372036854775807) (hO : OpsAt w v script) (hz : script.length ≤ 9223372036854775807 ∧ ∀ q ∈ script, CI.Ok q.1 ∧ CI.Ok q.2.1) :
    Calls Try.prog 7 #[.int .i64 n, v] w fun r w' => r = .returned (.bool true) ∧ Below w.heap.size w w' := by
  by_cases h : n < 1 ∨ 65536 < n
  · have hB0 := CI.new_bad n h w
    obtain ⟨a, cap, rfl, -⟩ := hO
    clear hz h
    go_enter Try.func7, Try.ntmps7
    go_wp2_with fail
    refine hB0.mono ?_
    rintro e w1 ⟨rfl, B1⟩
    go_wp2_with fail
    refine (fixed_any _).mono ?_
    rintro e w2 ⟨rfl, B2⟩
    have B3 := B1.trans (B2.mono B1.size)
    clear B1 B2
    go_wp2_with fail
    go_ret
    exact ⟨rfl, B3⟩
  · obtain ⟨k, rfl⟩ : ∃ k : Nat, n = k := ⟨n.toNat, by omega⟩
    have h1 : 1 ≤ k := by omega
    have h2 : k ≤ 65536 := by omega
    obtain ⟨a, cap, rfl, ha⟩ := hO
    obtain ⟨hz1, hz2⟩ := hz
    have HA := Lib.hid ha
    have HZ := Lib.hid hz2
    clear ha hz2 h
    by_cases hk : k = 65536
    · subst hk
      have hnew := CI.x_new (w0 := w) 65536 (by omega) (by omega) (Below.refl _ w)
      clear HA HZ h1 h2
      go_enter Try.func7, Try.ntmps7
      go_wp2_with fail
      refine hnew.mono ?_
      rintro e w1 ⟨c, F, rfl, hc, -, -⟩
      have HB := Lib.hid hc.2
      clear hc
      go_wp2_with fail
      refine (fixed_any _).mono ?_
      rintro e w2 ⟨rfl, B2⟩
      have B3 := HB.out.trans (B2.mono HB.out.size)
      clear B2
      go_wp2_with fail
      go_ret
      exact ⟨rfl, B3⟩
    have hk2 : k < 65536 := by omega
    have hk3 : (k : Int) < 65536 := by omega
    obtain ⟨k1, hk1⟩ : ∃ k1 : Nat, k + 1 = k1 := ⟨_, rfl⟩
    have hk4 : (k : Int) + 1 = (k1 : Int) := by omega
    have hnew2 := fun w' hB => CI.x_new (w0 := w) (w := w') k1 (by omega) (by omega) hB
    rw [← hk4] at hnew2
    have HN2 := Lib.hid hnew2
    have HK := Lib.hid hk1
    have hge : decide ((65536 : Int) ≤ (k : Int)) = false := by simp; omega
    have H12 := Lib.hid (And.intro h1 h2)
    have HC1 := Lib.hid (CI.x_new (w0 := w) k h1 h2 (Below.refl _ w))
    have hk5 : (k : Int) ≤ 70000 := by omega
    clear hk hnew2 hk1 hk4 hk2 hk3 h1 h2
    go_enter Try.func7, Try.ntmps7
    go_wp2_with fail
    refine HC1.out.mono ?_
    rintro e w1 ⟨c, F, rfl, hc, -, -⟩
    have HC := Lib.hid hc
    clear hc HC1
    go_wp2_with fail
    refine (HN2.out _ HC.out.2).mono ?_
    rintro e w2 ⟨d, G, rfl, hd, hB2, hlo⟩
    have HT := Lib.hid (show Twin w F c k [] G d k1 [] w2 from ⟨HC.out.later hB2, hd, fun i hi hG => by have := HC.out.lt hi; have := hlo i hG; omega⟩)
    clear HC hd hB2 hlo
    go_wp2_with fail
    go_loopw [9] (fun i wr => ∃ (j : Nat) (F G : Nat → Prop) (B : List (Int × ByteArray)), j ≤ script.length ∧ j ≤ 300 ∧ i = .int .i64 j ∧ Twin w F c k (B.take k) G d k1 B wr) (fun i _ => 300 - (intOf i).toNat)
    case atStart => exact ⟨0, F, G, [], Nat.zero_le _, Nat.zero_le _, rfl, by rw [List.take_nil]; exact HT.out⟩
    case round =>
      clear HT HN2
      obtain ⟨j, F, G, B, hj, hj3, rfl, ht⟩ := hrel
      have HT := Lib.hid ht
      clear ht
      by_cases hlt : j < script.length ∧ j < 300
      · obtain ⟨hlt, hlt3⟩ := hlt
        obtain ⟨b, off, rfl, hb, hcell⟩ := HA.out (by intro e; rw [e] at hlt; exact absurd hlt (by simp))
        obtain ⟨hx0, hx1, hx2⟩ := hcell j hlt
        obtain ⟨-, hok⟩ := HZ.out script[j] (List.getElem_mem hlt)
        have HB := HT.out.a.2
        have hy0 := (HB.cell (p := ⟨b, off + j * 3, none⟩) hb).trans hx0
        have hy1 := (HB.cell (p := ⟨b, off + j * 3 + 1, none⟩) hb).trans hx1
        have hy2 := (HB.cell (p := ⟨b, off + j * 3 + 2, none⟩) hb).trans hx2
        have HOK := Lib.hid hok
        have hji : (j : Int) < (script.length : Int) := by omega
        have hj3i : (j : Int) < 300 := by omega
        clear hcell hx0 hx1 hx2 hok HB
        obtain ⟨K, hK⟩ : ∃ K, script[j].1 = K := ⟨_, rfl⟩
        obtain ⟨M, hM⟩ : ∃ M, script[j].2.1 = M := ⟨_, rfl⟩
        obtain ⟨S, hS⟩ : ∃ S, script[j].2.2 = S := ⟨_, rfl⟩
        rw [hK] at hy0
        rw [hM] at hy1 HOK
        rw [hS] at hy2
        have hqF : ¬ F wr.heap.size := fun hi => by have := HT.out.a.lt hi; omega
        have hqG : ¬ G wr.heap.size := fun hi => by have := HT.out.b.lt hi; omega
        have hqw : w.heap.size ≤ wr.heap.size := HT.out.a.2.size
        have HND := Lib.hid HT.out.b.nodup
        have HQF := Lib.hid hqF
        have HQG := Lib.hid hqG
        have HT1 := Lib.hid (HT.out.later ((Below.refl _ wr).alloc (Nat.le_refl _) (opObj K M S)))
        have HO1 := Lib.hid (heap_alloc_new wr (opObj K M S))
        obtain ⟨w3, hw3⟩ : ∃ w3, wr.alloc (opObj K M S) = w3 := ⟨_, rfl⟩
        rw [hw3] at HT1 HO1
        have ho1 := HO1.out
        have q0 : w3.cell? ⟨wr.heap.size, 0, none⟩ = some (.int .i64 K) := by simp [World.cell?, ho1, opObj]
        have q1 := opObj.c1 ho1
        have q2 := opObj.c2 ho1
        unfold opObj at hw3
        clear hK hM hS hqF hqG HT ho1
        by_cases hK1 : K = 1
        · subst hK1
          go_wp2_with fail
          refine (CI.x_put HT1.out.a HOK.out S).mono ?_
          rintro e w4 ⟨rfl, F4, hc4, hs4⟩
          have HT4 := Lib.hid (HT1.out.left hc4 hs4)
          have HO4 := Lib.hid (hs4.1.keep HO1.out HQF.out)
          have q1 := opObj.c1 HO4.out
          have q2 := opObj.c2 HO4.out
          clear hc4 hs4 hy0 hy1 hy2
          go_wp2_with fail
          refine (CI.x_put HT4.out.b HOK.out S).mono ?_
          rintro e w5 ⟨rfl, G5, hd5, hs5⟩
          have ht5 := HT4.out.right hd5 hs5
          rw [less_put HND.out k M S] at ht5
          rw [← HK.out] at ht5
          obtain ⟨B5, hB5⟩ : ∃ B5, putL (k + 1) B M S = B5 := ⟨_, rfl⟩
          rw [hB5, HK.out] at ht5
          have HT5 := Lib.hid ht5
          clear hd5 hs5 ht5 hB5 HT1 HO1 HT4 HO4

          go_wp2_with fail
          refine (CI.x_keys HT5.out.a).mono ?_
          rintro e w6 ⟨v6, rfl, hr6, hc6, hB6⟩
          have HT6 := Lib.hid (HT5.out.later hB6)
          have HR6 := Lib.hid hr6
          clear hr6 hc6 hB6
          go_wp2_with fail
          refine (CI.x_keys HT6.out.b).mono ?_
          rintro e w7 ⟨v7, rfl, hr7, hd7, hB7⟩
          have HT7 := Lib.hid (HT6.out.later hB7)
          have hI6 := ints_of_row (HR6.out.later hB7).1
          have hI7 := ints_of_row hr7.1
          obtain ⟨Y, hY⟩ : ∃ Y, keysL B5 = Y := ⟨_, rfl⟩
          have hYt : keysL (B5.take k) = Y.take k := by rw [← hY]; unfold keysL; rw [List.map_take]
          rw [hYt] at hI6
          rw [hY] at hI7
          have hyl : Y.length ≤ k1 := by have := HT7.out.b.fits; rw [← hY]; unfold keysL; rw [List.length_map]; omega
          have hkk : k + 1 = k1 := HK.out
          obtain ⟨X, hX⟩ : ∃ X, Y.take k = X := ⟨_, rfl⟩
          have hxl : X.length ≤ Y.length ∧ X.length ≤ k := by rw [← hX, List.length_take]; omega
          obtain ⟨hxl1, hxl2⟩ := hxl
          have HXY := Lib.hid (show ∀ y (h1 : y < X.length) (h2 : y < Y.length), X[y] = Y[y] from fun y h1 h2 => by subst hX; rw [List.getElem_take])
          rw [hX] at hI6
          obtain ⟨a6, cap6, rfl, ha6⟩ := hI6
          obtain ⟨a7, cap7, rfl, ha7⟩ := hI7
          have H6 := Lib.hid ha6
          have H7 := Lib.hid ha7
          have hx1 : (X.length : Int) ≤ (Y.length : Int) := by omega
          have hx2 : (X.length : Int) ≤ (k : Int) := by omega
          have hx3 : (Y.length : Int) ≤ (k : Int) + 1 := by omega
          clear hr7 hd7 hB7 hY hYt hX ha6 ha7 hkk
          go_wp2_with fail
          go_loopw [17] (fun x wx => ∃ y : Nat, y ≤ X.length ∧ x = .int .i64 y ∧ Below w7.heap.size w7 wx) (fun x _ => X.length - (intOf x).toNat)
          case atStart => exact ⟨0, Nat.zero_le _, rfl, Below.refl _ _⟩
          case round =>
            obtain ⟨y, hy, rfl, hBx⟩ := hrel
            obtain ⟨wx, rfl⟩ : ∃ wx : World, wx = wr := ⟨_, rfl⟩
            by_cases hyN : y < X.length
            · have hyN2 : y < Y.length := by omega
              obtain ⟨b2, off2, rfl, hb2, hcell2⟩ := H6.out (by intro e; rw [e] at hyN; exact absurd hyN (by simp))
              obtain ⟨b3, off3, rfl, hb3, hcell3⟩ := H7.out (by intro e; rw [e] at hyN2; exact absurd hyN2 (by simp))
              have hc2 : wx.cell? ⟨b2, off2 + y, none⟩ = some (.int .i64 X[y]) := (hBx.cell (p := ⟨b2, off2 + y, none⟩) hb2).trans (hcell2 y hyN)
              have hc3 : wx.cell? ⟨b3, off3 + y, none⟩ = some (.int .i64 Y[y]) := (hBx.cell (p := ⟨b3, off3 + y, none⟩) hb3).trans (hcell3 y hyN2)
              rw [← HXY.out y hyN hyN2] at hc3
              have hyi : (y : Int) < (X.length : Int) := by omega
              have hyi2 : (y : Int) < (Y.length : Int) := by omega
              have HBx := Lib.hid hBx
              generalize X[y] = z at *
              clear hcell2 hcell3 hBx
              go_wp2_with fail
              go_region
              all_goals (
                go_wp2_with fail
                go_roundw
                case rel => exact ⟨y + 1, hyN, by go_num, HBx.out.drew⟩
                case measure => simp [intOf]; omega)
            · have HT8 := Lib.hid (HT7.out.later hBx)
              clear hBx
              go_wp2_with fail
              go_roundw
              case rel => exact ⟨j + 1, F4, G5, B5, hlt, hlt3, by go_num, HT8.out⟩
              case measure => simp [intOf]; omega
        · have hK1' : (K == 1) = false := by simp [hK1]
          clear hK1
          cases hg : getL (B.take k) M with
          | none =>
            have hgv : CI.getV (B.take k) M = .tuple #[.string ⟨#[]⟩, .bool false] := by unfold CI.getV; rw [hg]
            have huse : useL (B.take k) M = B.take k := by unfold useL; rw [hg]
            have HU := Lib.hid huse
            have HV := Lib.hid hgv
            clear hg hgv huse
            go_wp2_with fail
            refine (CI.x_get HT1.out.a HOK.out).mono ?_
            rintro e w4 ⟨he, F4, hc4, hs4⟩
            rw [HV.out] at he
            subst he
            rw [HU.out] at hc4
            have HT4 := Lib.hid (HT1.out.left hc4 hs4)
            clear hc4 hs4 hy0 hy1 hy2
            go_wp2_with fail
            go_roundw
            case rel => exact ⟨j + 1, F4, G, B, hlt, hlt3, by go_num, HT4.out⟩
            case measure => simp [intOf]; omega
          | some s =>
            have hgv : CI.getV (B.take k) M = .tuple #[.string s, .bool true] := by unfold CI.getV; rw [hg]
            have hgb := get_take hg
            have hgv2 : CI.getV B M = .tuple #[.string s, .bool true] := by unfold CI.getV; rw [hgb]
            have huse : useL (B.take k) M = ((M, s) :: dropL B M).take k := by unfold useL; rw [hg]; exact less_get HND.out hg
            have huse2 : useL B M = (M, s) :: dropL B M := by unfold useL; rw [hgb]
            have HU := Lib.hid huse
            have HU2 := Lib.hid huse2
            have HV := Lib.hid hgv
            have HV2 := Lib.hid hgv2
            clear hg hgv huse hgv2 huse2 hgb
            go_wp2_with fail
            refine (CI.x_get HT1.out.a HOK.out).mono ?_
            rintro e w4 ⟨he, F4, hc4, hs4⟩
            rw [HV.out] at he
            subst he
            have HT4 := Lib.hid (HT1.out.left hc4 hs4)
            have HO4 := Lib.hid (hs4.1.keep HO1.out HQF.out)
            have q1 := opObj.c1 HO4.out
            clear hc4 hs4 hy0 hy1 hy2
            go_wp2_with fail
            refine (CI.x_get HT4.out.b HOK.out).mono ?_
            rintro e w5 ⟨he, G5, hd5, hs5⟩
            rw [HV2.out] at he
            subst he
            have ht5 := HT4.out.right hd5 hs5
            rw [HU.out, HU2.out] at ht5
            obtain ⟨B5, hB5⟩ : ∃ B5, (M, s) :: dropL B M = B5 := ⟨_, rfl⟩
            rw [hB5] at ht5
            have HT5 := Lib.hid ht5
            clear hd5 hs5 ht5 hB5 HT1 HO1 HT4 HO4
            go_wp2_with fail
            refine (CI.x_keys HT5.out.a).mono ?_
            rintro e w6 ⟨v6, rfl, hr6, hc6, hB6⟩
            have HT6 := Lib.hid (HT5.out.later hB6)
            have HR6 := Lib.hid hr6
            clear hr6 hc6 hB6
            go_wp2_with fail
            refine (CI.x_keys HT6.out.b).mono ?_
            rintro e w7 ⟨v7, rfl, hr7, hd7, hB7⟩
            have HT7 := Lib.hid (HT6.out.later hB7)
            have hI6 := ints_of_row (HR6.out.later hB7).1
            have hI7 := ints_of_row hr7.1
            obtain ⟨Y, hY⟩ : ∃ Y, keysL B5 = Y := ⟨_, rfl⟩
            have hYt : keysL (B5.take k) = Y.take k := by rw [← hY]; unfold keysL; rw [List.map_take]
            rw [hYt] at hI6
            rw [hY] at hI7
            have hyl : Y.length ≤ k1 := by have := HT7.out.b.fits; rw [← hY]; unfold keysL; rw [List.length_map]; omega
            have hkk : k + 1 = k1 := HK.out
            obtain ⟨X, hX⟩ : ∃ X, Y.take k = X := ⟨_, rfl⟩
            have hxl : X.length ≤ Y.length ∧ X.length ≤ k := by rw [← hX, List.length_take]; omega
            obtain ⟨hxl1, hxl2⟩ := hxl
            have HXY := Lib.hid (show ∀ y (h1 : y < X.length) (h2 : y < Y.length), X[y] = Y[y] from fun y h1 h2 => by subst hX; rw [List.getElem_take])
            rw [hX] at hI6
            obtain ⟨a6, cap6, rfl, ha6⟩ := hI6
            obtain ⟨a7, cap7, rfl, ha7⟩ := hI7
            have H6 := Lib.hid ha6
            have H7 := Lib.hid ha7
            have hx1 : (X.length : Int) ≤ (Y.length : Int) := by omega
            have hx2 : (X.length : Int) ≤ (k : Int) := by omega
            have hx3 : (Y.length : Int) ≤ (k : Int) + 1 := by omega
            clear hr7 hd7 hB7 hY hYt hX ha6 ha7 hkk
            go_wp2_with fail
            go_loopw [17] (fun x wx => ∃ y : Nat, y ≤ X.length ∧ x = .int .i64 y ∧ Below w7.heap.size w7 wx) (fun x _ => X.length - (intOf x).toNat)
            case atStart => exact ⟨0, Nat.zero_le _, rfl, Below.refl _ _⟩
            case round =>
              obtain ⟨y, hy, rfl, hBx⟩ := hrel
              obtain ⟨wx, rfl⟩ : ∃ wx : World, wx = wr := ⟨_, rfl⟩
              by_cases hyN : y < X.length
              · have hyN2 : y < Y.length := by omega
                obtain ⟨b2, off2, rfl, hb2, hcell2⟩ := H6.out (by intro e; rw [e] at hyN; exact absurd hyN (by simp))
                obtain ⟨b3, off3, rfl, hb3, hcell3⟩ := H7.out (by intro e; rw [e] at hyN2; exact absurd hyN2 (by simp))
                have hc2 : wx.cell? ⟨b2, off2 + y, none⟩ = some (.int .i64 X[y]) := (hBx.cell (p := ⟨b2, off2 + y, none⟩) hb2).trans (hcell2 y hyN)
                have hc3 : wx.cell? ⟨b3, off3 + y, none⟩ = some (.int .i64 Y[y]) := (hBx.cell (p := ⟨b3, off3 + y, none⟩) hb3).trans (hcell3 y hyN2)
                rw [← HXY.out y hyN hyN2] at hc3
                have hyi : (y : Int) < (X.length : Int) := by omega
                have hyi2 : (y : Int) < (Y.length : Int) := by omega
                have HBx := Lib.hid hBx
                generalize X[y] = z at *
                clear hcell2 hcell3 hBx
                go_wp2_with fail
                go_region
                all_goals (
                  go_wp2_with fail
                  go_roundw
                  case rel => exact ⟨y + 1, hyN, by go_num, HBx.out.drew⟩
                  case measure => simp [intOf]; omega)
              · have HT8 := Lib.hid (HT7.out.later hBx)
                clear hBx
                go_wp2_with fail
                go_roundw
                case rel => exact ⟨j + 1, F4, G5, B5, hlt, hlt3, by go_num, HT8.out⟩
                case measure => simp [intOf]; omega
      · have hcase : ¬ j < script.length ∨ (j < script.length ∧ ¬ j < 300) := by omega
        have HB := Lib.hid HT.out.a.2
        clear HT
        rcases hcase with hge | ⟨hlt1, hge⟩
        all_goals (
          go_wp2_with fail
          refine (fixed_any _).mono ?_
          rintro e w2 ⟨rfl, B2⟩
          have HB2 := HB.out.trans (B2.mono HB.out.size)
          clear B2
          go_wp2_with fail
          go_ret
          exact ⟨rfl, HB2⟩)

set_option maxRecDepth 100000 in
/-- WHAT THE WALK GIVES, for every argument that can be read. -/
theorem contract (H : Type) (enc : TypeId × Value → H) (W : World) (base : Nat) (args : Array Value) (ds gs : List (DataW H)) (before : List MemPlace)
    (hval : ∀ (j : Nat) t v, Try.f7.params[j]? = some t → args[j]? = some v → Value.okWide Try.prog W .any base t v)
    (hW : DataW.Whole enc Try.prog Try.f7.params.toList Rows.cacheLessSpec.vars false W args.toList ds gs before)
    (hreach : (DataW.weightsEach Try.prog (Try.f7.params.toList) ds).all (· ≤ reachBytes) = true) :
    Calls Try.prog 7 args W fun e W' => ∃ v, e = .returned v ∧ Rows.cacheLessSpec.post enc Try.prog Try.f7 false true false false W args v W' := by
  have hW' := hW
  obtain ⟨p, q, hA0, hV, rfl, hfz, hnd⟩ := hW
  have hA : DataW.TrodAll enc Try.prog W 0 (fun _ => true) true Try.f7.params.toList args.toList ds p := hA0
  rw [Try.params7] at hA hval hreach
  obtain ⟨v0, v1, d0, d1, p0, p1, rfl, rfl, rfl, h0, h1⟩ := trodAll_two hA
  obtain ⟨rfl, rfl⟩ := trodVars_none hV
  obtain ⟨n0, rfl, rfl, rfl, wn0⟩ := open_int Try.underlying3 (hval 0 3 v0 rfl rfl) h0
  have r0 := int_range wn0
  have lt1 : ∀ x ∈ p1, x.block < W.heap.size := fun x hx => hW'.lt x (by simp [hx])
  obtain ⟨l1, k1, r1⟩ := ops_open (hval 1 30 v1 rfl rfl) h1 lt1
  clear hA0 hval
  simp only [List.append_nil] at hW'
  refine (walk n0 v1 l1 W r0 k1 r1).mono fun e W' ⟨he, hB⟩ => ?_
  subst he
  exact ⟨_, rfl, post_of_below (pa := [] ++ (p1)) (pv := []) hW' (fun _ _ _ => trodAll_mk1 (shut_bool Try.underlying4 _)) (fun sp hsp => trodAll_mk2 (shut_int Try.underlying3 wn0) (WideElems.Trod_stays laidOut (by kernel_rfl) (of_decide_eq_true (by kernel_rfl)) h1 (fun x hx => hB.same (lt1 x hx)) (fun x hx => hsp x (by simp [hx])))) (fun _ _ => rfl) (by simp) hB (ok_one (by kernel_rfl) rfl (okWide_bool_mk Try.underlying4 _))⟩

theorem reads (os : Os) {H : Type} (enc : TypeId × Value → H) : ∃ places, DataW.whole enc Try.prog ((laidWorld os).forCall (fun _ _ => 0) ⟨#[], #[.int .i64 0, .slice none 0 0], []⟩).memory Try.f7.params.toList Rows.cacheLessSpec.vars false (#[.int .i64 0, .slice none 0 0] : Array Value).toList 8 = some ([.lit (.int .i64 0), .nil], [], places) :=
  ⟨[], by kernel_rfl⟩

set_option maxRecDepth 100000 in
theorem lifted (os : Os) (started : os.Started) (H : Type) (enc : TypeId × Value → H) (F : Stop.Interp) :
    ReturnsInHanded {} Try.checked os 7 .any ((OpenSpec.ofChange Rows.cacheLessSpec).preRow enc Try.prog Try.f7 Rows.cacheLessRow.domain false Rows.cacheLessRow.laid) (((OpenSpec.ofChange Rows.cacheLessSpec).at F).post enc Try.prog Try.f7 false true false false) := by
  obtain ⟨places, hx⟩ := reads os enc
  refine returnsInHanded_of_row (C := Try.checked) (s := OpenSpec.ofChange Rows.cacheLessSpec) own started (by kernel_rfl) Try.func7
    (witness_row_at (enc := enc) (C := Try.checked) false (laidWorld os) #[.int .i64 0, .slice none 0 0] rfl (by kernel_rfl) (by kernel_rfl) (by kernel_rfl)
      (OpenSpec.preRow_of_cond 8 hx (by kernel_rfl) (fun k hk => by cases hk) (by kernel_rfl) (laid_met os _))) ?_
  intro W base args ds gs before hval hW _ hcond hreach hL _ _
  obtain ⟨p, q, hA0, hV, hpq, hfz, hnd⟩ := id hW
  obtain ⟨rfl, _⟩ := trodVars_none hV
  rw [List.append_nil] at hreach
  exact contract H enc W base args ds [] before hval hW hreach

theorem said : Rows.CacheLessSaid :=
  OpenClaim.holds_of_cond 7 Try.f7 rfl rfl rfl rfl rfl rfl rfl ⟨rfl, rfl, rfl, rfl, rfl⟩ rfl rfl rfl rfl rfl (by kernel_rfl) Try.func7 (by kernel_rfl)
    (of_decide_eq_true (by kernel_rfl)) (by unfold Func.isWrapper; first | (rw [if_pos (by decide +kernel)]; kernel_rfl) | (rw [if_neg (by decide +kernel)]; exact ⟨rfl, rfl⟩))
    (fun os started H enc _ F => by rw [OpenClaim.pre_eq_preRow]; exact lifted os started H enc F)


end Go.Proofs.Ytipnbggbejkhkaa.less
