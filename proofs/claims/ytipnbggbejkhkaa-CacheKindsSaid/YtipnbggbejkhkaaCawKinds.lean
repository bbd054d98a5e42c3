/-
  A cache of texts by texts does what one of numbers by the same keys does: for every number as the room, and every list of calls, of which the first three hundred are made.
  Conditions: none besides the row's own.
-/
import Derived.Test.YtipnbggbejkhkaaCacP
namespace Go.Proofs.Ytipnbggbejkhkaa.kinds
open Go.ChangeShapes Go.WideShapes Go.ChangeAt Go.RowKit Go

def opObj (K M : Int) (S : ByteArray) : Obj := .cells #[.int .i64 K, .int .i64 M, .string S] 36 (0, 0)
theorem opObj.c1 {w : World} {b : Nat} {K M : Int} {S : ByteArray} (h : w.heap[b]? = some (opObj K M S)) : w.cell? ⟨b, 1, none⟩ = some (.int .i64 M) := by simp [World.cell?, h, opObj]
theorem opObj.c2 {w : World} {b : Nat} {K M : Int} {S : ByteArray} (h : w.heap[b]? = some (opObj K M S)) : w.cell? ⟨b, 2, none⟩ = some (.string S) := by simp [World.cell?, h, opObj]

set_option maxRecDepth 100000 in
set_option maxHeartbeats 4000000 in
theorem walk (n : Int) (v : Value) (script : List (Int × Int × ByteArray)) (w : World) (_hn : -9223372036854775808 ≤ n ∧ n ≤ 9223372036854775807) (hO : OpsAt w v script) (hz : script.length ≤ 9223372036854775807 ∧ ∀ q ∈ script, CI.Ok q.1 ∧ CI.Ok q.2.1) :
    Calls Try.prog 5 #[.int .i64 n, v] w fun r w' => r = .returned (.bool true) ∧ Below w.heap.size w w' := by
  by_cases h : n < 1 ∨ 65536 < n
  · have hB0 := CI.new_bad n h w
    obtain ⟨a, cap, rfl, -⟩ := hO
    have HB1 := Lib.hid (fun w' => CS.new_bad n h w')
    clear hz h
    go_enter Try.func5, Try.ntmps5
    go_wp2_with fail
    refine hB0.mono ?_
    rintro e w1 ⟨rfl, B1⟩
    go_wp2_with fail
    refine (HB1.out w1).mono ?_
    rintro e w2 ⟨rfl, B2⟩
    have B3 := B1.trans (B2.mono B1.size)
    clear B1 B2
    go_wp2_with fail
    refine (fixed_any _).mono ?_
    rintro e w4 ⟨rfl, B4⟩
    have B5 := B3.trans (B4.mono B3.size)
    clear B3 B4
    go_wp2_with fail
    go_ret
    exact ⟨rfl, B5⟩
  · obtain ⟨k, rfl⟩ : ∃ k : Nat, n = k := ⟨n.toNat, by omega⟩
    have h1 : 1 ≤ k := by omega
    have h2 : k ≤ 65536 := by omega
    obtain ⟨a, cap, rfl, ha⟩ := hO
    obtain ⟨hz1, hz2⟩ := hz
    have HA := Lib.hid ha
    have HZ := Lib.hid hz2
    clear ha hz2 h
    have HC1 := Lib.hid (CI.x_new (w0 := w) k h1 h2 (Below.refl _ w))
    have HN2 := Lib.hid (fun w' hB => CS.x_new (w0 := w) (w := w') k h1 h2 hB)
    clear h1 h2
    go_enter Try.func5, Try.ntmps5
    go_wp2_with fail
    refine HC1.out.mono ?_
    rintro e w1 ⟨c, F, rfl, hc, -, -⟩
    have HC := Lib.hid hc
    clear hc HC1
    go_wp2_with fail
    refine (HN2.out _ HC.out.2).mono ?_
    rintro e w2 ⟨d, G, rfl, hd, hB2, hlo⟩
    have HT := Lib.hid (show Mix w F c k [] G d (TL []) w2 from ⟨HC.out.later hB2, hd, fun i hi hG => by have := HC.out.lt hi; have := hlo i hG; omega⟩)
    clear HC HN2 hd hB2 hlo
    go_wp2_with fail
    go_loopw [9] (fun i wr => ∃ (j : Nat) (F G : Nat → Prop) (A : List (Int × ByteArray)), j ≤ script.length ∧ j ≤ 300 ∧ i = .int .i64 j ∧ Low A ∧ Mix w F c k A G d (TL A) wr) (fun i _ => 300 - (intOf i).toNat)
    case atStart => exact ⟨0, F, G, [], Nat.zero_le _, Nat.zero_le _, rfl, (fun _ h => by cases h), HT.out⟩
    case round =>
      clear HT
      obtain ⟨j, F, G, A, hj, hj3, rfl, hlow, ht⟩ := hrel
      have HT := Lib.hid ht
      have HL := Lib.hid hlow
      clear ht hlow
      by_cases hlt : j < script.length ∧ j < 300
      · obtain ⟨hlt, hlt3⟩ := hlt
        obtain ⟨b, off, rfl, hb, hcell⟩ := HA.out (by intro e; rw [e] at hlt; exact absurd hlt (by simp))
        obtain ⟨hx0, hx1, hx2⟩ := hcell j hlt
        have HB := HT.out.a.2
        have hy0 := (HB.cell (p := ⟨b, off + j * 3, none⟩) hb).trans hx0
        have hy1 := (HB.cell (p := ⟨b, off + j * 3 + 1, none⟩) hb).trans hx1
        have hy2 := (HB.cell (p := ⟨b, off + j * 3 + 2, none⟩) hb).trans hx2
        have hji : (j : Int) < (script.length : Int) := by omega
        have hj3i : (j : Int) < 300 := by omega
        clear hcell hx0 hx1 hx2 HB
        obtain ⟨K, hK⟩ : ∃ K, script[j].1 = K := ⟨_, rfl⟩
        obtain ⟨M, hM⟩ : ∃ M, script[j].2.1 = M := ⟨_, rfl⟩
        obtain ⟨S, hS⟩ : ∃ S, script[j].2.2 = S := ⟨_, rfl⟩
        rw [hK] at hy0
        rw [hM] at hy1
        rw [hS] at hy2
        obtain ⟨n, hn63, hbits⟩ := and63 M
        have hok : CI.Ok (n : Int) := by unfold CI.Ok; omega
        have hrg : 0 ≤ (n : Int) ∧ (n : Int) ≤ 63 := by omega
        have HOK := Lib.hid hok
        have HRG := Lib.hid hrg
        have hw := byte32 n hn63
        obtain ⟨u, hu⟩ : ∃ u, UInt8.ofNat (n + 32) = u := ⟨_, rfl⟩
        rw [hu] at hw
        have hkb : kb n = ⟨#[u]⟩ := by unfold kb; rw [Int.toNat_natCast, hu]
        have HKB := Lib.hid hkb
        have hqF : ¬ F wr.heap.size := fun hi => by have := HT.out.a.lt hi; omega
        have hqG : ¬ G wr.heap.size := fun hi => by have := HT.out.b.lt hi; omega
        have hqw : w.heap.size ≤ wr.heap.size := HT.out.a.2.size
        have HQF := Lib.hid hqF
        have HQG := Lib.hid hqG
        have hB3 := (Below.refl wr.heap.size wr).alloc (Nat.le_refl _) (opObj K M S)
        have hO := heap_alloc_new wr (opObj K M S)
        obtain ⟨w3, hw3⟩ : ∃ w3, wr.alloc (opObj K M S) = w3 := ⟨_, rfl⟩
        rw [hw3] at hB3 hO
        have q0' : w3.cell? ⟨wr.heap.size, 0, none⟩ = some (.int .i64 K) := by simp [World.cell?, hO, opObj]
        have q1' := opObj.c1 hO
        have hconv := conv_one w3 u
        have hB4 := (Below.refl w3.heap.size w3).alloc (Nat.le_refl _) (.cells #[.int .u8 (u.toNat : Nat)] 5)
        have HO1 := Lib.hid (keeps_of hB4 hO)
        have HT1 := Lib.hid ((HT.out.later hB3).later hB4)
        obtain ⟨w4, hw4⟩ : ∃ w4, w3.alloc (.cells #[.int .u8 (u.toNat : Nat)] 5) = w4 := ⟨_, rfl⟩
        rw [hw4] at HO1 HT1 hconv
        have ho1 := HO1.out
        have q0 : w4.cell? ⟨wr.heap.size, 0, none⟩ = some (.int .i64 K) := by simp [World.cell?, ho1, opObj]
        have q1 := opObj.c1 ho1
        have q2 := opObj.c2 ho1
        unfold opObj at hw3
        clear hK hM hS hqF hqG HT ho1 hB3 hO hB4 hok hrg hkb hu
        have hcase : K = 0 ∨ K = 1 ∨ K = 2 ∨ (K ≠ 0 ∧ K ≠ 1 ∧ K ≠ 2) := by omega
        rcases hcase with rfl | rfl | rfl | ⟨hk0, hk1, hk2⟩
        · go_wp2_with fail
          refine (CI.x_get HT1.out.a HOK.out).mono ?_
          rintro e w5 ⟨he, F5, hc5, hs5⟩
          obtain ⟨⟨s, bb, e1, e2⟩, hu2, hl2⟩ := kinds_get HL.out HRG.out
          rw [e1] at he
          subst he
          rw [HKB.out] at e2 hu2
          have HE2 := Lib.hid e2
          have HT5 := Lib.hid (HT1.out.left hc5 hs5)
          have hget := CS.x_get HT5.out.b (kb_ok n)
          rw [HKB.out] at hget
          clear hc5 hs5 e1 e2 q0' q1' hconv hy0 hy1 hy2 q0 q1 q2 hw3 hw4
          go_wp2_with fail
          refine hget.mono ?_
          rintro e w6 ⟨he, G6, hd6, hs6⟩
          rw [HE2.out] at he
          subst he
          rw [hu2] at hd6
          obtain ⟨A5, hA5⟩ : ∃ A5, useL A n = A5 := ⟨_, rfl⟩
          have hx := HT5.out.right hd6 hs6
          rw [hA5] at hx hl2
          have HX := Lib.hid hx
          have HL5 := Lib.hid hl2
          clear hd6 hs6 hx hu2 hA5 hget hl2

          go_wp2_with fail
          refine (CI.x_keys HX.out.a).mono ?_
          rintro e w8 ⟨v8, rfl, hr8, hc8, hB8⟩
          have HX8 := Lib.hid (HX.out.later hB8)
          obtain ⟨N, hN⟩ : ∃ N, (keysL A5).length = N := ⟨_, rfl⟩
          rw [hN] at hr8
          obtain ⟨a8, cap8, rfl⟩ := row_shape hr8.1
          clear hr8 hc8 hB8
          go_wp2_with fail
          refine (CS.x_keys HX8.out.b).mono ?_
          rintro e w9 ⟨v9, rfl, hr9, hd9, hB9⟩
          have HX9 := Lib.hid (HX8.out.later hB9)
          rw [show (keysL (TL A5)).length = N by rw [← hN]; unfold keysL; rw [List.length_map, List.length_map]; exact mapL_len kb size A5] at hr9
          obtain ⟨a9, cap9, rfl⟩ := row_shape hr9.1
          have hne : ((N : Int) != (N : Int)) = false := by simp
          clear hr9 hd9 hB9 hN
          go_wp2_with fail
          go_roundw
          case rel => exact ⟨j + 1, F5, G6, A5, hlt, hlt3, by go_num, HL5.out, HX9.out⟩
          case measure => simp [intOf]; omega
        · obtain ⟨hpv, hu2, hl2⟩ := kinds_put HL.out HRG.out S k
          rw [HKB.out] at hpv hu2
          have HU2 := Lib.hid hu2
          clear hu2
          rcases hpv with ⟨e1, e2⟩ | ⟨g, hg63, e1, e2⟩
          · have HE1 := Lib.hid e1
            have HE2 := Lib.hid e2
            clear e1 e2
            go_wp2_with fail
            refine (CI.x_put HT1.out.a HOK.out S).mono ?_
            rintro e w5 ⟨he, F5, hc5, hs5⟩
            rw [HE1.out] at he
            subst he
            have HT5 := Lib.hid (HT1.out.left hc5 hs5)
            have ho5 := hs5.1.keep HO1.out HQF.out
            have q2 := opObj.c2 ho5
            have hput := CS.x_put HT5.out.b (kb_ok n) (size S)
            rw [HKB.out] at hput
            unfold size at hput
            clear hc5 hs5 ho5 q0' q1' hconv hy0 hy1 hy2 q0 q1 hw3 hw4
            go_wp2_with fail
            refine hput.mono ?_
            rintro e w6 ⟨he, G6, hd6, hs6⟩
            have he2 := HE2.out
            unfold size at he2
            rw [he2] at he
            subst he
            have hu3 := HU2.out
            unfold size at hu3
            rw [hu3] at hd6
            obtain ⟨A5, hA5⟩ : ∃ A5, putL k A n S = A5 := ⟨_, rfl⟩
            have hx := HT5.out.right hd6 hs6
            rw [hA5] at hx hl2
            have HX := Lib.hid hx
            have HL5 := Lib.hid hl2
            clear hd6 hs6 hx hu3 hA5 hput hl2 he2 q2
            go_wp2_with fail
            refine (CI.x_keys HX.out.a).mono ?_
            rintro e w8 ⟨v8, rfl, hr8, hc8, hB8⟩
            have HX8 := Lib.hid (HX.out.later hB8)
            obtain ⟨N, hN⟩ : ∃ N, (keysL A5).length = N := ⟨_, rfl⟩
            rw [hN] at hr8
            obtain ⟨a8, cap8, rfl⟩ := row_shape hr8.1
            clear hr8 hc8 hB8
            go_wp2_with fail
            refine (CS.x_keys HX8.out.b).mono ?_
            rintro e w9 ⟨v9, rfl, hr9, hd9, hB9⟩
            have HX9 := Lib.hid (HX8.out.later hB9)
            rw [show (keysL (TL A5)).length = N by rw [← hN]; unfold keysL; rw [List.length_map, List.length_map]; exact mapL_len kb size A5] at hr9
            obtain ⟨a9, cap9, rfl⟩ := row_shape hr9.1
            have hne : ((N : Int) != (N : Int)) = false := by simp
            clear hr9 hd9 hB9 hN
            go_wp2_with fail
            go_roundw
            case rel => exact ⟨j + 1, F5, G6, A5, hlt, hlt3, by go_num, HL5.out, HX9.out⟩
            case measure => simp [intOf]; omega
          · have HE1 := Lib.hid e1
            have HE2 := Lib.hid e2
            have hw32 := byte32 g hg63
            obtain ⟨u2, hu2⟩ : ∃ u2, UInt8.ofNat (g + 32) = u2 := ⟨_, rfl⟩
            rw [hu2] at hw32
            have hkb2 : kb g = ⟨#[u2]⟩ := by unfold kb; rw [Int.toNat_natCast, hu2]
            have HKB2 := Lib.hid hkb2
            clear e1 e2 hu2 hkb2
            go_wp2_with fail
            refine (CI.x_put HT1.out.a HOK.out S).mono ?_
            rintro e w5 ⟨he, F5, hc5, hs5⟩
            rw [HE1.out] at he
            subst he
            have HT5 := Lib.hid (HT1.out.left hc5 hs5)
            have ho5 := hs5.1.keep HO1.out HQF.out
            have q2 := opObj.c2 ho5
            have hput := CS.x_put HT5.out.b (kb_ok n) (size S)
            rw [HKB.out] at hput
            unfold size at hput
            clear hc5 hs5 ho5 q0' q1' hconv hy0 hy1 hy2 q0 q1 hw3 hw4
            go_wp2_with fail
            refine hput.mono ?_
            rintro e w6 ⟨he, G6, hd6, hs6⟩
            have he2 := HE2.out
            unfold size at he2
            rw [he2, HKB2.out] at he
            subst he
            have hu3 := HU2.out
            unfold size at hu3
            rw [hu3] at hd6
            obtain ⟨A5, hA5⟩ : ∃ A5, putL k A n S = A5 := ⟨_, rfl⟩
            have hx := HT5.out.right hd6 hs6
            rw [hA5] at hx hl2
            have hconv2 := conv_one w6 u2
            have HX := Lib.hid (hx.later ((Below.refl w6.heap.size w6).alloc (Nat.le_refl _) (.cells #[.int .u8 (u2.toNat : Nat)] 5)))
            obtain ⟨w7, hw7⟩ : ∃ w7, w6.alloc (.cells #[.int .u8 (u2.toNat : Nat)] 5) = w7 := ⟨_, rfl⟩
            rw [hw7] at HX hconv2
            have HL5 := Lib.hid hl2
            clear hd6 hs6 hx hu3 hA5 hput hl2 he2 q2
            go_wp2_with fail
            refine (CI.x_keys HX.out.a).mono ?_
            rintro e w8 ⟨v8, rfl, hr8, hc8, hB8⟩
            have HX8 := Lib.hid (HX.out.later hB8)
            obtain ⟨N, hN⟩ : ∃ N, (keysL A5).length = N := ⟨_, rfl⟩
            rw [hN] at hr8
            obtain ⟨a8, cap8, rfl⟩ := row_shape hr8.1
            clear hr8 hc8 hB8
            go_wp2_with fail
            refine (CS.x_keys HX8.out.b).mono ?_
            rintro e w9 ⟨v9, rfl, hr9, hd9, hB9⟩
            have HX9 := Lib.hid (HX8.out.later hB9)
            rw [show (keysL (TL A5)).length = N by rw [← hN]; unfold keysL; rw [List.length_map, List.length_map]; exact mapL_len kb size A5] at hr9
            obtain ⟨a9, cap9, rfl⟩ := row_shape hr9.1
            have hne : ((N : Int) != (N : Int)) = false := by simp
            clear hr9 hd9 hB9 hN
            go_wp2_with fail
            go_roundw
            case rel => exact ⟨j + 1, F5, G6, A5, hlt, hlt3, by go_num, HL5.out, HX9.out⟩
            case measure => simp [intOf]; omega
        · obtain ⟨e1, hu2, hl2⟩ := kinds_drop HL.out HRG.out
          rw [HKB.out] at e1 hu2
          have HE1 := Lib.hid e1
          have HU2 := Lib.hid hu2
          clear e1 hu2
          go_wp2_with fail
          refine (CI.x_drop HT1.out.a HOK.out).mono ?_
          rintro e w5 ⟨rfl, F5, hc5, hs5⟩
          have HT5 := Lib.hid (HT1.out.left hc5 hs5)
          have hdrop := CS.x_drop HT5.out.b (kb_ok n)
          rw [HKB.out] at hdrop
          clear hc5 hs5 q0' q1' hconv hy0 hy1 hy2 q0 q1 q2 hw3 hw4
          go_wp2_with fail
          refine hdrop.mono ?_
          rintro e w6 ⟨he, G6, hd6, hs6⟩
          rw [HE1.out] at he
          subst he
          rw [HU2.out] at hd6
          obtain ⟨A5, hA5⟩ : ∃ A5, dropL A n = A5 := ⟨_, rfl⟩
          have hx := HT5.out.right hd6 hs6
          rw [hA5] at hx hl2
          have HX := Lib.hid hx
          have HL5 := Lib.hid hl2
          clear hd6 hs6 hx hA5 hdrop hl2

          go_wp2_with fail
          refine (CI.x_keys HX.out.a).mono ?_
          rintro e w8 ⟨v8, rfl, hr8, hc8, hB8⟩
          have HX8 := Lib.hid (HX.out.later hB8)
          obtain ⟨N, hN⟩ : ∃ N, (keysL A5).length = N := ⟨_, rfl⟩
          rw [hN] at hr8
          obtain ⟨a8, cap8, rfl⟩ := row_shape hr8.1
          clear hr8 hc8 hB8
          go_wp2_with fail
          refine (CS.x_keys HX8.out.b).mono ?_
          rintro e w9 ⟨v9, rfl, hr9, hd9, hB9⟩
          have HX9 := Lib.hid (HX8.out.later hB9)
          rw [show (keysL (TL A5)).length = N by rw [← hN]; unfold keysL; rw [List.length_map, List.length_map]; exact mapL_len kb size A5] at hr9
          obtain ⟨a9, cap9, rfl⟩ := row_shape hr9.1
          have hne : ((N : Int) != (N : Int)) = false := by simp
          clear hr9 hd9 hB9 hN
          go_wp2_with fail
          go_roundw
          case rel => exact ⟨j + 1, F5, G6, A5, hlt, hlt3, by go_num, HL5.out, HX9.out⟩
          case measure => simp [intOf]; omega
        · have hk0' : (K == 0) = false := by simp [hk0]
          have hk1' : (K == 1) = false := by simp [hk1]
          have hk2' : (K == 2) = false := by simp [hk2]
          have HX := HT1
          have HL5 := HL
          obtain ⟨F5, rfl⟩ : ∃ F5, F5 = F := ⟨_, rfl⟩
          obtain ⟨G6, rfl⟩ : ∃ G6, G6 = G := ⟨_, rfl⟩
          obtain ⟨A5, rfl⟩ : ∃ A5, A5 = A := ⟨_, rfl⟩
          clear HT1 HO1 hk0 hk1 hk2

          go_wp2_with fail
          refine (CI.x_keys HX.out.a).mono ?_
          rintro e w8 ⟨v8, rfl, hr8, hc8, hB8⟩
          have HX8 := Lib.hid (HX.out.later hB8)
          obtain ⟨N, hN⟩ : ∃ N, (keysL A5).length = N := ⟨_, rfl⟩
          rw [hN] at hr8
          obtain ⟨a8, cap8, rfl⟩ := row_shape hr8.1
          clear hr8 hc8 hB8
          go_wp2_with fail
          refine (CS.x_keys HX8.out.b).mono ?_
          rintro e w9 ⟨v9, rfl, hr9, hd9, hB9⟩
          have HX9 := Lib.hid (HX8.out.later hB9)
          rw [show (keysL (TL A5)).length = N by rw [← hN]; unfold keysL; rw [List.length_map, List.length_map]; exact mapL_len kb size A5] at hr9
          obtain ⟨a9, cap9, rfl⟩ := row_shape hr9.1
          have hne : ((N : Int) != (N : Int)) = false := by simp
          clear hr9 hd9 hB9 hN
          go_wp2_with fail
          go_roundw
          case rel => exact ⟨j + 1, F5, G6, A5, hlt, hlt3, by go_num, HL5.out, HX9.out⟩
          case measure => simp [intOf]; omega
      · have hcase : ¬ j < script.length ∨ (j < script.length ∧ ¬ j < 300) := by omega
        have HB := Lib.hid HT.out.a.2
        clear HT
        rcases hcase with hge | ⟨hlt1, hge⟩
        all_goals (
          go_wp2_with fail
          refine (fixed_any _).mono ?_
          rintro e w2 ⟨rfl, B2⟩
          have HB2 := HB.out.trans (B2.mono HB.out.size)
          clear B2
          go_wp2_with fail
          go_ret
          exact ⟨rfl, HB2⟩)

set_option maxRecDepth 100000 in
/-- WHAT THE WALK GIVES, for every argument that can be read. -/
theorem contract (H : Type) (enc : TypeId × Value → H) (W : World) (base : Nat) (args : Array Value) (ds gs : List (DataW H)) (before : List MemPlace)
    (hval : ∀ (j : Nat) t v, Try.f5.params[j]? = some t → args[j]? = some v → Value.okWide Try.prog W .any base t v)
    (hW : DataW.Whole enc Try.prog Try.f5.params.toList Rows.cacheKindsSpec.vars false W args.toList ds gs before)
    (hreach : (DataW.weightsEach Try.prog (Try.f5.params.toList) ds).all (· ≤ reachBytes) = true) :
    Calls Try.prog 5 args W fun e W' => ∃ v, e = .returned v ∧ Rows.cacheKindsSpec.post enc Try.prog Try.f5 false true false false W args v W' := by
  have hW' := hW
  obtain ⟨p, q, hA0, hV, rfl, hfz, hnd⟩ := hW
  have hA : DataW.TrodAll enc Try.prog W 0 (fun _ => true) true Try.f5.params.toList args.toList ds p := hA0
  rw [Try.params5] at hA hval hreach
  obtain ⟨v0, v1, d0, d1, p0, p1, rfl, rfl, rfl, h0, h1⟩ := trodAll_two hA
  obtain ⟨rfl, rfl⟩ := trodVars_none hV
  obtain ⟨n0, rfl, rfl, rfl, wn0⟩ := open_int Try.underlying3 (hval 0 3 v0 rfl rfl) h0
  have r0 := int_range wn0
  have lt1 : ∀ x ∈ p1, x.block < W.heap.size := fun x hx => hW'.lt x (by simp [hx])
  obtain ⟨l1, k1, r1⟩ := ops_open (hval 1 30 v1 rfl rfl) h1 lt1
  clear hA0 hval
  simp only [List.append_nil] at hW'
  refine (walk n0 v1 l1 W r0 k1 r1).mono fun e W' ⟨he, hB⟩ => ?_
  subst he
  exact ⟨_, rfl, post_of_below (pa := [] ++ (p1)) (pv := []) hW' (fun _ _ _ => trodAll_mk1 (shut_bool Try.underlying4 _)) (fun sp hsp => trodAll_mk2 (shut_int Try.underlying3 wn0) (WideElems.Trod_stays laidOut (by kernel_rfl) (of_decide_eq_true (by kernel_rfl)) h1 (fun x hx => hB.same (lt1 x hx)) (fun x hx => hsp x (by simp [hx])))) (fun _ _ => rfl) (by simp) hB (ok_one (by kernel_rfl) rfl (okWide_bool_mk Try.underlying4 _))⟩

theorem reads (os : Os) {H : Type} (enc : TypeId × Value → H) : ∃ places, DataW.whole enc Try.prog ((laidWorld os).forCall (fun _ _ => 0) ⟨#[], #[.int .i64 0, .slice none 0 0], []⟩).memory Try.f5.params.toList Rows.cacheKindsSpec.vars false (#[.int .i64 0, .slice none 0 0] : Array Value).toList 8 = some ([.lit (.int .i64 0), .nil], [], places) :=
  ⟨[], by kernel_rfl⟩

set_option maxRecDepth 100000 in
theorem lifted (os : Os) (started : os.Started) (H : Type) (enc : TypeId × Value → H) (F : Stop.Interp) :
    ReturnsInHanded {} Try.checked os 5 .any ((OpenSpec.ofChange Rows.cacheKindsSpec).preRow enc Try.prog Try.f5 Rows.cacheKindsRow.domain false Rows.cacheKindsRow.laid) (((OpenSpec.ofChange Rows.cacheKindsSpec).at F).post enc Try.prog Try.f5 false true false false) := by
  obtain ⟨places, hx⟩ := reads os enc
  refine returnsInHanded_of_row (C := Try.checked) (s := OpenSpec.ofChange Rows.cacheKindsSpec) own started (by kernel_rfl) Try.func5
    (witness_row_at (enc := enc) (C := Try.checked) false (laidWorld os) #[.int .i64 0, .slice none 0 0] rfl (by kernel_rfl) (by kernel_rfl) (by kernel_rfl)
      (OpenSpec.preRow_of_cond 8 hx (by kernel_rfl) (fun k hk => by cases hk) (by kernel_rfl) (laid_met os _))) ?_
  intro W base args ds gs before hval hW _ hcond hreach hL _ _
  obtain ⟨p, q, hA0, hV, hpq, hfz, hnd⟩ := id hW
  obtain ⟨rfl, _⟩ := trodVars_none hV
  rw [List.append_nil] at hreach
  exact contract H enc W base args ds [] before hval hW hreach

theorem said : Rows.CacheKindsSaid :=
  OpenClaim.holds_of_cond 5 Try.f5 rfl rfl rfl rfl rfl rfl rfl ⟨rfl, rfl, rfl, rfl, rfl⟩ rfl rfl rfl rfl rfl (by kernel_rfl) Try.func5 (by kernel_rfl)
    (of_decide_eq_true (by kernel_rfl)) (by unfold Func.isWrapper; first | (rw [if_pos (by decide +kernel)]; kernel_rfl) | (rw [if_neg (by decide +kernel)]; exact ⟨rfl, rfl⟩))
    (fun os started H enc _ F => by rw [OpenClaim.pre_eq_preRow]; exact lifted os started H enc F)


end Go.Proofs.Ytipnbggbejkhkaa.kinds
