/-
  The reference: its sum.
-/
import Derived.Test.YtgeggiafjojgdaaDoorDigM
namespace Go.Proofs.YtgeggiafjojgdaaDoor.DG
open Go.RowKit Go

set_option maxRecDepth 100000 in
set_option maxHeartbeats 2000000 in
/-- what a sum of all bytes answers, by a key -/
theorem sumV_eq {key s : ByteArray} (h : key.size = 16) : sumV key.data.toList s.data.toList = .tuple #[.string (bs (sum key.data.toList s.data.toList)), .int .i64 0] := by
  unfold sumV; rw [if_pos (by simpa using h)]

set_option maxRecDepth 100000 in
set_option maxHeartbeats 4000000 in
theorem rsum_right (key s : ByteArray) (hk16 : key.size = 16) (hs : s.size ≤ 140737488351232) (w : World) :
    Calls Tryd.prog 22 #[.string key, .string s] w fun e w' => e = .returned (sumV key.data.toList s.data.toList) ∧ Below w.heap.size w w' := by
  have k1 : (key.extract 0 8).size = 8 := by simp; omega
  have k2 : (key.extract 8 16).size = 8 := by simp; omega
  have l1 := extract_take key 8
  have l2 := extract_drop key 8
  rw [hk16] at l2
  have C1 := fun w => rword_any (key.extract 0 8) k1 w
  have C2 := fun w => rword_any (key.extract 8 16) k2 w
  rw [l1] at C1
  rw [l2] at C2
  have hn16 : ((key.size : Int) != 16) = false := by rw [hk16]; rfl
  have hi : (key.size : Int) = 16 := by rw [hk16]; rfl
  obtain ⟨p, hp⟩ : ∃ p, key.extract 0 8 = p := ⟨_, rfl⟩
  obtain ⟨q, hq⟩ : ∃ q, key.extract 8 16 = q := ⟨_, rfl⟩
  obtain ⟨k, hk'⟩ : ∃ k, word (key.data.toList.take 8) = k := ⟨_, rfl⟩
  obtain ⟨l, hl⟩ : ∃ l, word (key.data.toList.drop 8) = l := ⟨_, rfl⟩
  rw [hp, hk'] at C1
  rw [hq, hl] at C2
  have C12 : ∀ (U : ByteArray) (V : UInt64) (w : World), (U = p ∧ V = k ∨ U = q ∧ V = l) → Calls Tryd.prog 33 #[.string U] w fun e w' => e = .returned (.int .u64 V.toNat) ∧ w' = w := by
    rintro U V w (⟨rfl, rfl⟩ | ⟨rfl, rfl⟩)
    · exact (C1 w).mono fun e w' h => ⟨h.1, h.2.symm⟩
    · exact (C2 w).mono fun e w' h => ⟨h.1, h.2.symm⟩
  have f1 : bits .xor .u64 (k.toNat : Int) 8317987319222330741 = ((k ^^^ 0x736f6d6570736575).toNat : Int) := xor_spell k 0x736f6d6570736575
  have f2 : bits .xor .u64 (l.toNat : Int) 7237128888997146477 = ((l ^^^ 0x646f72616e646f6d).toNat : Int) := xor_spell l 0x646f72616e646f6d
  have f3 : bits .xor .u64 (k.toNat : Int) 7816392313619706465 = ((k ^^^ 0x6c7967656e657261).toNat : Int) := xor_spell k 0x6c7967656e657261
  have f4 : bits .xor .u64 (l.toNat : Int) 8387220255154660723 = ((l ^^^ 0x7465646279746573).toNat : Int) := xor_spell l 0x7465646279746573
  have hst : start k l = ⟨k ^^^ 0x736f6d6570736575, l ^^^ 0x646f72616e646f6d, k ^^^ 0x6c7967656e657261, l ^^^ 0x7465646279746573⟩ := rfl
  generalize k ^^^ 0x736f6d6570736575 = x1 at f1 hst
  generalize l ^^^ 0x646f72616e646f6d = x2 at f2 hst
  generalize k ^^^ 0x6c7967656e657261 = x3 at f3 hst
  generalize l ^^^ 0x7465646279746573 = x4 at f4 hst
  have HST := Lib.hid hst
  have HK := Lib.hid hk'
  have HL := Lib.hid hl
  clear k1 k2 l1 l2 C1 C2 hst hk' hl
  have hr := pad_spell s.size hs
  obtain ⟨z, hz⟩ : ∃ z, 7 - s.size % 8 = z := ⟨_, rfl⟩
  rw [hz] at hr
  have hz7 : z ≤ 7 := by omega
  have hr2 : 7 - (s.size : Int) % 8 = (z : Int) := by omega
  have hmk := fun W => made_run W z (by omega)
  have hml := made_list z
  generalize madeCells #[.int .u8 0] z = M at hmk hml
  have hc : IntKind.u8.wrap ((s.size : Int) % 256) = ((UInt8.ofNat s.size).toNat : Int) := by
    show ((s.size : Int) % 256) % 256 = _
    rw [UInt8.toNat_ofNat']; omega
  have hc2 : IntKind.u8.wrap ((s.size : Int).tmod 256) = ((UInt8.ofNat s.size).toNat : Int) := by
    rw [Int.tmod_eq_emod_of_nonneg (by omega)]; exact hc
  generalize hC : UInt8.ofNat s.size = c at hc hc2
  have HC := Lib.hid hC
  clear hC
  go_enter Tryd.func22, Tryd.ntmps22
  go_wp2_with fail
  go_quiet ((go_at_call 33; exact Calls.quiet_of_same (C12 _ _ _ (by first | exact Or.inl ⟨rfl, rfl⟩ | exact Or.inr ⟨rfl, rfl⟩))))
  have BQ : Below w.heap.size w (w.drewN nq) := below_drewN (Below.refl _ _) _
  generalize w.drewN nq = wq at BQ ⊢
  have X1 : ∀ A : World, (convert 33 9 (.slice (some ⟨A.heap.size, 0, none⟩) z z)).run Tryd.prog (A.alloc (.cells M 5)) = .ok (.string (bs (List.replicate z 0))) (A.alloc (.cells M 5)) := fun A => conv_block _ _ _ _ _ _ (heap_alloc_new _ _) (by simp) hml
  have X2 : ∀ (A : World) (o : Obj), (convert 33 9 (.slice (some ⟨A.heap.size, 0, none⟩) z z)).run Tryd.prog ((A.alloc (.cells M 5)).alloc o) = .ok (.string (bs (List.replicate z 0))) ((A.alloc (.cells M 5)).alloc o) := fun A o => conv_block _ _ _ M 5 _ (by rw [Below.heap_alloc _ _ _ (by simp), heap_alloc_new]) (by simp) hml
  have Y1 : ∀ A : World, (convert 33 9 (.slice (some ⟨A.heap.size, 0, none⟩) 1 1)).run Tryd.prog (A.alloc (.cells #[.int .u8 c.toNat] 5)) = .ok (.string (bs [c])) (A.alloc (.cells #[.int .u8 c.toNat] 5)) := fun A => conv_block _ _ _ _ _ _ (heap_alloc_new _ _) rfl rfl
  have Y2 : ∀ (A : World) (o : Obj), (convert 33 9 (.slice (some ⟨A.heap.size, 0, none⟩) 1 1)).run Tryd.prog ((A.alloc (.cells #[.int .u8 c.toNat] 5)).alloc o) = .ok (.string (bs [c])) ((A.alloc (.cells #[.int .u8 c.toNat] 5)).alloc o) := fun A o => conv_block _ _ _ #[.int .u8 c.toNat] 5 [c] (by rw [Below.heap_alloc _ _ _ (by simp), heap_alloc_new]) rfl rfl
  obtain ⟨w0, e0⟩ : ∃ w0, wq.alloc (.cells #[.int .u64 x1.toNat, .int .u64 x2.toNat, .int .u64 x3.toNat, .int .u64 x4.toNat] 54) = w0 := ⟨_, rfl⟩
  have X1a : (convert 33 9 (.slice (some ⟨w0.heap.size, 0, none⟩) z z)).run Tryd.prog ((w0.alloc (.cells M 5)).drew) = .ok (.string (bs (List.replicate z 0))) ((w0.alloc (.cells M 5)).drew) := X1 w0.drew
  have X2a : (convert 33 9 (.slice (some ⟨w0.heap.size, 0, none⟩) z z)).run Tryd.prog (((w0.alloc (.cells M 5)).alloc (.cells #[.int .u8 c.toNat] 5)).drew) = .ok (.string (bs (List.replicate z 0))) (((w0.alloc (.cells M 5)).alloc (.cells #[.int .u8 c.toNat] 5)).drew) := X2 w0.drew _
  have X3a : (convert 33 9 (.slice (some ⟨w0.heap.size + 1, 0, none⟩) z z)).run Tryd.prog (((w0.alloc (.cells #[.int .u8 c.toNat] 5)).alloc (.cells M 5)).drew) = .ok (.string (bs (List.replicate z 0))) (((w0.alloc (.cells #[.int .u8 c.toNat] 5)).alloc (.cells M 5)).drew) := by have h := X1 (w0.alloc (.cells #[.int .u8 c.toNat] 5)).drew; rwa [show (w0.alloc (.cells #[.int .u8 c.toNat] 5)).drew.heap.size = w0.heap.size + 1 by exact Array.size_push _] at h
  have Y1a : (convert 33 9 (.slice (some ⟨w0.heap.size, 0, none⟩) 1 1)).run Tryd.prog ((w0.alloc (.cells #[.int .u8 c.toNat] 5)).drew) = .ok (.string (bs [c])) ((w0.alloc (.cells #[.int .u8 c.toNat] 5)).drew) := Y1 w0.drew
  have Y2a : (convert 33 9 (.slice (some ⟨w0.heap.size, 0, none⟩) 1 1)).run Tryd.prog (((w0.alloc (.cells #[.int .u8 c.toNat] 5)).alloc (.cells M 5)).drew) = .ok (.string (bs [c])) (((w0.alloc (.cells #[.int .u8 c.toNat] 5)).alloc (.cells M 5)).drew) := Y2 w0.drew _
  have Y3a : (convert 33 9 (.slice (some ⟨w0.heap.size + 1, 0, none⟩) 1 1)).run Tryd.prog (((w0.alloc (.cells M 5)).alloc (.cells #[.int .u8 c.toNat] 5)).drew) = .ok (.string (bs [c])) (((w0.alloc (.cells M 5)).alloc (.cells #[.int .u8 c.toNat] 5)).drew) := by have h := Y1 (w0.alloc (.cells M 5)).drew; rwa [show (w0.alloc (.cells M 5)).drew.heap.size = w0.heap.size + 1 by exact Array.size_push _] at h
  clear X1 X2 Y1 Y2
  have q1 : (bs (List.replicate z 0)).size = z := by rw [bs_size]; simp
  have q2 : (bs [c]).size = 1 := rfl
  have q3 : (s ++ (bs (List.replicate z 0) ++ bs [c])).data.toList = s.data.toList ++ List.replicate z 0 ++ [c] := by
    simp [bs]
  have q5 : (bs (List.replicate z 0) ++ bs [c]).size = z + 1 := by rw [ByteArray.size_append]; omega
  have q4 : (s ++ (bs (List.replicate z 0) ++ bs [c])).size = s.size + z + 1 := by rw [ByteArray.size_append, q5]; omega
  have n1 : ¬ 9223372036854775807 < (bs (List.replicate z 0)).size + (bs [c]).size := by omega
  have n2 : ¬ 9223372036854775807 < s.size + (bs (List.replicate z 0) ++ bs [c]).size := by omega
  generalize bs (List.replicate z 0) = Z0 at *
  generalize bs [c] = CB at *
  obtain ⟨T1, t1⟩ : ∃ T1, Z0 ++ CB = T1 := ⟨_, rfl⟩
  rw [t1] at q3 q4 n2 q5
  obtain ⟨P, t2⟩ : ∃ P, s ++ T1 = P := ⟨_, rfl⟩
  rw [t2] at q3 q4
  have HP := Lib.hid q3
  have HZ := Lib.hid q4
  clear q1 q2 q3 q4 q5
  go_wp2_with fail
  go_cut [1] from 35 to 47 (fun s1 wx => s1 = .string P ∧ wx.heap[wq.heap.size]? = some (W4 ⟨x1, x2, x3, x4⟩ [] 54) ∧ Below w.heap.size w wx)
  case first =>
    have B0 : Below w.heap.size w w0 := by rw [← e0]; exact BQ.alloc BQ.size _
    have G0 : w0.heap[wq.heap.size]? = some (W4 ⟨x1, x2, x3, x4⟩ [] 54) := by rw [← e0]; exact heap_alloc_new _ _
    have HB := Lib.hid B0
    have HG := Lib.hid G0
    clear B0 G0 BQ
    have lt0 := Lib.hid (W4.lt HG.out)
    go_region
    all_goals (
      go_wp2_with fail
      go_meet
      refine ⟨rfl, ?_, ((HB.out.alloc HB.out.size _).alloc (Nat.le_trans HB.out.size (by simp)) _).drew⟩
      show ((w0.alloc _).alloc _).heap[wq.heap.size]? = _
      rw [Below.heap_alloc _ _ _ (by have := lt0.out; simp; omega), Below.heap_alloc _ _ _ lt0.out, HG.out])
  case rest =>
  obtain ⟨rfl, G, B⟩ := hcut
  have hq0 := BQ.size
  clear X1a X2a X3a Y1a Y2a Y3a e0 hmk hml hr hr2 hc hc2 n1 n2 t1 t2 f1 f2 f3 f4 C12 hp hq BQ hi hn16
  obtain ⟨D, hD⟩ : ∃ D, wq.heap.size = D := ⟨_, rfl⟩
  rw [hD] at G hq0 ⊢
  have hN : P.size = 8 * (s.size / 8 + 1) := by have := HZ.out; omega
  obtain ⟨N, hNN⟩ : ∃ N, s.size / 8 + 1 = N := ⟨_, rfl⟩
  rw [hNN] at hN
  have HNN := Lib.hid hNN
  have HN := Lib.hid hN
  clear hNN hN
  have hP : P.size ≤ 140737488351240 := by have := HZ.out; omega
  generalize (⟨x1, x2, x3, x4⟩ : St) = s0 at G HST
  clear hD
  go_wp2_with fail
  go_loopw [10] (fun i wr => ∃ k j : Nat, k ≤ N ∧ j = 8 * k ∧ i = .int .i64 j ∧ wr.heap[D]? = some (W4 (eat s0 P.data.toList k) [] 54) ∧ Below w.heap.size w wr) (fun i _ => P.size - (intOf i).toNat)
  case atStart => exact ⟨0, 0, Nat.zero_le _, rfl, rfl, G, B⟩
  case round =>
    obtain ⟨k, j, hk, hj, rfl, G2, B2⟩ := hrel
    have hN := HN.out
    by_cases hlt : k < N
    · have hj8 : (j : Int) + 8 ≤ (P.size : Int) := by omega
      have hj0 : (j : Int) ≤ (j : Int) + 8 := by omega
      have hj1 : (0 : Int) ≤ (j : Int) + 8 := by omega
      have hj2 : ((j : Int) + 8).toNat = j + 8 := by omega
      have hjl : (j : Int) < (P.size : Int) := by omega
      have hes : (P.extract j (j + 8)).size = 8 := by simp; omega
      have hel : (P.extract j (j + 8)).data.toList = (P.data.toList.drop (8 * k)).take 8 := by
        rw [Lib.extract_data, hj, show 8 * k + 8 - 8 * k = 8 by omega]
      have HW := Lib.hid (rword_any (P.extract j (j + 8)) hes)
      rw [hel] at HW
      have HE := Lib.hid (show eat s0 P.data.toList (k + 1) = take (eat s0 P.data.toList k) (word ((P.data.toList.drop (8 * k)).take 8)) from rfl)
      generalize eat s0 P.data.toList k = v at G2 HE
      generalize word ((P.data.toList.drop (8 * k)).take 8) = m at HW HE
      have HJ := Lib.hid hj
      clear hes hel hj hN
      obtain ⟨x, hx⟩ : ∃ x, v.d ^^^ m = x := ⟨_, rfl⟩
      have f1 := xor_spell v.d m
      rw [hx] at f1
      obtain ⟨t, ht⟩ : ∃ t, rnd (rnd ⟨v.a, v.b, v.c, x⟩) = t := ⟨_, rfl⟩
      have HT := Lib.hid (take_is v m x hx t ht)
      obtain ⟨t0, ht0⟩ : ∃ t0, rnd ⟨v.a, v.b, v.c, x⟩ = t0 := ⟨_, rfl⟩
      rw [ht0] at ht
      have R1 := Lib.hid (rround_raw ⟨v.a, v.b, v.c, x⟩)
      have R2 := Lib.hid (rround_raw t0)
      rw [ht0] at R1
      rw [ht] at R2
      have hx' := Lib.hid hx
      clear hx ht0 ht
      have f2 := xor_spell t.a m
      obtain ⟨y, hy⟩ : ∃ y, t.a ^^^ m = y := ⟨_, rfl⟩
      rw [hy] at f2
      rw [hy] at HT
      clear hy
      have c0 := W4.c0 G2
      have c1 := W4.c1 G2
      have c2 := W4.c2 G2
      have c3 := W4.c3 G2
      have fr := W4.fr G2
      have T1 := Lib.hid ((Turned.refl G2).set3 x)
      go_wp2_with fail
      refine (HW.out _).mono ?_
      rintro e w' ⟨rfl, rfl⟩
      go_wp2_with fail
      refine (R1.out _).mono ?_
      rintro e wa ⟨rfl, Ba⟩
      go_wp2_with fail
      refine (R2.out _).mono ?_
      rintro e wb ⟨rfl, Bb⟩
      have G3 : wb.heap[D]? = _ := (Bb.block D (Nat.lt_of_lt_of_le (W4.lt T1.out.here) Ba.size)).trans ((Ba.block D (W4.lt T1.out.here)).trans T1.out.here)
      have B3 : Below w.heap.size w wb := ((B2.trans (T1.out.below hq0)).trans (Ba.mono (B2.trans (T1.out.below hq0)).size)).trans (Bb.mono ((B2.trans (T1.out.below hq0)).trans (Ba.mono (B2.trans (T1.out.below hq0)).size)).size)
      clear c0 c1 c2 c3 fr T1 Ba Bb G2 B2
      have c0 := W4.c0 G3
      have c1 := W4.c1 G3
      have c2 := W4.c2 G3
      have c3 := W4.c3 G3
      have fr := W4.fr G3
      have T3 := (((((Turned.refl G3).set0 t.a).set1 t.b).set2 t.c).set3 t.d).set0 y
      go_wp2_with fail
      go_roundw
      case rel => exact ⟨k + 1, j + 8, by omega, by have := HJ.out; omega, by go_num, by rw [HE.out, HT.out]; exact T3.here, B3.trans (T3.below hq0)⟩
      case measure => have := HN.out; have := HJ.out; simp [intOf]; omega
    · obtain rfl : k = N := by omega
      have hje : j = P.size := by omega
      subst hje
      clear hj hN
      have HCL := Lib.hid (show ∀ u, rnds 4 ⟨(eat s0 P.data.toList k).a, (eat s0 P.data.toList k).b, (eat s0 P.data.toList k).c ^^^ 255, (eat s0 P.data.toList k).d⟩ = u → close (eat s0 P.data.toList k) = text (u.a ^^^ u.b ^^^ u.c ^^^ u.d) from fun u hu => close_eq _ u hu)
      obtain ⟨v, hv⟩ : ∃ v, eat s0 P.data.toList k = v := ⟨_, rfl⟩
      rw [hv] at G2 HCL
      have HV := Lib.hid hv
      clear hv
      have c0 := W4.c0 G2
      have c1 := W4.c1 G2
      have c2 := W4.c2 G2
      have c3 := W4.c3 G2
      have fr := W4.fr G2
      have f1 := xor255 v.c
      obtain ⟨x, hx⟩ : ∃ x, v.c ^^^ 255 = x := ⟨_, rfl⟩
      rw [hx] at f1 HCL
      clear hx
      have T1 := Lib.hid ((Turned.refl G2).set2 x)
      obtain ⟨t1, h1⟩ : ∃ t, rnd ⟨v.a, v.b, x, v.d⟩ = t := ⟨_, rfl⟩
      obtain ⟨t2, h2⟩ : ∃ t, rnd t1 = t := ⟨_, rfl⟩
      obtain ⟨t3, h3⟩ : ∃ t, rnd t2 = t := ⟨_, rfl⟩
      obtain ⟨t4, h4⟩ : ∃ t, rnd t3 = t := ⟨_, rfl⟩
      have HX := Lib.hid (HCL.out t4 (by rw [← h4, ← h3, ← h2, ← h1]; rfl))
      have R1 := Lib.hid (rround_raw ⟨v.a, v.b, x, v.d⟩)
      have R2 := Lib.hid (rround_raw t1)
      have R3 := Lib.hid (rround_raw t2)
      have R4 := Lib.hid (rround_raw t3)
      rw [h1] at R1
      rw [h2] at R2
      rw [h3] at R3
      rw [h4] at R4
      clear h1 h2 h3 h4 HCL
      go_wp2_with fail
      refine (R1.out _).mono ?_
      rintro e wa ⟨rfl, Ba⟩
      have G3 : wa.heap[D]? = _ := (Ba.block D (W4.lt T1.out.here)).trans T1.out.here
      have B3 := (B2.trans (T1.out.below hq0)).trans (Ba.mono (B2.trans (T1.out.below hq0)).size)
      clear c0 c1 c2 c3 fr T1 Ba G2 B2 R1 f1
      go_wp2_with fail
      refine (R2.out _).mono ?_
      rintro e wb ⟨rfl, Bb⟩
      have G4 : wb.heap[D]? = _ := (Bb.block D (W4.lt G3)).trans G3
      have B4 := B3.trans (Bb.mono B3.size)
      clear Bb G3 B3 R2
      go_wp2_with fail
      refine (R3.out _).mono ?_
      rintro e wd ⟨rfl, Bd⟩
      have G5 : wd.heap[D]? = _ := (Bd.block D (W4.lt G4)).trans G4
      have B5 := B4.trans (Bd.mono B4.size)
      clear Bd G4 B4 R3
      go_wp2_with fail
      refine (R4.out _).mono ?_
      rintro e we ⟨rfl, Be⟩
      have G6 : we.heap[D]? = _ := (Be.block D (W4.lt G5)).trans G5
      have B6 := B5.trans (Be.mono B5.size)
      clear Be G5 B5 R4
      have c0 := W4.c0 G6
      have c1 := W4.c1 G6
      have c2 := W4.c2 G6
      have c3 := W4.c3 G6
      have fr := W4.fr G6
      have T7 := ((((Turned.refl G6).set0 t4.a).set1 t4.b).set2 t4.c).set3 t4.d
      have B7 := B6.trans (T7.below hq0)
      have f1 := xor_spell t4.a t4.b
      have f2 := xor_spell (t4.a ^^^ t4.b) t4.c
      have f3 := xor_spell (t4.a ^^^ t4.b ^^^ t4.c) t4.d
      generalize t4.a ^^^ t4.b ^^^ t4.c ^^^ t4.d = X at HX f3
      generalize t4.a ^^^ t4.b ^^^ t4.c = y2 at f2 f3
      generalize t4.a ^^^ t4.b = y1 at f1 f2
      obtain ⟨wf, ef⟩ : ∃ wf, (((we.setCell ⟨D, 0, none⟩ (.int .u64 t4.a.toNat)).setCell ⟨D, 1, none⟩ (.int .u64 t4.b.toNat)).setCell ⟨D, 2, none⟩ (.int .u64 t4.c.toNat)).setCell ⟨D, 3, none⟩ (.int .u64 t4.d.toNat) = wf := ⟨_, rfl⟩
      rw [ef] at T7 B7
      have d0 := W4.c0 T7.here
      have d1 := W4.c1 T7.here
      have d2 := W4.c2 T7.here
      have d3 := W4.c3 T7.here
      go_wp2_with fail
      have hrow0 : (wf.alloc (.cells #[] 5)).ownsRow wf.heap.size 5 1 (.slice (some ⟨wf.heap.size, 0, none⟩) 0 0) 0 [] := World.ownsRow_made wf #[] 0 (Nat.le_refl _) (by unfold maxLen; omega) (by simp)
      have BF := Lib.hid (B7)
      clear d0 d1 d2 d3 c0 c1 c2 c3 fr ef T7 B7 B6 G6 B G f1 f2 f3
      obtain ⟨i0, hi, hz0, hz1, hz2⟩ := info_parts info5
      go_loopw [12, 13, 14] (fun x v i wr => ∃ k : Nat, k ≤ 8 ∧ i = .int .i64 k ∧ x = .int .u64 (X.toNat / 2 ^ (8 * k) : Nat) ∧ wr.ownsRow wf.heap.size 5 1 v k (u8s ((text X).take k)) ∧ v ≠ .slice none 0 0 ∧ Below wf.heap.size wf wr) (fun _ _ i _ => 8 - (intOf i).toNat)
      case atStart => exact ⟨0, Nat.zero_le _, rfl, by simp, hrow0, by simp, (Below.refl _ wf).alloc (Nat.le_refl _) _⟩
      case round =>
        obtain ⟨k, hk, rfl, rfl, hrow, hnil, hB⟩ := hrel
        by_cases hlt : k < 8
        · obtain ⟨y, hy1, hy2, hy3⟩ := text_step X k hlt
          have HY := Lib.hid hy1
          have HZ3 := Lib.hid hy3
          clear hy3 hy1
          generalize hNX : X.toNat / 2 ^ (8 * k) = N at hy2 HZ3 ⊢
          have hx1 : (N : Int) % 256 = (y.toNat : Int) := by omega
          have hx2 : IntKind.u8.wrap (y.toNat : Int) = (y.toNat : Int) := by
            have := y.toNat_lt
            show (y.toNat : Int) % 256 = _
            omega
          have hx3 : (N : Int).tmod 256 = (y.toNat : Int) := by rw [Int.tmod_eq_emod_of_nonneg (by omega)]; exact hx1
          have hx4 : IntKind.u8.wrap (N : Int) = (y.toNat : Int) := hx1
          have hq1 : (N : Int) / 256 = ((N / 256 : Nat) : Int) := by omega
          have hq2 : (N : Int).tdiv 256 = ((N / 256 : Nat) : Int) := by rw [Int.tdiv_eq_ediv_of_nonneg (by omega)]; exact hq1
          have hN64 : N < 18446744073709551616 := by rw [← hNX]; exact Nat.lt_of_le_of_lt (Nat.div_le_self _ _) X.toNat_lt
          have hq3 : IntKind.u64.wrap ((N / 256 : Nat) : Int) = ((N / 256 : Nat) : Int) := wrap_small (by omega)
          generalize N / 256 = N2 at HZ3 hq1 hq2 hq3
          clear hy2 hNX hN64
          have hszW : wf.heap.size ≤ wr.heap.size := hB.size
          go_wp2_with (at_builtin; refine wpList_append_own _ rfl _ _ 33 rfl wf.heap.size 5 i0 (.int .u8 0) 1 1 Tryd.underlying33 hi hz0 hz1 hz2 rfl (by decide) _ _ _ rfl (hrow.alloc _) ⟨wr.heap.size, 0, none⟩ 1 1 [.int .u8 y.toNat] rfl rfl (cell_one_new _ _ _) (by simp [Value.oneCell']) (by unfold maxLen; omega) (by omega) (by simp; omega) ?_; intro v' w1 hown' hgrow hnn; have HNN := Lib.hid hnn; clear hnn)
          have hB1 : Below wf.heap.size wf w1 := (hB.alloc hszW _).grown hgrow (by simp; omega) (fun j ej => (hrow.lt j ej).1)
          have hn' : v' ≠ .slice none 0 0 := fun e => hnil (HNN.out.1 e).1
          go_roundw
          case rel => exact ⟨k + 1, by omega, by go_num, by rw [HZ3.out], by rw [HY.out]; simpa [u8s] using hown', hn', hB1⟩
          case measure => simp [intOf]; omega
        · obtain rfl : k = 8 := by omega
          rw [List.take_of_length_le (by rw [text_length]; exact Nat.le_refl _)] at hrow
          obtain ⟨g, cap, rfl, hgb, hgs, hcap1, hcap2, hcells⟩ := row_cells hrow hnil
          have hconv : (convert 33 9 (.slice (some ⟨g, 0, none⟩) (text X).length cap)).run Tryd.prog wr = .ok (.string (bs (text X))) wr :=
            run_convert_bytes_back wr 33 9 5 ⟨g, 0, none⟩ cap (text X) Tryd.underlying33 Tryd.underlying5 Tryd.underlying9 (fun j hj => by
              rw [Addr.add_lit, Nat.zero_add, hcells j (.int .u8 ((text X)[j].toNat : Nat)) (by simp [u8s, hj])])
          rw [text_length] at hconv
          clear hrow hcells
          go_wp2_with fail
          go_ret2
          refine ⟨?_, BF.out.trans (hB.mono BF.out.size)⟩
          have e := sum_words key.data.toList s.data.toList z (by simpa using hz)
          rw [HK.out, HL.out, HST.out, show s.data.toList.length = s.size by simp, HC.out, ← HP.out, HNN.out, HV.out, HX.out] at e
          rw [sumV_eq hk16, e]
          rfl

theorem rsum_wrong (key s : ByteArray) (hk16 : key.size ≠ 16) (_hm : key.size ≤ 281474976710656) (w : World) :
    Calls Tryd.prog 22 #[.string key, .string s] w fun e w' => e = .returned (sumV key.data.toList s.data.toList) ∧ Below w.heap.size w w' := by
  have hV := Lib.hid (show sumV key.data.toList s.data.toList = .tuple #[.string (bs []), .int .i64 20] by
    unfold sumV; rw [if_neg (by simpa using hk16)])
  have hn : ((key.size : Int) != 16) = true := by simp; omega
  go_enter Tryd.func22, Tryd.ntmps22
  go_wp2
  go_ret2
  exact ⟨by rw [hV.out]; rfl, Below.refl _ _⟩

theorem rsum_any (key s : ByteArray) (hk : key.size ≤ 140737488351232) (hs : s.size ≤ 140737488351232) (w : World) :
    Calls Tryd.prog 22 #[.string key, .string s] w fun e w' => e = .returned (sumV key.data.toList s.data.toList) ∧ Below w.heap.size w w' := by
  by_cases h : key.size = 16
  · exact rsum_right key s h hs w
  · exact rsum_wrong key s h (by omega) w
end Go.Proofs.YtgeggiafjojgdaaDoor.DG

