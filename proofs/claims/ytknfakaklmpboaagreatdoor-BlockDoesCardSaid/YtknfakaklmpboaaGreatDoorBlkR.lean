/-
  The reference's bytes of a block and of a root: sealed, Frame, Unframe, Root.
-/
import Derived.Test.YtknfakaklmpboaaGreatDoorBlkA
import Derived.Test.YtknfakaklmpboaaGreatDoorDigI
import Derived.Test.YtknfakaklmpboaaGreatDoorNvL
import Derived.Test.YtknfakaklmpboaaGreatDoorNvS
import Derived.Deep.RegionLaw
namespace Go.Proofs.YtknfakaklmpboaaGreatDoor
open Go.RowKit Go Go.Maps SM

theorem rdig_any (s : ByteArray) (hs : s.size ≤ 1048576) (w : World) :
    Calls Tryz.prog 121 #[.string keyB, .string s] w fun e w' => e = .returned (.tuple #[.string (ofB (DG.sum key16 s.data.toList)), .int .i64 0]) ∧ Below w.heap.size w w' := by
  have h := DG.rsum_any keyB s (by decide) (by omega) w
  rw [key_list] at h
  exact h
theorem nought_zeros (k : Nat) : nought k = zeros k := rfl
set_option maxRecDepth 100000 in
theorem rsealed_any (s : ByteArray) (n k : Nat) (hn : n = s.size + k) (hn2 : n ≤ 248) (w : World) :
    Calls Tryz.prog 93 #[.string s, .int .i64 (n : Int)] w fun e w' => e = .returned (.string (ofB (sealL s.data.toList n))) ∧ Below w.heap.size w w' := by
  obtain ⟨m1, m2⟩ := made_text w k (by omega)
  have hk2 : (n : Int) - (s.size : Int) = (k : Int) := by omega
  have HE := Lib.hid (seal_text s n k hn)
  rw [nought_zeros] at m2
  have hz : (zeros k).size = k := size_zeros k
  have hT : (s ++ zeros k).size = n := by rw [ByteArray.size_append, hz, hn]
  have C2 := fun w => rdig_any (s ++ zeros k) (by omega) w
  have hD : (ofB (DG.sum key16 (s ++ zeros k).data.toList)).size = 8 := by rw [ofB_size, DG.sum_length]
  generalize ofB (DG.sum key16 (s ++ zeros k).data.toList) = D at *
  generalize zeros k = Z at *
  have nsum : ¬ 9223372036854775807 < s.size + Z.size := by omega
  have nsum2 : ¬ 9223372036854775807 < (s ++ Z).size + D.size := by omega
  generalize ofB (sealL s.data.toList n) = R at *
  have hn8 : (n : Int) ≤ 248 := by omega
  have hs8 : (s.size : Int) ≤ 248 := by omega
  obtain ⟨w1, hw1⟩ : ∃ w1, w.alloc (.cells (madeCells #[.int .u8 0] k) 5) = w1 := ⟨_, rfl⟩
  have HB1 := Lib.hid (show Below w.heap.size w w1 by rw [← hw1]; exact (Below.refl _ w).alloc (Nat.le_refl _) _)
  rw [hw1] at m1 m2
  clear hT hD hz hn hn2 hw1
  unfold keyB at C2
  go_enter Tryz.func93, Tryz.ntmps93
  go_wp2_with fail
  refine (C2 _).mono ?_
  rintro e w2 ⟨rfl, hB2⟩
  have HB2 := Lib.hid (HB1.out.trans (hB2.mono HB1.out.size))
  clear hB2 C2 m1 m2
  go_wp2
  go_ret
  exact ⟨by rw [← HE.out]; rfl, HB2.out⟩
set_option maxRecDepth 100000 in
theorem rframe_any (p : ByteArray) (hp : p.size ≤ 140737488355328) (w : World) :
    Calls Tryz.prog 49 #[.string p] w fun e w' => e = .returned (frameV p) ∧ Below w.heap.size w w' := by
  unfold frameV
  by_cases h : 240 < p.size
  · rw [if_pos h]
    have hi : (240 : Int) < (p.size : Int) := by omega
    clear h
    go_enter Tryz.func49, Tryz.ntmps49
    go_wp2
    go_ret2
    exact ⟨rfl, Below.refl _ _⟩
  · rw [if_neg h]
    have hi : ¬ (240 : Int) < (p.size : Int) := by omega
    have CN := fun w => rnum_any p.size 2 (by omega) (by omega) w
    have hX : (bsL (leN p.size 2)).size = 2 := by rw [size_bsL, length_leN]
    have hT : (bsL (leN p.size 2) ++ p).size = 2 + p.size := by rw [ByteArray.size_append, hX]
    have CS := fun w => rsealed_any (bsL (leN p.size 2) ++ p) 248 (246 - p.size) (by omega) (by omega) w
    have HE := Lib.hid (show ofB (sealL (bsL (leN p.size 2) ++ p).data.toList 248) = frameB p by rw [frame_text, ofB_list]; rfl)
    have CS' : ∀ w, Calls Tryz.prog 93 #[.string (bsL (leN p.size 2) ++ p), .int .i64 248] w _ := CS
    generalize bsL (leN p.size 2) = X at *
    generalize ofB (sealL (X ++ p).data.toList 248) = R at *
    have nsum : ¬ 9223372036854775807 < X.size + p.size := by omega
    clear hX hT CS h
    go_enter Tryz.func49, Tryz.ntmps49
    go_wp2_with fail
    refine (CN _).mono ?_
    rintro e w1 ⟨rfl, hB1⟩
    have HB1 := Lib.hid hB1
    clear hB1 CN
    go_wp2_with fail
    refine (CS' _).mono ?_
    rintro e w2 ⟨rfl, hB2⟩
    have HB2 := Lib.hid (HB1.out.trans (hB2.mono HB1.out.size))
    clear hB2 CS'
    go_wp2
    go_ret2
    exact ⟨by rw [HE.out]; rfl, HB2.out⟩
set_option maxRecDepth 100000 in
set_option maxHeartbeats 1000000 in
theorem runframe_any (s : ByteArray) (hs : s.size ≤ 140737488355328) (w : World) :
    Calls Tryz.prog 43 #[.string s] w fun e w' => e = .returned (unframeV s) ∧ Below w.heap.size w w' := by
  obtain ⟨V, hV⟩ : ∃ V, unframeV s = V := ⟨_, rfl⟩
  rw [hV]
  by_cases h1 : s.size = 256
  · have C1 := fun w => rval_any (s.extract 0 2) (by rw [ByteArray.size_extract]; omega) w
    rw [cut_two] at C1
    have hb : ((s.size : Int) != 256) = false := by rw [h1]; rfl
    have hsl2 : ∀ W, (Instr.slice 9 (.string s) none (some (.int .i64 2)) none).run Tryz.prog W = .ok (.string (s.extract 0 2)) W := fun W => by
      have := run_slice_string_h (P := Tryz.prog) (w := W) 9 s Tryz.underlying9 .i64 2 (by omega) (by omega)
      exact this
    by_cases h2 : cutN s ≤ 240
    · have hsl : ∀ W, _ := slice_cut s (cutN s) (by omega)
      have hcs : (cutB s).size ≤ 240 := by rw [cutB, ByteArray.size_extract]; omega
      have HV := Lib.hid (show V = if frameB (cutB s) = s then .tuple #[.string (cutB s), .int .i64 0] else .tuple #[.string ⟨#[]⟩, .int .i64 82] by
        rw [← hV, unframeV, unframe]
        by_cases h3 : frameB (cutB s) = s
        · rw [if_pos ⟨h1, h2, h3⟩, if_pos h3]
        · rw [if_neg (fun h => h3 h.2.2), if_neg h3])
      have C3 := fun w => rframe_any (cutB s) (by omega) w
      simp only [frameV, if_neg (show ¬ 240 < (cutB s).size by omega)] at C3
      rw [show s.extract 2 (2 + cutN s) = cutB s from rfl] at hsl
      generalize s.extract 0 2 = S2 at *
      generalize frameB (cutB s) = F at *
      generalize cutB s = C at *
      generalize cutN s = n at *
      have hni : ¬ (240 : Int) < (n : Int) := by omega
      clear h1 h2 hcs hV
      by_cases h3 : F = s
      · have HV2 := Lib.hid (show V = .tuple #[.string C, .int .i64 0] by rw [HV.out, if_pos h3])
        subst h3
        have hE : (F.toList == F.toList) = true := by simp
        have hE2 : (F.toList != F.toList) = false := by simp
        clear HV
        go_enter Tryz.func43, Tryz.ntmps43
        go_wp2_with fail
        refine (C1 _).mono ?_
        rintro e w1 ⟨rfl, rfl⟩
        go_wp2_with fail
        refine (C1 _).mono ?_
        rintro e w1 ⟨rfl, rfl⟩
        clear C1 hsl2
        go_wp2_with fail
        refine (C3 _).mono ?_
        rintro e w3 ⟨rfl, hB3⟩
        have HB3 := Lib.hid hB3
        clear hB3 C3
        go_wp2
        go_ret2
        exact ⟨by rw [HV2.out]; rfl, HB3.out⟩
      · have HV2 := Lib.hid (show V = .tuple #[.string ⟨#[]⟩, .int .i64 82] by rw [HV.out, if_neg h3])
        obtain ⟨hE, hE2⟩ := texts_ne h3
        clear HV h3
        go_enter Tryz.func43, Tryz.ntmps43
        go_wp2_with fail
        refine (C1 _).mono ?_
        rintro e w1 ⟨rfl, rfl⟩
        go_wp2_with fail
        refine (C1 _).mono ?_
        rintro e w1 ⟨rfl, rfl⟩
        clear C1 hsl2
        go_wp2_with fail
        refine (C3 _).mono ?_
        rintro e w3 ⟨rfl, hB3⟩
        have HB3 := Lib.hid hB3
        clear hB3 C3
        go_wp2
        go_ret2
        exact ⟨by rw [HV2.out]; rfl, HB3.out⟩
    · have HV := Lib.hid (show V = .tuple #[.string ⟨#[]⟩, .int .i64 82] by rw [← hV, unframeV, unframe, if_neg (fun h => h2 h.2.1)])
      generalize s.extract 0 2 = S2 at *
      generalize cutN s = n at *
      have hni : (240 : Int) < (n : Int) := by omega
      clear h1 h2 hV
      go_enter Tryz.func43, Tryz.ntmps43
      go_wp2_with fail
      refine (C1 _).mono ?_
      rintro e w1 ⟨rfl, rfl⟩
      clear C1 hsl2
      go_wp2
      go_ret2
      exact ⟨by rw [HV.out]; rfl, Below.refl _ _⟩
  · have HV := Lib.hid (show V = .tuple #[.string ⟨#[]⟩, .int .i64 82] by rw [← hV, unframeV, unframe, if_neg (fun h => h1 h.1)])
    have hb : ((s.size : Int) != 256) = true := by rw [bne_iff_ne]; omega
    clear h1 hV
    go_enter Tryz.func43, Tryz.ntmps43
    go_wp2
    go_ret2
    exact ⟨by rw [HV.out]; rfl, Below.refl _ _⟩

/-! ### a root -/
set_option maxRecDepth 100000 in
set_option maxHeartbeats 2000000 in
theorem rroot_any (n : Nat) (t : ByteArray) (hn : n ≤ 281474976710655) (ht : t.size ≤ 40) (w : World) :
    Calls Tryz.prog 70 #[.string t, .int .i64 n] w fun e w' => e = .returned (.string (rootB t n)) ∧ Below w.heap.size w w' := by
  have C1 := fun w => rnum_any n 6 (by omega) (by omega) w
  have h1 : (bsL (leN n 6)).size = 6 := by rw [size_bsL, length_leN]
  have h2 : (bsL (leN t.size 1)).size = 1 := by rw [size_bsL, length_leN]
  have h3 : ((⟨#[82, 84]⟩ : ByteArray) ++ bsL (leN n 6) ++ bsL (leN t.size 1) ++ t).size = 9 + t.size := by
    rw [ByteArray.size_append, ByteArray.size_append, ByteArray.size_append, h1, h2]; rfl
  have CS := fun w => rsealed_any ((⟨#[82, 84]⟩ : ByteArray) ++ bsL (leN n 6) ++ bsL (leN t.size 1) ++ t) 56 (47 - t.size) (by omega) (by omega) w
  have CS' : ∀ w, Calls Tryz.prog 93 #[.string ((⟨#[82, 84]⟩ : ByteArray) ++ bsL (leN n 6) ++ bsL (leN t.size 1) ++ t), .int .i64 56] w _ := CS
  have HE := Lib.hid (show ofB (sealL ((⟨#[82, 84]⟩ : ByteArray) ++ bsL (leN n 6) ++ bsL (leN t.size 1) ++ t).data.toList 56) = rootB t n by rw [root_text, ofB_list]; rfl)
  generalize ofB (sealL ((⟨#[82, 84]⟩ : ByteArray) ++ bsL (leN n 6) ++ bsL (leN t.size 1) ++ t).data.toList 56) = R at *
  have hwr : IntKind.u8.wrap (t.size : Int) = (t.size : Int) := by show (t.size : Int) % 256 = _; omega
  have hone : bsL (leN t.size 1) = ⟨#[UInt8.ofNat t.size]⟩ := by
    unfold bsL
    rw [leN, leN, show t.size % 256 = t.size by omega]
  have hu8 : ((UInt8.ofNat t.size).toNat : Int) = (t.size : Int) := by
    have : (UInt8.ofNat t.size).toNat = t.size := (by rw [UInt8.toNat_ofNat']; omega)
    rw [this]
  have HCV := Lib.hid (fun (W : World) (q : Nat) (h : W.cell? ⟨q, 0, none⟩ = some (.int .u8 (t.size : Int))) =>
    show (convert 79 9 (.slice (some ⟨q, 0, none⟩) 1 1)).run Tryz.prog W = .ok (.string (bsL (leN t.size 1))) W by
      rw [hone]
      exact run_convert_bytes_back W 79 9 5 ⟨q, 0, none⟩ 1 [UInt8.ofNat t.size] Tryz.underlying79 Tryz.underlying5 Tryz.underlying9 (fun j hj => by
        obtain rfl : j = 0 := by simpa using hj
        rw [Addr.add_lit, Nat.zero_add, h]
        show some (Value.int .u8 (t.size : Int)) = some (.int .u8 ((UInt8.ofNat t.size).toNat : Int))
        rw [hu8]))
  generalize bsL (leN n 6) = X at *
  generalize bsL (leN t.size 1) = Y at *
  have s1 : ((⟨#[82, 84]⟩ : ByteArray) ++ X).size = 8 := by rw [ByteArray.size_append, h1]; rfl
  have s2 : ((⟨#[82, 84]⟩ : ByteArray) ++ X ++ Y).size = 9 := by rw [ByteArray.size_append, s1, h2]
  have n1 : ¬ 9223372036854775807 < ((⟨#[82, 84]⟩ : ByteArray)).size + X.size := by rw [h1]; decide
  have n2 : ¬ 9223372036854775807 < ((⟨#[82, 84]⟩ : ByteArray) ++ X).size + Y.size := by rw [s1, h2]; decide
  have n3 : ¬ 9223372036854775807 < ((⟨#[82, 84]⟩ : ByteArray) ++ X ++ Y).size + t.size := by rw [s2]; omega
  have n4 : ¬ 9223372036854775807 < 9 + t.size := by omega
  clear h3 s1 s2 CS hone hu8
  have HB0 := Lib.hid (show Below w.heap.size w w.drew from (Below.refl _ w).drew)
  obtain ⟨wA, hwA⟩ : ∃ wA, (w.alloc (.cells #[.int .u8 (t.size : Int)] 5)).drew = wA := ⟨_, rfl⟩
  have HBA := Lib.hid (show Below w.heap.size w wA by rw [← hwA]; exact ((Below.refl _ w).alloc (Nat.le_refl _) _).drew)
  have HOA := Lib.hid (show wA.heap[w.heap.size]? = some (.cells #[.int .u8 (t.size : Int)] 5 (0, 0)) by rw [← hwA]; exact heap_alloc_new _ _)
  have hcvA := HCV.out wA w.heap.size (by have := HOA.out; simp [World.cell?, this])
  go_enter Tryz.func70, Tryz.ntmps70
  go_wp2
  go_region_law (first
      | (go_simp; go_at_call 94; refine (C1 _).mono ?_; rintro e w3 ⟨rfl, hB⟩
         first
         | (have HB3 := Lib.hid (HB0.out.trans (hB.mono HB0.out.size)); have hcv := HCV.out (w3.alloc (.cells #[.int .u8 (t.size : Int)] 5)) w3.heap.size (by simp); have HB4 := Lib.hid (HB3.out.alloc HB3.out.size (.cells #[.int .u8 (t.size : Int)] 5)); clear hB)
         | (have HB4 := Lib.hid (HBA.out.trans (hB.mono HBA.out.size)); have hcv := HCV.out w3 w.heap.size (by have := keeps_of hB HOA.out; simp [World.cell?, this]); clear hB))
      | (go_simp; go_at_call 93; refine (CS' _).mono ?_; rintro e w4 ⟨rfl, hB⟩; have HB5 := Lib.hid (HB4.out.trans (hB.mono HB4.out.size)); clear hB))
  all_goals (
    go_wp2
    go_ret
    exact ⟨by rw [HE.out]; rfl, HB5.out⟩)
end Go.Proofs.YtknfakaklmpboaaGreatDoor

