/-
  A block's bytes, and a root's: the program's seal, Frame, Unframe, sector, place.
-/
import Derived.Test.YtknfakaklmpboaaGreatDoorBlkMath
import Derived.Test.YtknfakaklmpboaaGreatDoorNB
import Derived.Test.YtknfakaklmpboaaGreatDoorMB
namespace Go.Proofs.YtknfakaklmpboaaGreatDoor
open Go.RowKit Go Go.Maps SM

def keyB : ByteArray := ⟨#[115, 116, 105, 108, 108, 97, 103, 101, 32, 118, 111, 108, 117, 109, 101, 33]⟩
theorem key_list : keyB.data.toList = key16 := rfl
theorem dig_any (s : ByteArray) (hs : s.size ≤ 1048576) (w : World) :
    Calls Tryz.prog 120 #[.string keyB, .string s] w fun e w' => e = .returned (.tuple #[.string (ofB (DG.sum key16 s.data.toList)), .int .i64 0]) ∧ Below w.heap.size w w' := by
  have h := DG.dsum_any keyB s (by decide) (by omega) w
  rw [key_list] at h
  exact h
theorem pad_text (s : ByteArray) (n k : Nat) (h : n = s.size + k) : s ++ zeros k = ofB (padL s.data.toList n) := by
  apply b_ext
  rw [ofB_list, padL, ByteArray.data_append, Array.toList_append, len_of, show n - s.size = k by omega]
  simp [zeros]
theorem seal_text (s : ByteArray) (n k : Nat) (h : n = s.size + k) : s ++ zeros k ++ ofB (DG.sum key16 (s ++ zeros k).data.toList) = ofB (sealL s.data.toList n) := by
  rw [pad_text s n k h, ofB_list]
  apply b_ext
  rw [ByteArray.data_append, Array.toList_append, ofB_list, ofB_list, ofB_list, sealL]
set_option maxRecDepth 100000 in
theorem seal_any (s : ByteArray) (n k : Nat) (hn : n = s.size + k) (hn2 : n ≤ 248) (w : World) :
    Calls Tryz.prog 90 #[.string s, .int .i64 ((n : Int) + 8)] w fun e w' => e = .returned (.string (ofB (sealL s.data.toList n))) ∧ Below w.heap.size w w' := by
  have C1 := fun w => repeat_any k (by omega) w
  have hk : (n : Int) + 8 - 8 - (s.size : Int) = (k : Int) := by omega
  have hk2 : (n : Int) - (s.size : Int) = (k : Int) := by omega
  have HE := Lib.hid (seal_text s n k hn)
  have hz : (zeros k).size = k := size_zeros k
  have hT : (s ++ zeros k).size = n := by rw [ByteArray.size_append, hz, hn]
  have C2 := fun w => dig_any (s ++ zeros k) (by omega) w
  have hD : (ofB (DG.sum key16 (s ++ zeros k).data.toList)).size = 8 := by rw [ofB_size, DG.sum_length]
  generalize ofB (DG.sum key16 (s ++ zeros k).data.toList) = D at *
  generalize zeros k = Z at *
  have nsum : ¬ 9223372036854775807 < s.size + Z.size := by omega
  have nsum2 : ¬ 9223372036854775807 < (s ++ Z).size + D.size := by omega
  generalize ofB (sealL s.data.toList n) = R at *
  have hn8 : (n : Int) ≤ 248 := by omega
  have hs8 : (s.size : Int) ≤ 248 := by omega
  clear hT hD hz hn hn2
  unfold keyB at C2
  go_enter Tryz.func90, Tryz.ntmps90
  go_wp2_with fail
  refine (C1 _).mono ?_
  rintro e w1 ⟨rfl, hB1⟩
  have HB1 := Lib.hid hB1
  clear hB1 C1
  go_wp2_with fail
  refine (C2 _).mono ?_
  rintro e w2 ⟨rfl, hB2⟩
  have HB2 := Lib.hid (HB1.out.trans (hB2.mono HB1.out.size))
  clear hB2 C2
  go_wp2
  go_ret
  exact ⟨by rw [← HE.out]; rfl, HB2.out⟩

/-! ### a block -/
theorem frame_text (p : ByteArray) : bsL (leN p.size 2) ++ p = ofB (leN p.data.toList.length 2 ++ p.data.toList) := by
  apply b_ext
  rw [ByteArray.data_append, Array.toList_append, ofB_list, data_bsL, len_of]
def frameV (p : ByteArray) : Value := if 240 < p.size then .tuple #[.string ⟨#[]⟩, .int .i64 83] else .tuple #[.string (frameB p), .int .i64 0]
set_option maxRecDepth 100000 in
theorem frame_any (p : ByteArray) (hp : p.size ≤ 140737488355328) (w : World) :
    Calls Tryz.prog 45 #[.string p] w fun e w' => e = .returned (frameV p) ∧ Below w.heap.size w w' := by
  unfold frameV
  by_cases h : 240 < p.size
  · rw [if_pos h]
    have hi : (240 : Int) < (p.size : Int) := by omega
    clear h
    go_enter Tryz.func45, Tryz.ntmps45
    go_wp2
    go_ret2
    exact ⟨rfl, Below.refl _ _⟩
  · rw [if_neg h]
    have hi : ¬ (240 : Int) < (p.size : Int) := by omega
    have CN := fun w => number_any p.size 2 (by omega) (by omega) w
    have hX : (bsL (leN p.size 2)).size = 2 := by rw [size_bsL, length_leN]
    have hT : (bsL (leN p.size 2) ++ p).size = 2 + p.size := by rw [ByteArray.size_append, hX]
    have CS := fun w => seal_any (bsL (leN p.size 2) ++ p) 248 (246 - p.size) (by omega) (by omega) w
    have HE := Lib.hid (show ofB (sealL (bsL (leN p.size 2) ++ p).data.toList 248) = frameB p by rw [frame_text, ofB_list]; rfl)
    have CS' : ∀ w, Calls Tryz.prog 90 #[.string (bsL (leN p.size 2) ++ p), .int .i64 256] w _ := CS
    generalize bsL (leN p.size 2) = X at *
    generalize ofB (sealL (X ++ p).data.toList 248) = R at *
    have nsum : ¬ 9223372036854775807 < X.size + p.size := by omega
    clear hX hT CS h
    go_enter Tryz.func45, Tryz.ntmps45
    go_wp2_with fail
    refine (CN _).mono ?_
    rintro e w1 ⟨rfl, hB1⟩
    have HB1 := Lib.hid hB1
    clear hB1 CN
    go_wp2_with fail
    refine (CS' _).mono ?_
    rintro e w2 ⟨rfl, hB2⟩
    have HB2 := Lib.hid (HB1.out.trans (hB2.mono HB1.out.size))
    clear hB2 CS'
    go_wp2
    go_ret2
    exact ⟨by rw [HE.out]; rfl, HB2.out⟩
def unframeV (s : ByteArray) : Value := match unframe s with | some p => .tuple #[.string p, .int .i64 0] | none => .tuple #[.string ⟨#[]⟩, .int .i64 82]
theorem cut_two (s : ByteArray) : valN (s.extract 0 2).data.toList = cutN s := by rw [Lib.extract_data]; rfl
theorem slice_cut (s : ByteArray) (k : Nat) (h : k + 2 ≤ s.size) (W : World) :
    (Instr.slice 9 (.string s) (some (.int .i64 2)) (some (.int .i64 (2 + (k : Int)))) none).run Tryz.prog W = .ok (.string (s.extract 2 (2 + k))) W := by
  have := run_slice_string W 9 s .i64 .i64 2 (2 + (k : Int)) Tryz.underlying9 (by omega) (by omega) (by omega)
  rw [show (2 + (k : Int)).toNat = 2 + k by omega, show (2 : Int).toNat = 2 by rfl] at this
  exact this
set_option maxRecDepth 100000 in
set_option maxHeartbeats 1000000 in
theorem unframe_any (s : ByteArray) (hs : s.size ≤ 140737488355328) (w : World) :
    Calls Tryz.prog 37 #[.string s] w fun e w' => e = .returned (unframeV s) ∧ Below w.heap.size w w' := by
  obtain ⟨V, hV⟩ : ∃ V, unframeV s = V := ⟨_, rfl⟩
  rw [hV]
  by_cases h1 : s.size = 256
  · have C1 := fun w => number_of (s.extract 0 2) (by rw [ByteArray.size_extract]; omega) w
    rw [cut_two] at C1
    have hb : ((s.size : Int) != 256) = false := by rw [h1]; rfl
    have hi : (2 : Int) ≤ (s.size : Int) := by omega
    have hsl2 : ∀ W, (Instr.slice 9 (.string s) none (some (.int .i64 2)) none).run Tryz.prog W = .ok (.string (s.extract 0 2)) W := fun W => by
      have := run_slice_string_h (P := Tryz.prog) (w := W) 9 s Tryz.underlying9 .i64 2 (by omega) (by omega)
      exact this
    by_cases h2 : cutN s ≤ 240
    · have hsl : ∀ W, _ := slice_cut s (cutN s) (by omega)
      have hcs : (cutB s).size ≤ 240 := by rw [cutB, ByteArray.size_extract]; omega
      have HV := Lib.hid (show V = if frameB (cutB s) = s then .tuple #[.string (cutB s), .int .i64 0] else .tuple #[.string ⟨#[]⟩, .int .i64 82] by
        rw [← hV, unframeV, unframe]
        by_cases h3 : frameB (cutB s) = s
        · rw [if_pos ⟨h1, h2, h3⟩, if_pos h3]
        · rw [if_neg (fun h => h3 h.2.2), if_neg h3])
      have C2 := fun w => clone_any (cutB s) (by omega) w
      have C3 := fun w => frame_any (cutB s) (by omega) w
      simp only [frameV, if_neg (show ¬ 240 < (cutB s).size by omega)] at C3
      rw [show s.extract 2 (2 + cutN s) = cutB s from rfl] at hsl
      generalize s.extract 0 2 = S2 at *
      generalize frameB (cutB s) = F at *
      generalize cutB s = C at *
      generalize cutN s = n at *
      have hni : ¬ (240 : Int) < (n : Int) := by omega
      clear h1 h2 hcs hV
      by_cases h3 : F = s
      · have HV2 := Lib.hid (show V = .tuple #[.string C, .int .i64 0] by rw [HV.out, if_pos h3])
        subst h3
        have hE : (F.toList == F.toList) = true := by simp
        have hE2 : (F.toList != F.toList) = false := by simp
        clear HV
        go_enter Tryz.func37, Tryz.ntmps37
        go_wp2_with fail
        refine (C1 _).mono ?_
        rintro e w1 ⟨rfl, rfl⟩
        clear C1 hsl2
        go_wp2_with fail
        refine (C2 _).mono ?_
        rintro e w2 ⟨rfl, hB2⟩
        have HB2 := Lib.hid hB2
        clear hB2 C2 hsl
        go_wp2_with fail
        refine (C3 _).mono ?_
        rintro e w3 ⟨rfl, hB3⟩
        have HB3 := Lib.hid (HB2.out.trans (hB3.mono HB2.out.size))
        clear hB3 C3
        go_wp2
        go_ret2
        exact ⟨by rw [HV2.out]; rfl, HB3.out⟩
      · have HV2 := Lib.hid (show V = .tuple #[.string ⟨#[]⟩, .int .i64 82] by rw [HV.out, if_neg h3])
        obtain ⟨hE, hE2⟩ := texts_ne h3
        clear HV h3
        go_enter Tryz.func37, Tryz.ntmps37
        go_wp2_with fail
        refine (C1 _).mono ?_
        rintro e w1 ⟨rfl, rfl⟩
        clear C1 hsl2
        go_wp2_with fail
        refine (C2 _).mono ?_
        rintro e w2 ⟨rfl, hB2⟩
        have HB2 := Lib.hid hB2
        clear hB2 C2 hsl
        go_wp2_with fail
        refine (C3 _).mono ?_
        rintro e w3 ⟨rfl, hB3⟩
        have HB3 := Lib.hid (HB2.out.trans (hB3.mono HB2.out.size))
        clear hB3 C3
        go_wp2
        go_ret2
        exact ⟨by rw [HV2.out]; rfl, HB3.out⟩
    · have HV := Lib.hid (show V = .tuple #[.string ⟨#[]⟩, .int .i64 82] by rw [← hV, unframeV, unframe, if_neg (fun h => h2 h.2.1)])
      generalize s.extract 0 2 = S2 at *
      generalize cutN s = n at *
      have hni : (240 : Int) < (n : Int) := by omega
      clear h1 h2 hV
      go_enter Tryz.func37, Tryz.ntmps37
      go_wp2_with fail
      refine (C1 _).mono ?_
      rintro e w1 ⟨rfl, rfl⟩
      clear C1 hsl2
      go_wp2
      go_ret2
      exact ⟨by rw [HV.out]; rfl, Below.refl _ _⟩
  · have HV := Lib.hid (show V = .tuple #[.string ⟨#[]⟩, .int .i64 82] by rw [← hV, unframeV, unframe, if_neg (fun h => h1 h.1)])
    have hb : ((s.size : Int) != 256) = true := by rw [bne_iff_ne]; omega
    clear h1 hV
    go_enter Tryz.func37, Tryz.ntmps37
    go_wp2
    go_ret2
    exact ⟨by rw [HV.out]; rfl, Below.refl _ _⟩

/-! ### a root -/
theorem root_text (t : ByteArray) (n : Nat) : (⟨#[82, 84]⟩ : ByteArray) ++ bsL (leN n 6) ++ bsL (leN t.size 1) ++ t = ofB ([82, 84] ++ leN n 6 ++ leN t.data.toList.length 1 ++ t.data.toList) := by
  apply b_ext
  simp [ByteArray.data_append, bsL, ofB_list]
def numV (n : Nat) (t : ByteArray) : Value := .agg #[.int .i64 n, .string t]
/-- a number and a root, in memory -/
def numO (n : Nat) (t : ByteArray) : Obj := .cells #[.int .i64 n, .string t] 65 (0, 0)
section
variable {q n : Nat} {t : ByteArray} {w : World}
theorem numO.c0 (h : w.heap[q]? = some (numO n t)) : w.cell? ⟨q, 0, none⟩ = some (.int .i64 n) := by simp [World.cell?, h, numO]
theorem numO.c1 (h : w.heap[q]? = some (numO n t)) : w.cell? ⟨q, 1, none⟩ = some (.string t) := by simp [World.cell?, h, numO]
theorem numO.fr (h : w.heap[q]? = some (numO n t)) (i : Nat) : w.frozen? ⟨q, i, none⟩ = false := by simp [World.frozen?, h, numO]
end
set_option maxRecDepth 100000 in
set_option maxHeartbeats 1000000 in
theorem rsector_any (n : Nat) (t : ByteArray) (hn : n ≤ 281474976710655) (ht : t.size ≤ 40) (w : World) :
    Calls Tryz.prog 100 #[numV n t] w fun e w' => e = .returned (.string (rootB t n)) ∧ Below w.heap.size w w' := by
  have C1 := fun w => number_any n 6 (by omega) (by omega) w
  have C2 := fun w => number_any t.size 1 (by omega) (by omega) w
  have h1 : (bsL (leN n 6)).size = 6 := by rw [size_bsL, length_leN]
  have h2 : (bsL (leN t.size 1)).size = 1 := by rw [size_bsL, length_leN]
  have h3 : ((⟨#[82, 84]⟩ : ByteArray) ++ bsL (leN n 6) ++ bsL (leN t.size 1) ++ t).size = 9 + t.size := by
    rw [ByteArray.size_append, ByteArray.size_append, ByteArray.size_append, h1, h2]; rfl
  have CS := fun w => seal_any ((⟨#[82, 84]⟩ : ByteArray) ++ bsL (leN n 6) ++ bsL (leN t.size 1) ++ t) 56 (47 - t.size) (by omega) (by omega) w
  have CS' : ∀ w, Calls Tryz.prog 90 #[.string ((⟨#[82, 84]⟩ : ByteArray) ++ bsL (leN n 6) ++ bsL (leN t.size 1) ++ t), .int .i64 64] w _ := CS
  have HE := Lib.hid (show ofB (sealL ((⟨#[82, 84]⟩ : ByteArray) ++ bsL (leN n 6) ++ bsL (leN t.size 1) ++ t).data.toList 56) = rootB t n by rw [root_text, ofB_list]; rfl)
  generalize ofB (sealL ((⟨#[82, 84]⟩ : ByteArray) ++ bsL (leN n 6) ++ bsL (leN t.size 1) ++ t).data.toList 56) = R at *
  generalize bsL (leN n 6) = X at *
  generalize bsL (leN t.size 1) = Y at *
  have s1 : ((⟨#[82, 84]⟩ : ByteArray) ++ X).size = 8 := by rw [ByteArray.size_append, h1]; rfl
  have s2 : ((⟨#[82, 84]⟩ : ByteArray) ++ X ++ Y).size = 9 := by rw [ByteArray.size_append, s1, h2]
  have n1 : ¬ 9223372036854775807 < ((⟨#[82, 84]⟩ : ByteArray)).size + X.size := by rw [h1]; decide
  have n2 : ¬ 9223372036854775807 < ((⟨#[82, 84]⟩ : ByteArray) ++ X).size + Y.size := by rw [s1, h2]; decide
  have n3 : ¬ 9223372036854775807 < ((⟨#[82, 84]⟩ : ByteArray) ++ X ++ Y).size + t.size := by rw [s2]; omega
  clear h1 h2 h3 s1 s2 CS
  obtain ⟨w0, hw0⟩ : ∃ w0, w.alloc (numO n t) = w0 := ⟨_, rfl⟩
  have HO := Lib.hid (show w0.heap[w.heap.size]? = some (numO n t) by rw [← hw0]; exact heap_alloc_new _ _)
  have HB0 := Lib.hid (show Below w.heap.size w w0 by rw [← hw0]; exact (Below.refl _ w).alloc (Nat.le_refl _) _)
  have d0 := numO.c0 HO.out
  unfold numO at hw0
  unfold numV
  go_enter Tryz.func100, Tryz.ntmps100
  go_wp2_with fail
  refine (C1 _).mono ?_
  rintro e w1 ⟨rfl, hB1⟩
  have HB1 := Lib.hid (HB0.out.trans (hB1.mono HB0.out.size))
  have HO1 := Lib.hid (keeps_of hB1 HO.out)
  have d1 := numO.c1 HO1.out
  clear hB1 hw0 d0 C1
  go_wp2_with fail
  refine (C2 _).mono ?_
  rintro e w2 ⟨rfl, hB2⟩
  have HB2 := Lib.hid (HB1.out.trans (hB2.mono HB1.out.size))
  have HO2 := Lib.hid (keeps_of hB2 HO1.out)
  have d2 := numO.c1 HO2.out
  clear hB2 d1 C2
  go_wp2_with fail
  refine (CS' _).mono ?_
  rintro e w3 ⟨rfl, hB3⟩
  have HB3 := Lib.hid (HB2.out.trans (hB3.mono HB2.out.size))
  clear hB3 CS'
  go_wp2
  go_ret
  exact ⟨by rw [HE.out]; rfl, HB3.out⟩
theorem place_any (n : Nat) (t : ByteArray) (hn : n ≤ 281474976710655) (w : World) :
    Calls Tryz.prog 99 #[numV n t] w fun e w' => e = .returned (.int .i64 ((n % 2 : Nat) : Int)) ∧ Below w.heap.size w w' := by
  obtain ⟨w0, hw0⟩ : ∃ w0, w.alloc (numO n t) = w0 := ⟨_, rfl⟩
  have HO := Lib.hid (show w0.heap[w.heap.size]? = some (numO n t) by rw [← hw0]; exact heap_alloc_new _ _)
  have HB0 := Lib.hid (show Below w.heap.size w w0 by rw [← hw0]; exact (Below.refl _ w).alloc (Nat.le_refl _) _)
  have d0 := numO.c0 HO.out
  have hm1 : (n : Int) % 2 = ((n % 2 : Nat) : Int) := by omega
  have hm2 : (n : Int).tmod 2 = ((n % 2 : Nat) : Int) := by rw [Int.tmod_eq_emod_of_nonneg (by omega)]; omega
  generalize n % 2 = q at *
  unfold numO at hw0
  unfold numV
  go_enter Tryz.func99, Tryz.ntmps99
  go_wp2
  go_ret
  exact ⟨by simp, HB0.out⟩
end Go.Proofs.YtknfakaklmpboaaGreatDoor

