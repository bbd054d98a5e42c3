/-
  BlkA / BlkB / BlkC / BlkD.
-/
import Derived.Test.YtmloljjllmmkoaaGreatBM
import Derived.Test.YtmloljjllmmkoaaGreatNB
import Derived.Test.YtmloljjllmmkoaaGreatMB
import Derived.Test.YtmloljjllmmkoaaGreatCA
import Derived.Deep.RegionHeld3
namespace Go.Proofs.YtmloljjllmmkoaaGreat
open Go.RowKit Go Go.Maps SM

def keyB : ByteArray := ⟨#[115, 116, 105, 108, 108, 97, 103, 101, 32, 118, 111, 108, 117, 109, 101, 33]⟩
theorem key_list : keyB.data.toList = key16 := rfl
theorem dig_any (s : ByteArray) (hs : s.size ≤ 1048576) (w : World) :
    Calls Tryz.prog 91 #[.string keyB, .string s] w fun e w' => e = .returned (.tuple #[.string (ofB (DG.sum key16 s.data.toList)), .int .i64 0]) ∧ Below w.heap.size w w' := by
  have h := DG.dsum_any keyB s (by decide) (by omega) w
  rw [key_list] at h
  exact h
theorem pad_text (s : ByteArray) (n k : Nat) (h : n = s.size + k) : s ++ zeros k = ofB (padL s.data.toList n) := by
  apply b_ext
  rw [ofB_list, padL, ByteArray.data_append, Array.toList_append, len_of, show n - s.size = k by omega]
  simp [zeros]
theorem seal_text (s : ByteArray) (n k : Nat) (h : n = s.size + k) : s ++ zeros k ++ ofB (DG.sum key16 (s ++ zeros k).data.toList) = ofB (sealL s.data.toList n) := by
  rw [pad_text s n k h, ofB_list]
  apply b_ext
  rw [ByteArray.data_append, Array.toList_append, ofB_list, ofB_list, ofB_list, sealL]
set_option maxRecDepth 100000 in
theorem seal_any (s : ByteArray) (n k : Nat) (hn : n = s.size + k) (hn2 : n ≤ 248) (w : World) :
    Calls Tryz.prog 48 #[.string s, .int .i64 ((n : Int) + 8)] w fun e w' => e = .returned (.string (ofB (sealL s.data.toList n))) ∧ Below w.heap.size w w' := by
  have C1 := fun w => repeat_any k (by omega) w
  have hk : (n : Int) + 8 - 8 - (s.size : Int) = (k : Int) := by omega
  have hk2 : (n : Int) - (s.size : Int) = (k : Int) := by omega
  have HE := Lib.hid (seal_text s n k hn)
  have hz : (zeros k).size = k := size_zeros k
  have hT : (s ++ zeros k).size = n := by rw [ByteArray.size_append, hz, hn]
  have C2 := fun w => dig_any (s ++ zeros k) (by omega) w
  have hD : (ofB (DG.sum key16 (s ++ zeros k).data.toList)).size = 8 := by rw [ofB_size, DG.sum_length]
  generalize ofB (DG.sum key16 (s ++ zeros k).data.toList) = D at *
  generalize zeros k = Z at *
  have nsum : ¬ 9223372036854775807 < s.size + Z.size := by omega
  have nsum2 : ¬ 9223372036854775807 < (s ++ Z).size + D.size := by omega
  generalize ofB (sealL s.data.toList n) = R at *
  have hn8 : (n : Int) ≤ 248 := by omega
  have hs8 : (s.size : Int) ≤ 248 := by omega
  clear hT hD hz hn hn2
  unfold keyB at C2
  go_enter Tryz.func48, Tryz.ntmps48
  go_wp2_with fail
  refine (C1 _).mono ?_
  rintro e w1 ⟨rfl, hB1⟩
  have HB1 := Lib.hid hB1
  clear hB1 C1
  go_wp2_with fail
  refine (C2 _).mono ?_
  rintro e w2 ⟨rfl, hB2⟩
  have HB2 := Lib.hid (HB1.out.trans (hB2.mono HB1.out.size))
  clear hB2 C2
  go_wp2
  go_ret
  exact ⟨by rw [← HE.out]; rfl, HB2.out⟩

/-! ### a block -/
theorem frame_text (p : ByteArray) : bsL (leN p.size 2) ++ p = ofB (leN p.data.toList.length 2 ++ p.data.toList) := by
  apply b_ext
  rw [ByteArray.data_append, Array.toList_append, ofB_list, data_bsL, len_of]
def frameV (p : ByteArray) : Value := if 240 < p.size then .tuple #[.string ⟨#[]⟩, .int .i64 83] else .tuple #[.string (frameB p), .int .i64 0]
set_option maxRecDepth 100000 in
theorem frame_any (p : ByteArray) (hp : p.size ≤ 140737488355328) (w : World) :
    Calls Tryz.prog 18 #[.string p] w fun e w' => e = .returned (frameV p) ∧ Below w.heap.size w w' := by
  unfold frameV
  by_cases h : 240 < p.size
  · rw [if_pos h]
    have hi : (240 : Int) < (p.size : Int) := by omega
    clear h
    go_enter Tryz.func18, Tryz.ntmps18
    go_wp2
    go_ret2
    exact ⟨rfl, Below.refl _ _⟩
  · rw [if_neg h]
    have hi : ¬ (240 : Int) < (p.size : Int) := by omega
    have CN := fun w => number_any p.size 2 (by omega) (by omega) w
    have hX : (bsL (leN p.size 2)).size = 2 := by rw [size_bsL, length_leN]
    have hT : (bsL (leN p.size 2) ++ p).size = 2 + p.size := by rw [ByteArray.size_append, hX]
    have CS := fun w => seal_any (bsL (leN p.size 2) ++ p) 248 (246 - p.size) (by omega) (by omega) w
    have HE := Lib.hid (show ofB (sealL (bsL (leN p.size 2) ++ p).data.toList 248) = frameB p by rw [frame_text, ofB_list]; rfl)
    have CS' : ∀ w, Calls Tryz.prog 48 #[.string (bsL (leN p.size 2) ++ p), .int .i64 256] w _ := CS
    generalize bsL (leN p.size 2) = X at *
    generalize ofB (sealL (X ++ p).data.toList 248) = R at *
    have nsum : ¬ 9223372036854775807 < X.size + p.size := by omega
    clear hX hT CS h
    go_enter Tryz.func18, Tryz.ntmps18
    go_wp2_with fail
    refine (CN _).mono ?_
    rintro e w1 ⟨rfl, hB1⟩
    have HB1 := Lib.hid hB1
    clear hB1 CN
    go_wp2_with fail
    refine (CS' _).mono ?_
    rintro e w2 ⟨rfl, hB2⟩
    have HB2 := Lib.hid (HB1.out.trans (hB2.mono HB1.out.size))
    clear hB2 CS'
    go_wp2
    go_ret2
    exact ⟨by rw [HE.out]; rfl, HB2.out⟩
def unframeV (s : ByteArray) : Value := match unframe s with | some p => .tuple #[.string p, .int .i64 0] | none => .tuple #[.string ⟨#[]⟩, .int .i64 82]
theorem cut_two (s : ByteArray) : valN (s.extract 0 2).data.toList = cutN s := by rw [Lib.extract_data]; rfl
theorem slice_cut (s : ByteArray) (k : Nat) (h : k + 2 ≤ s.size) (W : World) :
    (Instr.slice 9 (.string s) (some (.int .i64 2)) (some (.int .i64 (2 + (k : Int)))) none).run Tryz.prog W = .ok (.string (s.extract 2 (2 + k))) W := by
  have := run_slice_string W 9 s .i64 .i64 2 (2 + (k : Int)) Tryz.underlying9 (by omega) (by omega) (by omega)
  rw [show (2 + (k : Int)).toNat = 2 + k by omega, show (2 : Int).toNat = 2 by rfl] at this
  exact this
set_option maxRecDepth 100000 in
set_option maxHeartbeats 1000000 in
theorem unframe_any (s : ByteArray) (hs : s.size ≤ 140737488355328) (w : World) :
    Calls Tryz.prog 165 #[.string s] w fun e w' => e = .returned (unframeV s) ∧ Below w.heap.size w w' := by
  obtain ⟨V, hV⟩ : ∃ V, unframeV s = V := ⟨_, rfl⟩
  rw [hV]
  by_cases h1 : s.size = 256
  · have C1 := fun w => number_of (s.extract 0 2) (by rw [ByteArray.size_extract]; omega) w
    rw [cut_two] at C1
    have hb : ((s.size : Int) != 256) = false := by rw [h1]; rfl
    have hi : (2 : Int) ≤ (s.size : Int) := by omega
    have hsl2 : ∀ W, (Instr.slice 9 (.string s) none (some (.int .i64 2)) none).run Tryz.prog W = .ok (.string (s.extract 0 2)) W := fun W => by
      have := run_slice_string_h (P := Tryz.prog) (w := W) 9 s Tryz.underlying9 .i64 2 (by omega) (by omega)
      exact this
    by_cases h2 : cutN s ≤ 240
    · have hsl : ∀ W, _ := slice_cut s (cutN s) (by omega)
      have hcs : (cutB s).size ≤ 240 := by rw [cutB, ByteArray.size_extract]; omega
      have HV := Lib.hid (show V = if frameB (cutB s) = s then .tuple #[.string (cutB s), .int .i64 0] else .tuple #[.string ⟨#[]⟩, .int .i64 82] by
        rw [← hV, unframeV, unframe]
        by_cases h3 : frameB (cutB s) = s
        · rw [if_pos ⟨h1, h2, h3⟩, if_pos h3]
        · rw [if_neg (fun h => h3 h.2.2), if_neg h3])
      have C2 := fun w => clone_any (cutB s) (by omega) w
      have C3 := fun w => frame_any (cutB s) (by omega) w
      simp only [frameV, if_neg (show ¬ 240 < (cutB s).size by omega)] at C3
      rw [show s.extract 2 (2 + cutN s) = cutB s from rfl] at hsl
      generalize s.extract 0 2 = S2 at *
      generalize frameB (cutB s) = F at *
      generalize cutB s = C at *
      generalize cutN s = n at *
      have hni : ¬ (240 : Int) < (n : Int) := by omega
      clear h1 h2 hcs hV
      by_cases h3 : F = s
      · have HV2 := Lib.hid (show V = .tuple #[.string C, .int .i64 0] by rw [HV.out, if_pos h3])
        subst h3
        have hE : (F.toList == F.toList) = true := by simp
        have hE2 : (F.toList != F.toList) = false := by simp
        clear HV
        go_enter Tryz.func165, Tryz.ntmps165
        go_wp2_with fail
        refine (C1 _).mono ?_
        rintro e w1 ⟨rfl, rfl⟩
        clear C1 hsl2
        go_wp2_with fail
        refine (C2 _).mono ?_
        rintro e w2 ⟨rfl, hB2⟩
        have HB2 := Lib.hid hB2
        clear hB2 C2 hsl
        go_wp2_with fail
        refine (C3 _).mono ?_
        rintro e w3 ⟨rfl, hB3⟩
        have HB3 := Lib.hid (HB2.out.trans (hB3.mono HB2.out.size))
        clear hB3 C3
        go_wp2
        go_ret2
        exact ⟨by rw [HV2.out]; rfl, HB3.out⟩
      · have HV2 := Lib.hid (show V = .tuple #[.string ⟨#[]⟩, .int .i64 82] by rw [HV.out, if_neg h3])
        obtain ⟨hE, hE2⟩ := texts_ne h3
        clear HV h3
        go_enter Tryz.func165, Tryz.ntmps165
        go_wp2_with fail
        refine (C1 _).mono ?_
        rintro e w1 ⟨rfl, rfl⟩
        clear C1 hsl2
        go_wp2_with fail
        refine (C2 _).mono ?_
        rintro e w2 ⟨rfl, hB2⟩
        have HB2 := Lib.hid hB2
        clear hB2 C2 hsl
        go_wp2_with fail
        refine (C3 _).mono ?_
        rintro e w3 ⟨rfl, hB3⟩
        have HB3 := Lib.hid (HB2.out.trans (hB3.mono HB2.out.size))
        clear hB3 C3
        go_wp2
        go_ret2
        exact ⟨by rw [HV2.out]; rfl, HB3.out⟩
    · have HV := Lib.hid (show V = .tuple #[.string ⟨#[]⟩, .int .i64 82] by rw [← hV, unframeV, unframe, if_neg (fun h => h2 h.2.1)])
      generalize s.extract 0 2 = S2 at *
      generalize cutN s = n at *
      have hni : (240 : Int) < (n : Int) := by omega
      clear h1 h2 hV
      go_enter Tryz.func165, Tryz.ntmps165
      go_wp2_with fail
      refine (C1 _).mono ?_
      rintro e w1 ⟨rfl, rfl⟩
      clear C1 hsl2
      go_wp2
      go_ret2
      exact ⟨by rw [HV.out]; rfl, Below.refl _ _⟩
  · have HV := Lib.hid (show V = .tuple #[.string ⟨#[]⟩, .int .i64 82] by rw [← hV, unframeV, unframe, if_neg (fun h => h1 h.1)])
    have hb : ((s.size : Int) != 256) = true := by rw [bne_iff_ne]; omega
    clear h1 hV
    go_enter Tryz.func165, Tryz.ntmps165
    go_wp2
    go_ret2
    exact ⟨by rw [HV.out]; rfl, Below.refl _ _⟩

/-! ### a root -/
theorem root_text (t : ByteArray) (n : Nat) : (⟨#[82, 84]⟩ : ByteArray) ++ bsL (leN n 6) ++ bsL (leN t.size 1) ++ t = ofB ([82, 84] ++ leN n 6 ++ leN t.data.toList.length 1 ++ t.data.toList) := by
  apply b_ext
  simp [ByteArray.data_append, bsL, ofB_list]
def numV (n : Nat) (t : ByteArray) : Value := .agg #[.int .i64 n, .string t]
/-- a number and a root, in memory -/
def numO (n : Nat) (t : ByteArray) : Obj := .cells #[.int .i64 n, .string t] 54 (0, 0)
section
variable {q n : Nat} {t : ByteArray} {w : World}
theorem numO.c0 (h : w.heap[q]? = some (numO n t)) : w.cell? ⟨q, 0, none⟩ = some (.int .i64 n) := by simp [World.cell?, h, numO]
theorem numO.c1 (h : w.heap[q]? = some (numO n t)) : w.cell? ⟨q, 1, none⟩ = some (.string t) := by simp [World.cell?, h, numO]
theorem numO.fr (h : w.heap[q]? = some (numO n t)) (i : Nat) : w.frozen? ⟨q, i, none⟩ = false := by simp [World.frozen?, h, numO]
end
set_option maxRecDepth 100000 in
set_option maxHeartbeats 1000000 in
theorem rsector_any (n : Nat) (t : ByteArray) (hn : n ≤ 281474976710655) (ht : t.size ≤ 40) (w : World) :
    Calls Tryz.prog 86 #[numV n t] w fun e w' => e = .returned (.string (rootB t n)) ∧ Below w.heap.size w w' := by
  have C1 := fun w => number_any n 6 (by omega) (by omega) w
  have C2 := fun w => number_any t.size 1 (by omega) (by omega) w
  have h1 : (bsL (leN n 6)).size = 6 := by rw [size_bsL, length_leN]
  have h2 : (bsL (leN t.size 1)).size = 1 := by rw [size_bsL, length_leN]
  have h3 : ((⟨#[82, 84]⟩ : ByteArray) ++ bsL (leN n 6) ++ bsL (leN t.size 1) ++ t).size = 9 + t.size := by
    rw [ByteArray.size_append, ByteArray.size_append, ByteArray.size_append, h1, h2]; rfl
  have CS := fun w => seal_any ((⟨#[82, 84]⟩ : ByteArray) ++ bsL (leN n 6) ++ bsL (leN t.size 1) ++ t) 56 (47 - t.size) (by omega) (by omega) w
  have CS' : ∀ w, Calls Tryz.prog 48 #[.string ((⟨#[82, 84]⟩ : ByteArray) ++ bsL (leN n 6) ++ bsL (leN t.size 1) ++ t), .int .i64 64] w _ := CS
  have HE := Lib.hid (show ofB (sealL ((⟨#[82, 84]⟩ : ByteArray) ++ bsL (leN n 6) ++ bsL (leN t.size 1) ++ t).data.toList 56) = rootB t n by rw [root_text, ofB_list]; rfl)
  generalize ofB (sealL ((⟨#[82, 84]⟩ : ByteArray) ++ bsL (leN n 6) ++ bsL (leN t.size 1) ++ t).data.toList 56) = R at *
  generalize bsL (leN n 6) = X at *
  generalize bsL (leN t.size 1) = Y at *
  have s1 : ((⟨#[82, 84]⟩ : ByteArray) ++ X).size = 8 := by rw [ByteArray.size_append, h1]; rfl
  have s2 : ((⟨#[82, 84]⟩ : ByteArray) ++ X ++ Y).size = 9 := by rw [ByteArray.size_append, s1, h2]
  have n1 : ¬ 9223372036854775807 < ((⟨#[82, 84]⟩ : ByteArray)).size + X.size := by rw [h1]; decide
  have n2 : ¬ 9223372036854775807 < ((⟨#[82, 84]⟩ : ByteArray) ++ X).size + Y.size := by rw [s1, h2]; decide
  have n3 : ¬ 9223372036854775807 < ((⟨#[82, 84]⟩ : ByteArray) ++ X ++ Y).size + t.size := by rw [s2]; omega
  clear h1 h2 h3 s1 s2 CS
  obtain ⟨w0, hw0⟩ : ∃ w0, w.alloc (numO n t) = w0 := ⟨_, rfl⟩
  have HO := Lib.hid (show w0.heap[w.heap.size]? = some (numO n t) by rw [← hw0]; exact heap_alloc_new _ _)
  have HB0 := Lib.hid (show Below w.heap.size w w0 by rw [← hw0]; exact (Below.refl _ w).alloc (Nat.le_refl _) _)
  have d0 := numO.c0 HO.out
  unfold numO at hw0
  unfold numV
  go_enter Tryz.func86, Tryz.ntmps86
  go_wp2_with fail
  refine (C1 _).mono ?_
  rintro e w1 ⟨rfl, hB1⟩
  have HB1 := Lib.hid (HB0.out.trans (hB1.mono HB0.out.size))
  have HO1 := Lib.hid (keeps_of hB1 HO.out)
  have d1 := numO.c1 HO1.out
  clear hB1 hw0 d0 C1
  go_wp2_with fail
  refine (C2 _).mono ?_
  rintro e w2 ⟨rfl, hB2⟩
  have HB2 := Lib.hid (HB1.out.trans (hB2.mono HB1.out.size))
  have HO2 := Lib.hid (keeps_of hB2 HO1.out)
  have d2 := numO.c1 HO2.out
  clear hB2 d1 C2
  go_wp2_with fail
  refine (CS' _).mono ?_
  rintro e w3 ⟨rfl, hB3⟩
  have HB3 := Lib.hid (HB2.out.trans (hB3.mono HB2.out.size))
  clear hB3 CS'
  go_wp2
  go_ret
  exact ⟨by rw [HE.out]; rfl, HB3.out⟩
theorem place_any (n : Nat) (t : ByteArray) (hn : n ≤ 281474976710655) (w : World) :
    Calls Tryz.prog 85 #[numV n t] w fun e w' => e = .returned (.int .i64 ((n % 2 : Nat) : Int)) ∧ Below w.heap.size w w' := by
  obtain ⟨w0, hw0⟩ : ∃ w0, w.alloc (numO n t) = w0 := ⟨_, rfl⟩
  have HO := Lib.hid (show w0.heap[w.heap.size]? = some (numO n t) by rw [← hw0]; exact heap_alloc_new _ _)
  have HB0 := Lib.hid (show Below w.heap.size w w0 by rw [← hw0]; exact (Below.refl _ w).alloc (Nat.le_refl _) _)
  have d0 := numO.c0 HO.out
  have hm1 : (n : Int) % 2 = ((n % 2 : Nat) : Int) := by omega
  have hm2 : (n : Int).tmod 2 = ((n % 2 : Nat) : Int) := by rw [Int.tmod_eq_emod_of_nonneg (by omega)]; omega
  generalize n % 2 = q at *
  unfold numO at hw0
  unfold numV
  go_enter Tryz.func85, Tryz.ntmps85
  go_wp2
  go_ret
  exact ⟨by simp, HB0.out⟩
end Go.Proofs.YtmloljjllmmkoaaGreat

namespace Go.Proofs.YtmloljjllmmkoaaGreat
open Go.RowKit Go Go.Maps SM

def VObj (b n : Nat) (t : ByteArray) (c : Nat) (dead : Bool) : Obj := .cells #[.pointer (some ⟨b, 0, none⟩), .int .i64 n, .string t, .pointer (some ⟨c, 0, none⟩), .bool dead] 57 (0, 0)
section
variable {l b n c : Nat} {t : ByteArray} {dead : Bool} {w : World}
theorem VObj.c0 (h : w.heap[l]? = some (VObj b n t c dead)) : w.cell? ⟨l, 0, none⟩ = some (.pointer (some ⟨b, 0, none⟩)) := by simp [World.cell?, h, VObj]
theorem VObj.c1 (h : w.heap[l]? = some (VObj b n t c dead)) : w.cell? ⟨l, 1, none⟩ = some (.int .i64 n) := by simp [World.cell?, h, VObj]
theorem VObj.c2 (h : w.heap[l]? = some (VObj b n t c dead)) : w.cell? ⟨l, 2, none⟩ = some (.string t) := by simp [World.cell?, h, VObj]
theorem VObj.c3 (h : w.heap[l]? = some (VObj b n t c dead)) : w.cell? ⟨l, 3, none⟩ = some (.pointer (some ⟨c, 0, none⟩)) := by simp [World.cell?, h, VObj]
theorem VObj.c4 (h : w.heap[l]? = some (VObj b n t c dead)) : w.cell? ⟨l, 4, none⟩ = some (.bool dead) := by simp [World.cell?, h, VObj]
theorem VObj.fr (h : w.heap[l]? = some (VObj b n t c dead)) (i : Nat) : w.frozen? ⟨l, i, none⟩ = false := by simp [World.frozen?, h, VObj]
end
/-- a volume in memory: its object, its disk, what it keeps; F: the blocks of that -/
structure VolAt (base l b g m c : Nat) (F : Nat → Prop) (x : VS) (w : World) : Prop where
  obj : w.heap[l]? = some (VObj b x.num x.text c x.dead)
  disk : DiskAt b g m x.disk w
  kept : CI.Cach base F c 32 x.kept w
  far : ∀ k, F k → ¬ Foot b g m k
  apart : ¬ F l
  tle : x.text.size ≤ 40
  nle : x.num ≤ 1099511627776
  big : badV x.disk = false
def VFoot (l b g m : Nat) (F : Nat → Prop) : Nat → Prop := fun k => k = l ∨ Foot b g m k ∨ F k
section
variable {base l b g m c : Nat} {F : Nat → Prop} {x : VS} {s : DS} {w w' : World}
theorem VolAt.stay {G : Nat → Prop} (h : VolAt base l b g m c F x w) (k : Stir G w w') (hn : ∀ i, VFoot l b g m F i → ¬ G i) : VolAt base l b g m c F x w' :=
  ⟨k.keep h.obj (hn _ (.inl rfl)), h.disk.stay k (fun _ hi => hn _ (.inr (.inl hi))), h.kept.stay k (fun _ hi => hn _ (.inr (.inr hi))), h.far, h.apart, h.tle, h.nle, h.big⟩
theorem VolAt.below (h : VolAt base l b g m c F x w) (k : Below w.heap.size w w') : VolAt base l b g m c F x w' := h.stay (Stir.of_below (F := fun _ => False) k) (fun _ _ h => h)
theorem VolAt.l_disk (h : VolAt base l b g m c F x w) : ¬ Foot b g m l := h.disk.not_cells h.obj (by decide) (by decide)
theorem VolAt.lt (h : VolAt base l b g m c F x w) {k : Nat} (hk : VFoot l b g m F k) : k < w.heap.size := by
  rcases hk with rfl | hk | hk
  · exact lt_of_heap h.obj
  · exact h.disk.lt hk
  · exact h.kept.lt hk
/-- the disk does something -/
theorem VolAt.turn {s' : DS} (h : VolAt base l b g m c F x w) (hd : DiskAt b g m s' w') (hs : Stir (Foot b g m) w w') (hb : s'.stay.length = x.disk.stay.length) : VolAt base l b g m c F { x with disk := s' } w' :=
  ⟨hs.keep h.obj h.l_disk, hd, h.kept.stay hs (fun k hk => h.far k hk), h.far, h.apart, h.tle, h.nle, by have := h.big; unfold badV blkN at *; rw [hb]; exact this⟩
/-- what is kept is turned -/
theorem VolAt.keep {L : List (Int × ByteArray)} (h : VolAt base l b g m c F x w) (hl : CI.Left base F c 32 L w w') : ∃ F', VolAt base l b g m c F' { x with kept := L } w' ∧ Stir F w w' ∧ ∀ k, F' k → F k ∨ w.heap.size ≤ k := by
  obtain ⟨F', hc, hs, hF⟩ := hl
  refine ⟨F', ⟨hs.keep h.obj h.apart, h.disk.stay hs (fun i hi hf => h.far i hf hi), hc, fun k hk hf => ?_, fun hk => ?_, h.tle, h.nle, h.big⟩, hs, hF⟩
  · rcases hF k hk with e | e
    · exact h.far k e hf
    · have := h.disk.lt hf; omega
  · rcases hF l hk with e | e
    · exact h.apart e
    · have := lt_of_heap h.obj; omega
theorem VolAt.set (h : VolAt base l b g m c F x w) (dead : Bool) : VolAt base l b g m c F { x with dead := dead } (w.setCell ⟨l, 4, none⟩ (.bool dead)) ∧ Stir (· = l) w (w.setCell ⟨l, 4, none⟩ (.bool dead)) := by
  have hs : Stir (· = l) w (w.setCell ⟨l, 4, none⟩ (.bool dead)) := (Stir.refl (· = l) w).set (.inl rfl) _
  exact ⟨⟨by rw [heap_set h.obj]; simp [VObj], h.disk.stay hs (fun i hi e => h.l_disk (e ▸ hi)), h.kept.stay hs (fun k hk e => h.apart (e ▸ hk)), h.far, h.apart, h.tle, h.nle, h.big⟩, hs⟩

theorem blocksOf_any (h : DiskAt b g m s w) :
    Calls Tryz.prog 76 #[.pointer (some ⟨b, 0, none⟩)] w fun e w' => e = .returned (.int .i64 (blkN s)) ∧ w = w' := by
  have C := sectors_any h
  have h2 := h.1.le
  unfold blkN
  generalize s.stay.length = N at *
  have HE := Lib.hid (show (N : Int).tdiv 4 = ((N / 4 : Nat) : Int) by rw [Int.tdiv_eq_ediv_of_nonneg (by omega)]; omega)
  have HE2 := Lib.hid (show (N : Int) / 4 = ((N / 4 : Nat) : Int) by omega)
  clear h
  go_enter Tryz.func76, Tryz.ntmps76
  go_wp2_with fail
  refine C.mono ?_
  rintro e w' ⟨rfl, rfl⟩
  go_wp2
  go_ret
  exact ⟨by simp, rfl⟩
theorem holds_any (h : DiskAt b g m s w) :
    Calls Tryz.prog 40 #[.pointer (some ⟨b, 0, none⟩)] w fun e w' => e = .returned (.bool (!badV s)) ∧ w = w' := by
  have C := blocksOf_any h
  unfold badV
  generalize blkN s = N at *
  clear h
  by_cases h1 : N < 8
  · have hi : ¬ (8 : Int) ≤ (N : Int) := by omega
    go_enter Tryz.func40, Tryz.ntmps40
    go_wp2_with fail
    refine C.mono ?_
    rintro e w' ⟨rfl, rfl⟩
    go_wp2
    go_ret
    exact ⟨by simp, rfl⟩
  · have hi : (8 : Int) ≤ (N : Int) := by omega
    have HE := Lib.hid (show decide ((N : Int) ≤ 4096) = (!(decide (N < 8) || decide (4096 < N))) by
      rcases Nat.lt_or_ge 4096 N with h | h
      · rw [decide_eq_false (by omega), decide_eq_false h1, decide_eq_true h]; rfl
      · rw [decide_eq_true (by omega), decide_eq_false h1, decide_eq_false (by omega)]; rfl)
    go_enter Tryz.func40, Tryz.ntmps40
    go_wp2_with fail
    refine C.mono ?_
    rintro e w' ⟨rfl, rfl⟩
    go_wp2_with fail
    refine C.mono ?_
    rintro e w' ⟨rfl, rfl⟩
    go_wp2
    go_ret
    exact ⟨by rw [← HE.out]; rfl, rfl⟩
theorem vblocks_any (h : VolAt base l b g m c F x w) :
    Calls Tryz.prog 47 #[.pointer (some ⟨l, 0, none⟩)] w fun e w' => e = .returned (.int .i64 (blkN x.disk)) ∧ w = w' := by
  have C := blocksOf_any h.disk
  have c0 := VObj.c0 h.obj
  generalize blkN x.disk = N at *
  clear h
  go_enter Tryz.func47, Tryz.ntmps47
  go_wp2_with fail
  refine C.mono ?_
  rintro e w' ⟨rfl, rfl⟩
  go_wp2
  go_ret
  exact ⟨rfl, rfl⟩
theorem vhas_any (h : VolAt base l b g m c F x w) (v : Int) :
    Calls Tryz.prog 17 #[.pointer (some ⟨l, 0, none⟩), .int .i64 v] w fun e w' => e = .returned (.bool (x.has v)) ∧ w = w' := by
  have C := vblocks_any h
  unfold VS.has
  generalize blkN x.disk = N at *
  clear h
  by_cases h1 : 1 ≤ v
  · go_enter Tryz.func17, Tryz.ntmps17
    go_wp2_with fail
    refine C.mono ?_
    rintro e w' ⟨rfl, rfl⟩
    go_wp2
    go_ret
    exact ⟨by simp [h1], rfl⟩
  · go_enter Tryz.func17, Tryz.ntmps17
    go_wp2
    go_ret
    exact ⟨by simp; intro; omega, rfl⟩
theorem vnote_any (h : VolAt base l b g m c F x w) (e : Int) :
    Calls Tryz.prog 21 #[.pointer (some ⟨l, 0, none⟩), .int .i64 e] w fun r w' => r = .returned (.int .i64 e) ∧ VolAt base l b g m c F { x with dead := e == 2 } w' ∧ Stir (· = l) w w' := by
  have f4 := VObj.fr h.obj 4
  have c4 := VObj.c4 h.obj
  obtain ⟨h1, h2⟩ := h.set (e == 2)
  have HL := Lib.hid h1
  have HS := Lib.hid h2
  clear h h1 h2
  obtain ⟨q, hq⟩ : ∃ q, (e == 2) = q := ⟨_, rfl⟩
  rw [hq] at HL HS ⊢
  go_enter Tryz.func21, Tryz.ntmps21
  go_wp2
  go_ret
  exact ⟨rfl, HL.out, HS.out⟩
set_option maxRecDepth 100000 in
/-- a volume that keeps nothing yet -/
theorem vover_any {n : Nat} {t : ByteArray} (h : DiskAt b g m s w) (hb : badV s = false) (hn : n ≤ 1099511627776) (ht : t.size ≤ 40) :
    Calls Tryz.prog 44 #[.pointer (some ⟨b, 0, none⟩), numV n t] w fun e w' => ∃ l c F, e = .returned (.pointer (some ⟨l, 0, none⟩)) ∧ w.heap.size ≤ l ∧ VolAt w.heap.size l b g m c F ⟨s, t, n, [], false⟩ w' ∧ Below w.heap.size w w' := by
  obtain ⟨w0, hw0⟩ : ∃ w0, w.alloc (numO n t) = w0 := ⟨_, rfl⟩
  have HO := Lib.hid (show w0.heap[w.heap.size]? = some (numO n t) by rw [← hw0]; exact heap_alloc_new _ _)
  have HB0 := Lib.hid (show Below w.heap.size w w0 by rw [← hw0]; exact (Below.refl _ w).alloc (Nat.le_refl _) _)
  have CN := fun w => CI.new_any 32 (by decide) (by decide) w
  have CN' : ∀ w, Calls Tryz.prog 88 #[.int .i64 32] w _ := CN
  have HD := Lib.hid h
  clear h CN
  unfold numO at hw0
  unfold numV
  go_enter Tryz.func44, Tryz.ntmps44
  go_wp2_with fail
  refine (CN' _).mono ?_
  rintro e w1 ⟨c, F, rfl, hc, hB1⟩
  have HB1 := Lib.hid (HB0.out.trans (hB1.mono HB0.out.size))
  have HO1 := Lib.hid (keeps_of hB1 HO.out)
  have d1 := numO.c0 HO1.out
  have d2 := numO.c1 HO1.out
  have HC := Lib.hid hc
  clear hB1 hw0 hc CN'
  go_wp2
  go_ret
  have hBw : Below w1.heap.size w1 (w1.alloc (VObj b n t c false)) := (Below.refl _ w1).alloc (Nat.le_refl _) _
  refine ⟨w1.heap.size, c, F, rfl, HB1.out.size, ⟨?_, (HD.out.below HB1.out).below hBw, ?_, fun k hk hf => ?_, fun hk => ?_, ht, hn, hb⟩, HB1.out.trans (hBw.mono HB1.out.size)⟩
  · exact heap_alloc_new _ _
  · obtain ⟨m', r, T, nd, nx, pv, D, a1, a2, a3, a4, a5⟩ := HC.out.later hBw
    exact ⟨m', r, T, nd, nx, pv, D, a1, a2, a3, fun k hk => Nat.le_trans HB0.out.size (a4 k hk), a5⟩
  · have h1 := HC.out.low hk
    have h2 := HD.out.lt hf
    have h3 := HB0.out.size
    omega
  · have := HC.out.lt hk
    exact Nat.lt_irrefl _ this

/-- a root is written, and synced -/
theorem rootPut_def {t : ByteArray} (ht : t.size ≤ 40) (n : Nat) (s : DS) : rootPut t n s = if s.writeE ((n % 2 : Nat) : Int) (rootB t n) = 0 then ((s.write ((n % 2 : Nat) : Int) (rootB t n)).syncE, (s.write ((n % 2 : Nat) : Int) (rootB t n)).sync) else (s.writeE ((n % 2 : Nat) : Int) (rootB t n), s.write ((n % 2 : Nat) : Int) (rootB t n)) := by
  unfold rootPut put puts puts
  rw [secB_root ht]
  simp only [Nat.add_zero]
  generalize ((n % 2 : Nat) : Int) = i
  by_cases e : s.writeE i (rootB t n) = 0
  · simp [e]
  · simp [e]
theorem len_rootPut (t : ByteArray) (n : Nat) (s : DS) : (rootPut t n s).2.stay.length = s.stay.length ∧ (rootPut t n s).2.made ≤ s.made + 2 := len_put 0 1 s
set_option maxRecDepth 100000 in
set_option maxHeartbeats 2000000 in
theorem lay_any {n : Nat} {t : ByteArray} (h : DiskAt b g m s w) (hm : s.made < 1000000000) (hn : n ≤ 281474976710655) (ht : t.size ≤ 40) :
    Calls Tryz.prog 43 #[numV n t, .pointer (some ⟨b, 0, none⟩)] w fun e w' => e = .returned (.int .i64 (rootPut t n s).1) ∧ DiskAt b g m (rootPut t n s).2 w' ∧ Stir (Foot b g m) w w' := by
  obtain ⟨w0, hw0⟩ : ∃ w0, w.alloc (numO n t) = w0 := ⟨_, rfl⟩
  have hB0 : Below w.heap.size w w0 := by rw [← hw0]; exact (Below.refl _ w).alloc (Nat.le_refl _) _
  have HO := Lib.hid (show w0.drew.heap[w.heap.size]? = some (numO n t) by rw [← hw0]; exact heap_alloc_new _ _)
  have HB0 := Lib.hid hB0.drew
  have d0 := numO.c0 HO.out
  have d1 := numO.c1 HO.out
  have C1 := fun w => place_any n t hn w
  have C2 := fun w => rsector_any n t hn ht w
  rw [rootPut_def ht]
  have h2 : ((n % 2 : Nat) : Int) < 2 := by omega
  have C3 := fun w (h : DiskAt b g m s w) => write_any h (by omega) ((n % 2 : Nat) : Int) ⟨by omega, by omega⟩ (rootB t n)
  have hm2 := made_write' s ((n % 2 : Nat) : Int) (rootB t n)
  generalize rootB t n = X at *
  generalize ((n % 2 : Nat) : Int) = i at *
  have C4 := fun w (h : DiskAt b g m (s.write i X) w) => sync_any h (by omega)
  have HH := Lib.hid h
  have hq : w.heap.size < w0.heap.size := by rw [← hw0]; simp
  unfold numO at hw0
  unfold numV at C1 C2 ⊢
  obtain ⟨E, hE⟩ : ∃ E, s.writeE i X = E := ⟨_, rfl⟩
  rw [hE] at C3 ⊢
  clear h hm2 hE hB0
  by_cases e : E = 0
  · rw [if_pos e]
    subst e
    generalize (s.write i X).syncE = E2 at *
    go_enter Tryz.func43, Tryz.ntmps43
    go_wp2
    go_region_held3 (fun w' => w'.cell? ⟨w.heap.size, 0, none⟩ = some (.int .i64 (n : Int)) ∧ w'.cell? ⟨w.heap.size, 1, none⟩ = some (.string t)) (first | exact ⟨d0, d1⟩ | exact ⟨e0, e1⟩ | exact ⟨f0, f1⟩ | exact ⟨g0, g1⟩)
      (first
        | (go_at_call 85; refine (C1 _).mono ?_; rintro e w3 ⟨rfl, hB⟩; have HB3 := Lib.hid (HB0.out.trans (hB.mono HB0.out.size)); have HO3 := Lib.hid (keeps_of hB HO.out); have e0 := numO.c0 HO3.out; have e1 := numO.c1 HO3.out; clear hB)
        | (go_at_call 86; refine (C2 _).mono ?_; rintro e w4 ⟨rfl, hB⟩; have HB4 := Lib.hid (HB3.out.trans (hB.mono HB3.out.size)); have HO4 := Lib.hid (keeps_of hB HO3.out); have f0 := numO.c0 HO4.out; have f1 := numO.c1 HO4.out; clear hB)
        | (go_at_call 41; refine (C3 _ (HH.out.below HB4.out)).mono ?_; rintro e w5 ⟨rfl, h5, s5⟩; have H5 := Lib.hid h5; have S5 := Lib.hid ((Stir.of_below (F := Foot b g m) HB4.out).trans s5 (fun i e => .inl e)); have HO5 := Lib.hid (s5.keep HO4.out (fun hf => by have := HH.out.lt hf; omega)); have g0 := numO.c0 HO5.out; have g1 := numO.c1 HO5.out; clear h5 s5))
    all_goals (
      go_wp2_with fail
      refine (C4 _ H5.out).mono ?_
      rintro e w6 ⟨rfl, h6, s6⟩
      have H6 := Lib.hid h6
      have S6 := Lib.hid (S5.out.trans s6 (fun i e => .inl e))
      clear h6 s6
      go_wp2
      go_ret
      exact ⟨rfl, H6.out, S6.out⟩)
  · rw [if_neg e]
    have hne : (E != 0) = true := by simpa using e
    go_enter Tryz.func43, Tryz.ntmps43
    go_wp2
    go_region_held3 (fun w' => w'.cell? ⟨w.heap.size, 0, none⟩ = some (.int .i64 (n : Int)) ∧ w'.cell? ⟨w.heap.size, 1, none⟩ = some (.string t)) (first | exact ⟨d0, d1⟩ | exact ⟨e0, e1⟩ | exact ⟨f0, f1⟩ | exact ⟨g0, g1⟩)
      (first
        | (go_at_call 85; refine (C1 _).mono ?_; rintro e w3 ⟨rfl, hB⟩; have HB3 := Lib.hid (HB0.out.trans (hB.mono HB0.out.size)); have HO3 := Lib.hid (keeps_of hB HO.out); have e0 := numO.c0 HO3.out; have e1 := numO.c1 HO3.out; clear hB)
        | (go_at_call 86; refine (C2 _).mono ?_; rintro e w4 ⟨rfl, hB⟩; have HB4 := Lib.hid (HB3.out.trans (hB.mono HB3.out.size)); have HO4 := Lib.hid (keeps_of hB HO3.out); have f0 := numO.c0 HO4.out; have f1 := numO.c1 HO4.out; clear hB)
        | (go_at_call 41; refine (C3 _ (HH.out.below HB4.out)).mono ?_; rintro e w5 ⟨rfl, h5, s5⟩; have H5 := Lib.hid h5; have S5 := Lib.hid ((Stir.of_below (F := Foot b g m) HB4.out).trans s5 (fun i e => .inl e)); have HO5 := Lib.hid (s5.keep HO4.out (fun hf => by have := HH.out.lt hf; omega)); have g0 := numO.c0 HO5.out; have g1 := numO.c1 HO5.out; clear h5 s5))
    all_goals (
      go_wp2
      go_ret
      exact ⟨rfl, H5.out, S5.out⟩)
end
end Go.Proofs.YtmloljjllmmkoaaGreat

namespace Go.Proofs.YtmloljjllmmkoaaGreat
open Go.RowKit Go Go.Maps SM

theorem bwrite_any (B b : Nat) (bs : List Value) (s : ByteArray) (w : World) (h : Lib.IsBuilder 125 5 B b bs w) (hlen : bs.length + s.size ≤ 140737488355328) (hBw : B ≤ w.heap.size) :
    Calls Tryz.prog 63 #[.pointer (some ⟨b, 0, none⟩), .string s] w fun e w' => e = .returned (.tuple #[.int .i64 s.size, .nilIface]) ∧ (Lib.BuilderAt 125 5 B b (.pointer (some ⟨b, 0, none⟩)) (bs ++ Lib.strCells s) w' ∧ Below B w w') :=
  Any.Builder_WriteString { Tryz.lays105 with } extra B b bs s w h hlen hBw
theorem bstring_any (B b : Nat) (l : List UInt8) (w : World) (h : Lib.IsBuilder 125 5 B b (Lib.byteCells l) w) (h0 : l ≠ []) :
    Calls Tryz.prog 64 #[.pointer (some ⟨b, 0, none⟩)] w fun e w' => e = .returned (.string ⟨l.toArray⟩) ∧ Below B w w' :=
  Any.Builder_String { Tryz.lays105 with } extra B b l w h h0
theorem len_loads {s : DS} (h : s.Ok) (f : Nat) : ∀ k i, (loads s f k i).2.length ≤ 64 * k
  | 0, _ => by simp [loads]
  | k + 1, i => by
    by_cases he : s.readE ((f + i : Nat) : Int) = 0
    · rw [loads_go he]
      have h1 := len_loads h f k (i + 1)
      have h2 := h.readS_size he
      rw [List.length_append, len_of, h2]
      omega
    · rw [loads_stop he]; simp
section
variable {base l b g m c : Nat} {F : Nat → Prop} {x : VS} {w w' : World}
/-- what load tells -/
def loadedV (p : Int × List UInt8) : Value := if p.1 = 0 then .tuple #[.string (bsL p.2), .int .i64 0] else .tuple #[.string ⟨#[]⟩, .int .i64 p.1]
set_option maxRecDepth 100000 in
set_option maxHeartbeats 2000000 in
theorem vload_any (h : VolAt base l b g m c F x w) (v : Nat) (hv : v ≤ 1048576) :
    Calls Tryz.prog 164 #[.pointer (some ⟨l, 0, none⟩), .int .i64 v] w fun e w' => e = .returned (loadedV (loadV x.disk v)) ∧ Below w.heap.size w w' := by
  obtain ⟨R, hR⟩ : ∃ R, loadV x.disk v = R := ⟨_, rfl⟩
  rw [hR]
  have HR := Lib.hid hR
  have H := Lib.hid h
  have hok := h.disk.1
  obtain ⟨s, hs⟩ : ∃ s, x.disk = s := ⟨_, rfl⟩
  rw [hs] at HR hok
  have HS := Lib.hid hs
  obtain ⟨w0, hw0⟩ : ∃ w0, w.alloc (.cells #[.pointer none, .slice none 0 0] 125) = w0 := ⟨_, rfl⟩
  have HB0 := Lib.hid (show Below w.heap.size w w0 by rw [← hw0]; exact (Below.refl _ w).alloc (Nat.le_refl _) _)
  have HI0 := Lib.hid (show Lib.IsBuilder 125 5 w.heap.size w.heap.size (Lib.byteCells []) w0 by rw [← hw0]; exact Lib.fresh_isBuilder _ _ w)
  have HOK := Lib.hid hok
  clear h hR hs hok
  go_enter Tryz.func164, Tryz.ntmps164
  go_wp2
  go_loopw [10] (fun i wr => ∃ (j : Nat) (L : List UInt8), j ≤ 4 ∧ i = .int .i64 j ∧ Hid (R = ((loads s (4 * v) (4 - j) j).1, L ++ (loads s (4 * v) (4 - j) j).2)) ∧ L.length = 64 * j ∧ Hid (Lib.IsBuilder 125 5 w.heap.size w.heap.size (Lib.byteCells L) wr) ∧ Hid (Below w.heap.size w wr)) (fun i _ => 4 - (intOf i).toNat)
  case atStart => exact ⟨0, [], by omega, rfl, Lib.hid (by rw [← HR.out, loadV]; simp), rfl, HI0, HB0⟩
  case round =>
    clear HB0 HI0 hw0
    obtain ⟨j, L, hj, rfl, HQ, hl, HI, HB⟩ := hrel
    have H1 := Lib.hid (H.out.below HB.out)
    by_cases hlt : j < 4
    · have hji : (j : Int) < 4 := by omega
      have c0 := VObj.c0 H1.out.obj
      have C2 := read_any H1.out.disk ((v : Int) * 4 + (j : Int)) ⟨by omega, by omega⟩
      rw [HS.out, show (v : Int) * 4 + (j : Int) = ((4 * v + j : Nat) : Int) by omega] at C2
      have hi2 : (v : Int) * 4 + (j : Int) = ((4 * v + j : Nat) : Int) := by omega
      have h4 : 4 - j = (4 - (j + 1)) + 1 := by omega
      by_cases hE : s.readE ((4 * v + j : Nat) : Int) = 0
      · have HQ2 := Lib.hid (show R = ((loads s (4 * v) (4 - (j + 1)) (j + 1)).1, (L ++ (s.readS ((4 * v + j : Nat) : Int)).data.toList) ++ (loads s (4 * v) (4 - (j + 1)) (j + 1)).2) by
          rw [HQ.out, h4, loads_go hE, List.append_assoc])
        have hsz := HOK.out.readS_size hE
        rw [hE] at C2
        generalize s.readS ((4 * v + j : Nat) : Int) = Y at *
        have hll := Lib.hid (show (L ++ Y.data.toList).length = 64 * (j + 1) by rw [List.length_append, len_of, hsz, hl]; omega)
        have HL := Lib.hid hl
        rw [← hi2] at C2
        clear hE h4 hi2 HQ hl
        go_wp2_with fail
        refine C2.mono ?_
        rintro e w2 ⟨rfl, hB2⟩
        have HB2 := Lib.hid (HB.out.trans (hB2.mono HB.out.size))
        have hI2 : Lib.IsBuilder 125 5 w.heap.size w.heap.size (Lib.byteCells L) w2 := by
          have hb := HI.out
          have hkeep : ∀ p, Lib.BuilderAt 125 5 w.heap.size w.heap.size p (Lib.byteCells L) wr → Lib.BuilderAt 125 5 w.heap.size w.heap.size p (Lib.byteCells L) w2 := fun p hp => by
            obtain ⟨a1, u, a2, a3, a4⟩ := hp
            exact ⟨a1, u, keeps_of hB2 a2, owns_below a3 hB2, a4⟩
          rcases hb with hb | hb
          · exact .inl (hkeep _ hb)
          · exact .inr (hkeep _ hb)
        have C3 := bwrite_any w.heap.size w.heap.size (Lib.byteCells L) Y w2 hI2 (by rw [Lib.byteCells_length, HL.out, hsz]; omega) HB2.out.size
        clear hB2 C2 hI2 c0 H1
        go_wp2_with fail
        refine C3.mono ?_
        rintro e w3 ⟨rfl, hb3, hB3⟩
        have HB3 := Lib.hid (HB2.out.trans hB3)
        have HI3 := Lib.hid (show Lib.IsBuilder 125 5 w.heap.size w.heap.size (Lib.byteCells (L ++ Y.data.toList)) w3 by
          rw [Lib.strCells_eq] at hb3
          have e : Lib.byteCells (L ++ Y.data.toList) = Lib.byteCells L ++ Lib.byteCells Y.data.toList := by simp [Lib.byteCells]
          rw [e]
          exact .inr hb3)
        clear hb3 hB3 C3
        go_wp2
        go_roundw
        case rel => exact ⟨j + 1, L ++ Y.data.toList, by omega, by go_num, HQ2, hll.out, HI3, HB3⟩
        case measure => simp [intOf]; omega
      · have HQ2 := Lib.hid (show R.1 = s.readE ((4 * v + j : Nat) : Int) by rw [HQ.out, h4, loads_stop hE])
        have HE := Lib.hid hE
        have hEb : (s.readE ((4 * v + j : Nat) : Int) != 0) = true := by simpa using hE
        generalize s.readE ((4 * v + j : Nat) : Int) = E at *
        generalize s.readS ((4 * v + j : Nat) : Int) = Y at *
        rw [← hi2] at C2
        clear hE h4 hi2 HQ hl
        go_wp2_with fail
        refine C2.mono ?_
        rintro e w2 ⟨rfl, hB2⟩
        have HB2 := Lib.hid (HB.out.trans (hB2.mono HB.out.size))
        clear hB2 C2 H1
        go_wp2
        go_ret2
        exact ⟨by rw [loadedV, if_neg (by rw [HQ2.out]; exact HE.out), HQ2.out]; rfl, HB2.out⟩
    · have hji : ¬ (j : Int) < 4 := by omega
      have h0 : 4 - j = 0 := by omega
      have HQ2 := Lib.hid (show R = (0, L) by rw [HQ.out, h0, loads, List.append_nil])
      have C3 := bstring_any w.heap.size w.heap.size L wr HI.out (by rintro rfl; simp at hl; omega)
      clear HQ hl HI H1 h0
      go_wp2_with fail
      refine C3.mono ?_
      rintro e w3 ⟨rfl, hB3⟩
      have HB3 := Lib.hid (HB.out.trans hB3)
      clear hB3 C3
      go_wp2
      go_ret2
      exact ⟨by rw [loadedV, HQ2.out, if_pos rfl]; rfl, HB3.out⟩

theorem slice_sec (y : ByteArray) (j : Nat) (h : 64 * j + 64 ≤ y.size) (W : World) :
    (Instr.slice 9 (.string y) (some (.int .i64 ((j : Int) * 64))) (some (.int .i64 (((j : Int) + 1) * 64))) none).run Tryz.prog W = .ok (.string (secB y.data.toList j)) W := by
  have := run_slice_string W 9 y .i64 .i64 ((j : Int) * 64) (((j : Int) + 1) * 64) Tryz.underlying9 (by omega) (by omega) (by omega)
  rw [show ((j : Int) * 64).toNat = 64 * j by omega, show (((j : Int) + 1) * 64).toNat = 64 * j + 64 by omega] at this
  rw [this]
  have e : y.extract (64 * j) (64 * j + 64) = secB y.data.toList j := by
    apply b_ext
    rw [Lib.extract_data, Nat.add_sub_cancel_left, ← secL_full (by rw [len_of]; omega)]
    simp [secB]
  rw [e]
set_option maxRecDepth 100000 in
set_option maxHeartbeats 2000000 in
theorem vstore_any (h : VolAt base l b g m c F x w) (hm : x.disk.made < 1000000000) (v : Nat) (hv : v ≤ 1048576) (y : ByteArray) (hy : y.size = 256) :
    Calls Tryz.prog 19 #[.pointer (some ⟨l, 0, none⟩), .int .i64 v, .string y] w fun e w' => e = .returned (.int .i64 (puts (4 * v) y.data.toList 4 0 x.disk).1) ∧ VolAt base l b g m c F { x with disk := (puts (4 * v) y.data.toList 4 0 x.disk).2 } w' ∧ Stir (Foot b g m) w w' := by
  obtain ⟨R, hR⟩ : ∃ R, puts (4 * v) y.data.toList 4 0 x.disk = R := ⟨_, rfl⟩
  rw [hR]
  have HR := Lib.hid hR
  have H := Lib.hid h
  have HY := Lib.hid hy
  have HSL := Lib.hid (fun j hj W => slice_sec y j hj W)
  clear h hR hy
  go_enter Tryz.func19, Tryz.ntmps19
  go_wp2
  go_loopw [9] (fun i wr => ∃ (j : Nat) (sj : DS), j ≤ 4 ∧ i = .int .i64 j ∧ Hid (R = puts (4 * v) y.data.toList (4 - j) j sj) ∧ Hid (VolAt base l b g m c F { x with disk := sj } wr) ∧ Hid (Stir (Foot b g m) w wr) ∧ Hid (sj.made ≤ x.disk.made + j)) (fun i _ => 4 - (intOf i).toNat)
  case atStart => exact ⟨0, x.disk, by omega, rfl, Lib.hid HR.out.symm, H, Lib.hid (Stir.refl _ _), Lib.hid (by omega)⟩
  case round =>
    obtain ⟨j, sj, hj, rfl, HQ, H1, HS, HM⟩ := hrel
    by_cases hlt : j < 4
    · have hji : (j : Int) < 4 := by omega
      have hsl := HSL.out j (by have := HY.out; omega)
      have H1d := Lib.hid (H1.out.below ((Below.refl _ wr).drew))
      have c0 := VObj.c0 H1d.out.obj
      have hi2 : (v : Int) * 4 + (j : Int) = ((4 * v + j : Nat) : Int) := by omega
      have CW := fun W (h : VolAt base l b g m c F { x with disk := sj } W) => write_any h.disk (by have := HM.out; show sj.made < _; omega) ((v : Int) * 4 + (j : Int)) ⟨by omega, by omega⟩ (secB y.data.toList j)
      simp only at CW
      rw [hi2] at CW
      have w1 : IntKind.i64.wrap ((v : Int) * 4) = (v : Int) * 4 := IntWalk.i64_in _ (by omega)
      have w2 : IntKind.i64.wrap ((v : Int) * 4 + (j : Int)) = (v : Int) * 4 + (j : Int) := IntWalk.i64_in _ (by omega)
      have w3 : IntKind.i64.wrap ((j : Int) * 64) = (j : Int) * 64 := IntWalk.i64_in _ (by omega)
      have w4 : IntKind.i64.wrap ((j : Int) + 1) = (j : Int) + 1 := IntWalk.i64_in _ (by omega)
      have w5 : IntKind.i64.wrap (((j : Int) + 1) * 64) = ((j : Int) + 1) * 64 := IntWalk.i64_in _ (by omega)
      have h4 : 4 - j = (4 - (j + 1)) + 1 := by omega
      have hlen := len_write sj ((4 * v + j : Nat) : Int) (secB y.data.toList j)
      have hmade := made_write' sj ((4 * v + j : Nat) : Int) (secB y.data.toList j)
      by_cases hE : sj.writeE ((4 * v + j : Nat) : Int) (secB y.data.toList j) = 0
      · have HQ2 := Lib.hid (show R = puts (4 * v) y.data.toList (4 - (j + 1)) (j + 1) (sj.write ((4 * v + j : Nat) : Int) (secB y.data.toList j)) by rw [HQ.out, h4, puts_go hE])
        rw [hE] at CW
        rw [← hi2] at CW hlen hmade HQ2
        have HLen := Lib.hid hlen
        have HM2 := Lib.hid (show (sj.write ((v : Int) * 4 + (j : Int)) (secB y.data.toList j)).made ≤ x.disk.made + (j + 1) by have := HM.out; omega)
        generalize secB y.data.toList j = Y at *
        generalize sj.write ((v : Int) * 4 + (j : Int)) Y = s2 at *
        clear hE h4 HQ hlen hmade HM hi2
        go_wp2
        go_region_held3 (fun w' => w'.cell? ⟨l, 0, none⟩ = some (.pointer (some ⟨b, 0, none⟩))) (first | exact c0 | exact d0)
          (first
            | (go_at_call 41; refine (CW _ H1d.out).mono ?_; rintro e w5 ⟨rfl, h5, s5⟩; have H5 := Lib.hid (H1d.out.turn h5 s5 HLen.out); have S5 := Lib.hid (HS.out.drew.trans s5 (fun i e => .inl e)); have d0 := VObj.c0 H5.out.obj; clear h5 s5))
        all_goals (
          go_wp2
          go_roundw
          case rel => exact ⟨j + 1, s2, by omega, by go_num, HQ2, H5, S5, HM2⟩
          case measure => simp [intOf]; omega)
      · have HQ2 := Lib.hid (show R = (sj.writeE ((4 * v + j : Nat) : Int) (secB y.data.toList j), sj.write ((4 * v + j : Nat) : Int) (secB y.data.toList j)) by rw [HQ.out, h4, puts_stop hE])
        rw [← hi2] at CW hlen hmade HQ2 hE
        have HLen := Lib.hid hlen
        have hEb : (sj.writeE ((v : Int) * 4 + (j : Int)) (secB y.data.toList j) != 0) = true := by simpa using hE
        generalize secB y.data.toList j = Y at *
        generalize sj.write ((v : Int) * 4 + (j : Int)) Y = s2 at *
        generalize sj.writeE ((v : Int) * 4 + (j : Int)) Y = E at *
        clear hE h4 HQ hlen hmade HM hi2
        go_wp2
        go_region_held3 (fun w' => w'.cell? ⟨l, 0, none⟩ = some (.pointer (some ⟨b, 0, none⟩))) (first | exact c0 | exact d0)
          (first
            | (go_at_call 41; refine (CW _ H1d.out).mono ?_; rintro e w5 ⟨rfl, h5, s5⟩; have H5 := Lib.hid (H1d.out.turn h5 s5 HLen.out); have S5 := Lib.hid (HS.out.drew.trans s5 (fun i e => .inl e)); have d0 := VObj.c0 H5.out.obj; clear h5 s5))
        all_goals (
          go_wp2
          go_ret
          exact ⟨by rw [HQ2.out]; rfl, by rw [HQ2.out]; exact H5.out, S5.out⟩)
    · have hji : ¬ (j : Int) < 4 := by omega
      have h0 : 4 - j = 0 := by omega
      have HQ2 := Lib.hid (show R = (0, sj) by rw [HQ.out, h0, puts_zero])
      clear HQ h0
      go_wp2
      go_ret
      exact ⟨by rw [HQ2.out]; rfl, by rw [HQ2.out]; exact H1.out, HS.out⟩
end
end Go.Proofs.YtmloljjllmmkoaaGreat

namespace Go.Proofs.YtmloljjllmmkoaaGreat
open Go.RowKit Go Go.Maps SM

/-- a volume some steps on: what is kept may stand in other blocks -/
def VSt (base l b g m c : Nat) (F : Nat → Prop) (w0 : World) (x : VS) (w : World) : Prop := ∃ F', VolAt base l b g m c F' x w ∧ Stir (VFoot l b g m F) w0 w ∧ ∀ k, F' k → F k ∨ w0.heap.size ≤ k
section
variable {base l b g m c : Nat} {F F' : Nat → Prop} {x : VS} {w0 w w' : World}
theorem VSt.start (h : VolAt base l b g m c F x w) : VSt base l b g m c F w x w := ⟨F, h, Stir.refl _ _, fun _ h => .inl h⟩
theorem VSt.below (h : VSt base l b g m c F w0 x w) (hB : Below w.heap.size w w') : VSt base l b g m c F w0 x w' := by
  obtain ⟨F', a, b, c⟩ := h
  exact ⟨F', a.below hB, b.and_below hB, c⟩
theorem VSt.turn {s' : DS} (h : VSt base l b g m c F w0 x w) (hd : DiskAt b g m s' w') (hs : Stir (Foot b g m) w w') (hl : s'.stay.length = x.disk.stay.length) : VSt base l b g m c F w0 { x with disk := s' } w' := by
  obtain ⟨F', a, b, c⟩ := h
  exact ⟨F', a.turn hd hs hl, b.trans hs (fun i e => .inl (.inr (.inl e))), c⟩
theorem VSt.step (hs : Stir (VFoot l b g m F) w0 w) (hF : ∀ k, F' k → F k ∨ w0.heap.size ≤ k) (hv : VolAt base l b g m c F' x w) {L : List (Int × ByteArray)} (hl : CI.Left base F' c 32 L w w') : VSt base l b g m c F w0 { x with kept := L } w' := by
  obtain ⟨F'', a, b, c⟩ := hv.keep hl
  refine ⟨F'', a, hs.trans b (fun i e => ?_), fun k hk => ?_⟩
  · rcases hF i e with e | e
    · exact .inl (.inr (.inr e))
    · exact .inr e
  · rcases c k hk with e | e
    · exact hF k e
    · have := hs.size; right; omega
theorem VSt.mark {x' : VS} (h : VSt base l b g m c F w0 x w) (hn : ∀ F', VolAt base l b g m c F' x w → VolAt base l b g m c F' x' w') (hs : Stir (· = l) w w') : VSt base l b g m c F w0 x' w' := by
  obtain ⟨F', a, b, c⟩ := h
  exact ⟨F', hn F' a, b.trans hs (fun i e => .inl (.inl e)), c⟩
theorem Left.same {B room : Nat} {L : List (Int × ByteArray)} (h : CI.Left B F c room L w w') : CI.Left B F c room L w w' := h

set_option maxRecDepth 100000 in
set_option maxHeartbeats 4000000 in
theorem vread_any (h : VolAt base l b g m c F x w) (v : Int) (hv : I64 v) :
    Calls Tryz.prog 162 #[.pointer (some ⟨l, 0, none⟩), .int .i64 v] w fun e w' => e = .returned (.tuple #[.string (x.read v).2.1, .int .i64 (x.read v).1]) ∧ VSt base l b g m c F w (x.read v).2.2 w' := by
  obtain ⟨R, hR⟩ : ∃ R, x.read v = R := ⟨_, rfl⟩
  rw [hR]
  have HR := Lib.hid hR
  have H := Lib.hid h
  have CH := vhas_any h v
  have c3 := VObj.c3 h.obj
  have c4 := VObj.c4 h.obj
  by_cases h1 : x.has v = true
  · rw [h1] at CH
    have hr := has_is.1 h1
    have hb := big_is h.big
    cases hd : x.dead with
    | true =>
      have HR2 := Lib.hid (show R = (2, none0, x) by rw [← hR, VS.read, h1, hd]; rfl)
      rw [hd] at c4
      clear h hR hb hr HR
      go_enter Tryz.func162, Tryz.ntmps162
      go_wp2_with fail
      refine CH.mono ?_
      rintro e w' ⟨rfl, rfl⟩
      go_wp2
      go_ret2
      exact ⟨by rw [HR2.out]; rfl, by rw [HR2.out]; exact VSt.start H.out⟩
    | false =>
      rw [hd] at c4
      have hc : (∃ p, CI.getL x.kept v = some p) ∨ CI.getL x.kept v = none := by
        cases CI.getL x.kept v with
        | none => exact .inr rfl
        | some p => exact .inl ⟨p, rfl⟩
      rcases hc with ⟨p, hg⟩ | hg
      · have HR2 := Lib.hid (show R = (0, p, { x with kept := CI.useL x.kept v }) by rw [← hR, VS.read, h1, hd, hg]; rfl)
        have CG := CI.get_some h.kept hv hg
        have HU := Lib.hid (show CI.useL x.kept v = (v, p) :: CI.dropL x.kept v by rw [CI.useL, hg])
        clear h hR hb hr hg HR
        go_enter Tryz.func162, Tryz.ntmps162
        go_wp2_with fail
        refine CH.mono ?_
        rintro e w' ⟨rfl, rfl⟩
        go_wp2_with fail
        refine CG.mono ?_
        rintro e w1 ⟨rfl, hl1⟩
        rw [← HU.out] at hl1
        have HV1 := Lib.hid (VSt.step (Stir.refl _ _) (fun _ h => .inl h) H.out hl1)
        clear hl1 CG
        go_wp2
        go_ret2
        exact ⟨by rw [HR2.out]; rfl, by rw [HR2.out]; exact HV1.out⟩
      · have CG := CI.get_none h.kept hv hg
        obtain ⟨n, rfl⟩ : ∃ n : Nat, v = (n : Int) := ⟨v.toNat, by omega⟩
        have hn : n ≤ 1048576 := by omega
        have CL := fun F' w (h : VolAt base l b g m c F' x w) => vload_any h n hn
        have hlen := len_loads h.disk.1 (4 * n) 4 0
        obtain ⟨P, hP⟩ : ∃ P, loadV x.disk n = P := ⟨_, rfl⟩
        rw [hP] at CL
        rw [← loadV, hP] at hlen
        have HRR := Lib.hid (show R = if P.1 ≠ 0 then (P.1, none0, { x with dead := P.1 == 2 }) else match unframe (bsL P.2) with
            | some p => (0, p, { x with kept := CI.putL 32 x.kept (n : Int) p })
            | none => (82, none0, x) by
          rw [← hR, VS.read, h1, hd, hg]
          simp only [Int.toNat_natCast, hP]
          rfl)
        have HDd := Lib.hid hd
        clear h hR hb hr hg HR hP
        by_cases hE : P.1 = 0
        · have hu : (∃ p, unframe (bsL P.2) = some p) ∨ unframe (bsL P.2) = none := by
            cases unframe (bsL P.2) with
            | none => exact .inr rfl
            | some p => exact .inl ⟨p, rfl⟩
          have CU := fun w => unframe_any (bsL P.2) (by rw [size_bsL]; omega) w
          unfold loadedV at CL
          rw [if_pos hE] at CL
          unfold unframeV at CU
          rcases hu with ⟨p, hu⟩ | hu
          · have HR2 := Lib.hid (show R = (0, p, { x with kept := CI.putL 32 x.kept (n : Int) p }) by rw [HRR.out, if_neg (by rw [hE]; simp), hu])
            rw [hu] at CU
            simp only at CU
            generalize bsL P.2 = Y at *
            clear HRR hu hlen hE
            go_enter Tryz.func162, Tryz.ntmps162
            go_wp2_with fail
            refine CH.mono ?_
            rintro e w' ⟨rfl, rfl⟩
            go_wp2_with fail
            refine CG.mono ?_
            rintro e w1 ⟨rfl, hl1⟩
            obtain ⟨F1, hv1, hs1, hF1⟩ := VSt.step (Stir.refl _ _) (fun _ h => .inl h) H.out hl1
            have HV1 := Lib.hid (show VolAt base l b g m c F1 x w1 from hv1)
            have HS1 := Lib.hid hs1
            have HF1 := Lib.hid hF1
            clear hl1 hv1 hs1 hF1 CG
            go_wp2_with fail
            refine (CL _ _ HV1.out).mono ?_
            rintro e w2 ⟨rfl, hB2⟩
            have HV2 := Lib.hid (HV1.out.below hB2)
            have HS2 := Lib.hid (HS1.out.and_below hB2)
            clear hB2 CL
            go_wp2_with fail
            refine (CU _).mono ?_
            rintro e w3 ⟨rfl, hB3⟩
            have HV3 := Lib.hid (HV2.out.below hB3)
            have HS3 := Lib.hid (HS2.out.and_below hB3)
            have d3 := VObj.c3 HV3.out.obj
            have CP := CI.put_any HV3.out.kept hv p
            have hpv : ∃ z, CI.putV 32 x.kept (n : Int) p = .tuple z := by
              unfold CI.putV
              cases CI.goneL 32 x.kept (n : Int) p <;> exact ⟨_, rfl⟩
            obtain ⟨z, hz⟩ := hpv
            rw [hz] at CP
            clear hB3 CU hz c3
            go_wp2_with fail
            refine CP.mono ?_
            rintro e w4 ⟨rfl, hl4⟩
            have HV4 := Lib.hid (VSt.step HS3.out HF1.out HV3.out hl4)
            clear hl4 CP
            go_wp2
            go_ret2
            exact ⟨by rw [HR2.out]; rfl, by rw [HR2.out]; exact HV4.out⟩
          · have HR2 := Lib.hid (show R = (82, none0, x) by rw [HRR.out, if_neg (by rw [hE]; simp), hu])
            rw [hu] at CU
            simp only at CU
            generalize bsL P.2 = Y at *
            clear HRR hu hlen hE
            go_enter Tryz.func162, Tryz.ntmps162
            go_wp2_with fail
            refine CH.mono ?_
            rintro e w' ⟨rfl, rfl⟩
            go_wp2_with fail
            refine CG.mono ?_
            rintro e w1 ⟨rfl, hl1⟩
            obtain ⟨F1, hv1, hs1, hF1⟩ := VSt.step (Stir.refl _ _) (fun _ h => .inl h) H.out hl1
            have HV1 := Lib.hid (show VolAt base l b g m c F1 x w1 from hv1)
            have HS1 := Lib.hid hs1
            have HF1 := Lib.hid hF1
            clear hl1 hv1 hs1 hF1 CG
            go_wp2_with fail
            refine (CL _ _ HV1.out).mono ?_
            rintro e w2 ⟨rfl, hB2⟩
            have HV2 := Lib.hid (HV1.out.below hB2)
            have HS2 := Lib.hid (HS1.out.and_below hB2)
            clear hB2 CL
            go_wp2_with fail
            refine (CU _).mono ?_
            rintro e w3 ⟨rfl, hB3⟩
            have HV3 := Lib.hid (HV2.out.below hB3)
            have HS3 := Lib.hid (HS2.out.and_below hB3)
            clear hB3 CU
            go_wp2
            go_ret2
            exact ⟨by rw [HR2.out]; rfl, by rw [HR2.out]; exact ⟨F1, HV3.out, HS3.out, HF1.out⟩⟩
        · have HR2 := Lib.hid (show R = (P.1, none0, { x with dead := P.1 == 2 }) by rw [HRR.out, if_pos hE])
          unfold loadedV at CL
          rw [if_neg hE] at CL
          have hEb : (P.1 != 0) = true := by simpa using hE
          generalize P.1 = E at *
          have CT := fun F' w (h : VolAt base l b g m c F' x w) => vnote_any h E
          clear HRR hlen hE
          go_enter Tryz.func162, Tryz.ntmps162
          go_wp2_with fail
          refine CH.mono ?_
          rintro e w' ⟨rfl, rfl⟩
          go_wp2_with fail
          refine CG.mono ?_
          rintro e w1 ⟨rfl, hl1⟩
          obtain ⟨F1, hv1, hs1, hF1⟩ := VSt.step (Stir.refl _ _) (fun _ h => .inl h) H.out hl1
          have HV1 := Lib.hid (show VolAt base l b g m c F1 x w1 from hv1)
          have HS1 := Lib.hid hs1
          have HF1 := Lib.hid hF1
          clear hl1 hv1 hs1 hF1 CG
          go_wp2_with fail
          refine (CL _ _ HV1.out).mono ?_
          rintro e w2 ⟨rfl, hB2⟩
          have HV2 := Lib.hid (HV1.out.below hB2)
          have HS2 := Lib.hid (HS1.out.and_below hB2)
          clear hB2 CL
          go_wp2_with fail
          refine (CT _ _ HV2.out).mono ?_
          rintro e w3 ⟨rfl, hv3, s3⟩
          have HV3 := Lib.hid hv3
          have HS3 := Lib.hid (HS2.out.trans s3 (fun i e => .inl (.inl e)))
          clear hv3 s3 CT
          go_wp2
          go_ret2
          exact ⟨by rw [HR2.out]; rfl, by rw [HR2.out]; exact ⟨F1, HV3.out, HS3.out, HF1.out⟩⟩
  · have h1' := Bool.eq_false_iff.2 h1
    rw [h1'] at CH
    have HR2 := Lib.hid (show R = (81, none0, x) by rw [← hR, VS.read, h1']; rfl)
    clear h hR h1 h1' HR
    go_enter Tryz.func162, Tryz.ntmps162
    go_wp2_with fail
    refine CH.mono ?_
    rintro e w' ⟨rfl, rfl⟩
    go_wp2
    go_ret2
    exact ⟨by rw [HR2.out]; rfl, by rw [HR2.out]; exact VSt.start H.out⟩
end
end Go.Proofs.YtmloljjllmmkoaaGreat

