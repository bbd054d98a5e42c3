/-
  BlkR / BlkS / BlkT.
-/
import Derived.Test.YtmloljjllmmkoaaGreatBA
import Derived.Test.YtmloljjllmmkoaaGreatDigI
import Derived.Test.YtmloljjllmmkoaaGreatNL
import Derived.Deep.RegionLaw
import Derived.Test.YtmloljjllmmkoaaGreatBE
namespace Go.Proofs.YtmloljjllmmkoaaGreat
open Go.RowKit Go Go.Maps SM

theorem rdig_any (s : ByteArray) (hs : s.size ≤ 1048576) (w : World) :
    Calls Tryz.prog 93 #[.string keyB, .string s] w fun e w' => e = .returned (.tuple #[.string (ofB (DG.sum key16 s.data.toList)), .int .i64 0]) ∧ Below w.heap.size w w' := by
  have h := DG.rsum_any keyB s (by decide) (by omega) w
  rw [key_list] at h
  exact h
theorem nought_zeros (k : Nat) : nought k = zeros k := rfl
set_option maxRecDepth 100000 in
theorem rsealed_any (s : ByteArray) (n k : Nat) (hn : n = s.size + k) (hn2 : n ≤ 248) (w : World) :
    Calls Tryz.prog 55 #[.string s, .int .i64 (n : Int)] w fun e w' => e = .returned (.string (ofB (sealL s.data.toList n))) ∧ Below w.heap.size w w' := by
  obtain ⟨m1, m2⟩ := made_text w k (by omega)
  have hk2 : (n : Int) - (s.size : Int) = (k : Int) := by omega
  have HE := Lib.hid (seal_text s n k hn)
  rw [nought_zeros] at m2
  have hz : (zeros k).size = k := size_zeros k
  have hT : (s ++ zeros k).size = n := by rw [ByteArray.size_append, hz, hn]
  have C2 := fun w => rdig_any (s ++ zeros k) (by omega) w
  have hD : (ofB (DG.sum key16 (s ++ zeros k).data.toList)).size = 8 := by rw [ofB_size, DG.sum_length]
  generalize ofB (DG.sum key16 (s ++ zeros k).data.toList) = D at *
  generalize zeros k = Z at *
  have nsum : ¬ 9223372036854775807 < s.size + Z.size := by omega
  have nsum2 : ¬ 9223372036854775807 < (s ++ Z).size + D.size := by omega
  generalize ofB (sealL s.data.toList n) = R at *
  have hn8 : (n : Int) ≤ 248 := by omega
  have hs8 : (s.size : Int) ≤ 248 := by omega
  obtain ⟨w1, hw1⟩ : ∃ w1, w.alloc (.cells (madeCells #[.int .u8 0] k) 5) = w1 := ⟨_, rfl⟩
  have HB1 := Lib.hid (show Below w.heap.size w w1 by rw [← hw1]; exact (Below.refl _ w).alloc (Nat.le_refl _) _)
  rw [hw1] at m1 m2
  clear hT hD hz hn hn2 hw1
  unfold keyB at C2
  go_enter Tryz.func55, Tryz.ntmps55
  go_wp2_with fail
  refine (C2 _).mono ?_
  rintro e w2 ⟨rfl, hB2⟩
  have HB2 := Lib.hid (HB1.out.trans (hB2.mono HB1.out.size))
  clear hB2 C2 m1 m2
  go_wp2
  go_ret
  exact ⟨by rw [← HE.out]; rfl, HB2.out⟩
set_option maxRecDepth 100000 in
theorem rframe_any (p : ByteArray) (hp : p.size ≤ 140737488355328) (w : World) :
    Calls Tryz.prog 25 #[.string p] w fun e w' => e = .returned (frameV p) ∧ Below w.heap.size w w' := by
  unfold frameV
  by_cases h : 240 < p.size
  · rw [if_pos h]
    have hi : (240 : Int) < (p.size : Int) := by omega
    clear h
    go_enter Tryz.func25, Tryz.ntmps25
    go_wp2
    go_ret2
    exact ⟨rfl, Below.refl _ _⟩
  · rw [if_neg h]
    have hi : ¬ (240 : Int) < (p.size : Int) := by omega
    have CN := fun w => rnum_any p.size 2 (by omega) (by omega) w
    have hX : (bsL (leN p.size 2)).size = 2 := by rw [size_bsL, length_leN]
    have hT : (bsL (leN p.size 2) ++ p).size = 2 + p.size := by rw [ByteArray.size_append, hX]
    have CS := fun w => rsealed_any (bsL (leN p.size 2) ++ p) 248 (246 - p.size) (by omega) (by omega) w
    have HE := Lib.hid (show ofB (sealL (bsL (leN p.size 2) ++ p).data.toList 248) = frameB p by rw [frame_text, ofB_list]; rfl)
    have CS' : ∀ w, Calls Tryz.prog 55 #[.string (bsL (leN p.size 2) ++ p), .int .i64 248] w _ := CS
    generalize bsL (leN p.size 2) = X at *
    generalize ofB (sealL (X ++ p).data.toList 248) = R at *
    have nsum : ¬ 9223372036854775807 < X.size + p.size := by omega
    clear hX hT CS h
    go_enter Tryz.func25, Tryz.ntmps25
    go_wp2_with fail
    refine (CN _).mono ?_
    rintro e w1 ⟨rfl, hB1⟩
    have HB1 := Lib.hid hB1
    clear hB1 CN
    go_wp2_with fail
    refine (CS' _).mono ?_
    rintro e w2 ⟨rfl, hB2⟩
    have HB2 := Lib.hid (HB1.out.trans (hB2.mono HB1.out.size))
    clear hB2 CS'
    go_wp2
    go_ret2
    exact ⟨by rw [HE.out]; rfl, HB2.out⟩
set_option maxRecDepth 100000 in
set_option maxHeartbeats 1000000 in
theorem runframe_any (s : ByteArray) (hs : s.size ≤ 140737488355328) (w : World) :
    Calls Tryz.prog 125 #[.string s] w fun e w' => e = .returned (unframeV s) ∧ Below w.heap.size w w' := by
  obtain ⟨V, hV⟩ : ∃ V, unframeV s = V := ⟨_, rfl⟩
  rw [hV]
  by_cases h1 : s.size = 256
  · have C1 := fun w => rval_any (s.extract 0 2) (by rw [ByteArray.size_extract]; omega) w
    rw [cut_two] at C1
    have hb : ((s.size : Int) != 256) = false := by rw [h1]; rfl
    have hsl2 : ∀ W, (Instr.slice 9 (.string s) none (some (.int .i64 2)) none).run Tryz.prog W = .ok (.string (s.extract 0 2)) W := fun W => by
      have := run_slice_string_h (P := Tryz.prog) (w := W) 9 s Tryz.underlying9 .i64 2 (by omega) (by omega)
      exact this
    by_cases h2 : cutN s ≤ 240
    · have hsl : ∀ W, _ := slice_cut s (cutN s) (by omega)
      have hcs : (cutB s).size ≤ 240 := by rw [cutB, ByteArray.size_extract]; omega
      have HV := Lib.hid (show V = if frameB (cutB s) = s then .tuple #[.string (cutB s), .int .i64 0] else .tuple #[.string ⟨#[]⟩, .int .i64 82] by
        rw [← hV, unframeV, unframe]
        by_cases h3 : frameB (cutB s) = s
        · rw [if_pos ⟨h1, h2, h3⟩, if_pos h3]
        · rw [if_neg (fun h => h3 h.2.2), if_neg h3])
      have C3 := fun w => rframe_any (cutB s) (by omega) w
      simp only [frameV, if_neg (show ¬ 240 < (cutB s).size by omega)] at C3
      rw [show s.extract 2 (2 + cutN s) = cutB s from rfl] at hsl
      generalize s.extract 0 2 = S2 at *
      generalize frameB (cutB s) = F at *
      generalize cutB s = C at *
      generalize cutN s = n at *
      have hni : ¬ (240 : Int) < (n : Int) := by omega
      clear h1 h2 hcs hV
      by_cases h3 : F = s
      · have HV2 := Lib.hid (show V = .tuple #[.string C, .int .i64 0] by rw [HV.out, if_pos h3])
        subst h3
        have hE : (F.toList == F.toList) = true := by simp
        have hE2 : (F.toList != F.toList) = false := by simp
        clear HV
        go_enter Tryz.func125, Tryz.ntmps125
        go_wp2_with fail
        refine (C1 _).mono ?_
        rintro e w1 ⟨rfl, rfl⟩
        go_wp2_with fail
        refine (C1 _).mono ?_
        rintro e w1 ⟨rfl, rfl⟩
        clear C1 hsl2
        go_wp2_with fail
        refine (C3 _).mono ?_
        rintro e w3 ⟨rfl, hB3⟩
        have HB3 := Lib.hid hB3
        clear hB3 C3
        go_wp2
        go_ret2
        exact ⟨by rw [HV2.out]; rfl, HB3.out⟩
      · have HV2 := Lib.hid (show V = .tuple #[.string ⟨#[]⟩, .int .i64 82] by rw [HV.out, if_neg h3])
        obtain ⟨hE, hE2⟩ := texts_ne h3
        clear HV h3
        go_enter Tryz.func125, Tryz.ntmps125
        go_wp2_with fail
        refine (C1 _).mono ?_
        rintro e w1 ⟨rfl, rfl⟩
        go_wp2_with fail
        refine (C1 _).mono ?_
        rintro e w1 ⟨rfl, rfl⟩
        clear C1 hsl2
        go_wp2_with fail
        refine (C3 _).mono ?_
        rintro e w3 ⟨rfl, hB3⟩
        have HB3 := Lib.hid hB3
        clear hB3 C3
        go_wp2
        go_ret2
        exact ⟨by rw [HV2.out]; rfl, HB3.out⟩
    · have HV := Lib.hid (show V = .tuple #[.string ⟨#[]⟩, .int .i64 82] by rw [← hV, unframeV, unframe, if_neg (fun h => h2 h.2.1)])
      generalize s.extract 0 2 = S2 at *
      generalize cutN s = n at *
      have hni : (240 : Int) < (n : Int) := by omega
      clear h1 h2 hV
      go_enter Tryz.func125, Tryz.ntmps125
      go_wp2_with fail
      refine (C1 _).mono ?_
      rintro e w1 ⟨rfl, rfl⟩
      clear C1 hsl2
      go_wp2
      go_ret2
      exact ⟨by rw [HV.out]; rfl, Below.refl _ _⟩
  · have HV := Lib.hid (show V = .tuple #[.string ⟨#[]⟩, .int .i64 82] by rw [← hV, unframeV, unframe, if_neg (fun h => h1 h.1)])
    have hb : ((s.size : Int) != 256) = true := by rw [bne_iff_ne]; omega
    clear h1 hV
    go_enter Tryz.func125, Tryz.ntmps125
    go_wp2
    go_ret2
    exact ⟨by rw [HV.out]; rfl, Below.refl _ _⟩

/-! ### a root -/
set_option maxRecDepth 100000 in
set_option maxHeartbeats 2000000 in
theorem rroot_any (n : Nat) (t : ByteArray) (hn : n ≤ 281474976710655) (ht : t.size ≤ 40) (w : World) :
    Calls Tryz.prog 89 #[.string t, .int .i64 n] w fun e w' => e = .returned (.string (rootB t n)) ∧ Below w.heap.size w w' := by
  have C1 := fun w => rnum_any n 6 (by omega) (by omega) w
  have h1 : (bsL (leN n 6)).size = 6 := by rw [size_bsL, length_leN]
  have h2 : (bsL (leN t.size 1)).size = 1 := by rw [size_bsL, length_leN]
  have h3 : ((⟨#[82, 84]⟩ : ByteArray) ++ bsL (leN n 6) ++ bsL (leN t.size 1) ++ t).size = 9 + t.size := by
    rw [ByteArray.size_append, ByteArray.size_append, ByteArray.size_append, h1, h2]; rfl
  have CS := fun w => rsealed_any ((⟨#[82, 84]⟩ : ByteArray) ++ bsL (leN n 6) ++ bsL (leN t.size 1) ++ t) 56 (47 - t.size) (by omega) (by omega) w
  have CS' : ∀ w, Calls Tryz.prog 55 #[.string ((⟨#[82, 84]⟩ : ByteArray) ++ bsL (leN n 6) ++ bsL (leN t.size 1) ++ t), .int .i64 56] w _ := CS
  have HE := Lib.hid (show ofB (sealL ((⟨#[82, 84]⟩ : ByteArray) ++ bsL (leN n 6) ++ bsL (leN t.size 1) ++ t).data.toList 56) = rootB t n by rw [root_text, ofB_list]; rfl)
  generalize ofB (sealL ((⟨#[82, 84]⟩ : ByteArray) ++ bsL (leN n 6) ++ bsL (leN t.size 1) ++ t).data.toList 56) = R at *
  have hwr : IntKind.u8.wrap (t.size : Int) = (t.size : Int) := by show (t.size : Int) % 256 = _; omega
  have hone : bsL (leN t.size 1) = ⟨#[UInt8.ofNat t.size]⟩ := by
    unfold bsL
    rw [leN, leN, show t.size % 256 = t.size by omega]
  have hu8 : ((UInt8.ofNat t.size).toNat : Int) = (t.size : Int) := by
    have : (UInt8.ofNat t.size).toNat = t.size := (by rw [UInt8.toNat_ofNat']; omega)
    rw [this]
  have HCV := Lib.hid (fun (W : World) (q : Nat) (h : W.cell? ⟨q, 0, none⟩ = some (.int .u8 (t.size : Int))) =>
    show (convert 85 9 (.slice (some ⟨q, 0, none⟩) 1 1)).run Tryz.prog W = .ok (.string (bsL (leN t.size 1))) W by
      rw [hone]
      exact run_convert_bytes_back W 85 9 5 ⟨q, 0, none⟩ 1 [UInt8.ofNat t.size] Tryz.underlying85 Tryz.underlying5 Tryz.underlying9 (fun j hj => by
        obtain rfl : j = 0 := by simpa using hj
        rw [Addr.add_lit, Nat.zero_add, h]
        show some (Value.int .u8 (t.size : Int)) = some (.int .u8 ((UInt8.ofNat t.size).toNat : Int))
        rw [hu8]))
  generalize bsL (leN n 6) = X at *
  generalize bsL (leN t.size 1) = Y at *
  have s1 : ((⟨#[82, 84]⟩ : ByteArray) ++ X).size = 8 := by rw [ByteArray.size_append, h1]; rfl
  have s2 : ((⟨#[82, 84]⟩ : ByteArray) ++ X ++ Y).size = 9 := by rw [ByteArray.size_append, s1, h2]
  have n1 : ¬ 9223372036854775807 < ((⟨#[82, 84]⟩ : ByteArray)).size + X.size := by rw [h1]; decide
  have n2 : ¬ 9223372036854775807 < ((⟨#[82, 84]⟩ : ByteArray) ++ X).size + Y.size := by rw [s1, h2]; decide
  have n3 : ¬ 9223372036854775807 < ((⟨#[82, 84]⟩ : ByteArray) ++ X ++ Y).size + t.size := by rw [s2]; omega
  have n4 : ¬ 9223372036854775807 < 9 + t.size := by omega
  clear h3 s1 s2 CS hone hu8
  have HB0 := Lib.hid (show Below w.heap.size w w.drew from (Below.refl _ w).drew)
  obtain ⟨wA, hwA⟩ : ∃ wA, (w.alloc (.cells #[.int .u8 (t.size : Int)] 5)).drew = wA := ⟨_, rfl⟩
  have HBA := Lib.hid (show Below w.heap.size w wA by rw [← hwA]; exact ((Below.refl _ w).alloc (Nat.le_refl _) _).drew)
  have HOA := Lib.hid (show wA.heap[w.heap.size]? = some (.cells #[.int .u8 (t.size : Int)] 5 (0, 0)) by rw [← hwA]; exact heap_alloc_new _ _)
  have hcvA := HCV.out wA w.heap.size (by have := HOA.out; simp [World.cell?, this])
  go_enter Tryz.func89, Tryz.ntmps89
  go_wp2
  go_region_law (first
      | (go_simp; go_at_call 56; refine (C1 _).mono ?_; rintro e w3 ⟨rfl, hB⟩
         first
         | (have HB3 := Lib.hid (HB0.out.trans (hB.mono HB0.out.size)); have hcv := HCV.out (w3.alloc (.cells #[.int .u8 (t.size : Int)] 5)) w3.heap.size (by simp); have HB4 := Lib.hid (HB3.out.alloc HB3.out.size (.cells #[.int .u8 (t.size : Int)] 5)); clear hB)
         | (have HB4 := Lib.hid (HBA.out.trans (hB.mono HBA.out.size)); have hcv := HCV.out w3 w.heap.size (by have := keeps_of hB HOA.out; simp [World.cell?, this]); clear hB))
      | (go_simp; go_at_call 55; refine (CS' _).mono ?_; rintro e w4 ⟨rfl, hB⟩; have HB5 := Lib.hid (HB4.out.trans (hB.mono HB4.out.size)); clear hB))
  all_goals (
    go_wp2
    go_ret
    exact ⟨by rw [HE.out]; rfl, HB5.out⟩)
end Go.Proofs.YtmloljjllmmkoaaGreat

namespace Go.Proofs.YtmloljjllmmkoaaGreat
open Go.RowKit Go Go.Maps SM

def RVO (r : Nat) (t : ByteArray) (n c : Nat) (dead : Bool) : Obj := .cells #[.pointer (some ⟨r, 0, none⟩), .string t, .int .i64 n, .pointer (some ⟨c, 0, none⟩), .bool dead] 64 (0, 0)
def RKO (v : Value) : Obj := .cells #[.int .i64 32, v] 117 (0, 0)
section
variable {q r n c : Nat} {t : ByteArray} {dead : Bool} {w : World}
theorem RVO.c0 (h : w.heap[q]? = some (RVO r t n c dead)) : w.cell? ⟨q, 0, none⟩ = some (.pointer (some ⟨r, 0, none⟩)) := by simp [World.cell?, h, RVO]
theorem RVO.c1 (h : w.heap[q]? = some (RVO r t n c dead)) : w.cell? ⟨q, 1, none⟩ = some (.string t) := by simp [World.cell?, h, RVO]
theorem RVO.c2 (h : w.heap[q]? = some (RVO r t n c dead)) : w.cell? ⟨q, 2, none⟩ = some (.int .i64 n) := by simp [World.cell?, h, RVO]
theorem RVO.c3 (h : w.heap[q]? = some (RVO r t n c dead)) : w.cell? ⟨q, 3, none⟩ = some (.pointer (some ⟨c, 0, none⟩)) := by simp [World.cell?, h, RVO]
theorem RVO.c4 (h : w.heap[q]? = some (RVO r t n c dead)) : w.cell? ⟨q, 4, none⟩ = some (.bool dead) := by simp [World.cell?, h, RVO]
theorem RVO.fr (h : w.heap[q]? = some (RVO r t n c dead)) (i : Nat) : w.frozen? ⟨q, i, none⟩ = false := by simp [World.frozen?, h, RVO]
end
/-- the reference's volume object beside its disk, since a world -/
structure RV (q r c base : Nat) (t : ByteArray) (n : Nat) (dead : Bool) (s : DS) (zs : List Int) (v0 v2 : Value) (w0 w : World) : Prop where
  obj : w.heap[q]? = some (RVO r t n c dead)
  ref : ∃ v1 kp, RefAt r base s zs v0 v1 v2 kp w
  stir : Stir (fun k => k = q ∨ RF r v0 k) w0 w
section
variable {q r n c base : Nat} {t : ByteArray} {dead : Bool} {s : DS} {zs : List Int} {v0 v1 v2 : Value} {kp : ByteArray} {w0 w w' : World}
theorem RefAt.not_vol (h : RefAt r base s zs v0 v1 v2 kp w) (ho : w.heap[q]? = some (RVO r t n c dead)) : ¬ RF r v0 q := by
  rintro (rfl | e)
  · rw [h.obj] at ho; simp [RO, RVO] at ho
  · obtain ⟨C, hC⟩ := owns_block h.st e
    rw [ho] at hC; simp [RVO] at hC
theorem RV.below (h : RV q r c base t n dead s zs v0 v2 w0 w) (hB : Below w.heap.size w w') : RV q r c base t n dead s zs v0 v2 w0 w' := by
  obtain ⟨v1, kp, hr⟩ := h.ref
  exact ⟨keeps_of hB h.obj, ⟨v1, kp, hr.below hB⟩, h.stir.and_below hB⟩
theorem RV.drew (h : RV q r c base t n dead s zs v0 v2 w0 w) : RV q r c base t n dead s zs v0 v2 w0 w.drew := h.below ((Below.refl _ w).drew)
theorem RV.turn {s' : DS} (h : RV q r c base t n dead s zs v0 v2 w0 w) (hd : ∃ v1 kp, RefAt r base s' zs v0 v1 v2 kp w') (hs : Stir (RF r v0) w w') : RV q r c base t n dead s' zs v0 v2 w0 w' := by
  obtain ⟨v1, kp, hr⟩ := h.ref
  exact ⟨hs.keep h.obj (hr.not_vol h.obj), hd, h.stir.trans hs (fun _ e => .inl (.inr e))⟩
theorem RV.stay (h : RV q r c base t n dead s zs v0 v2 w0 w) (hs : Stir (· = q) w w') : (∃ v1 kp, RefAt r base s zs v0 v1 v2 kp w') ∧ Stir (fun k => k = q ∨ RF r v0 k) w0 w' := by
  obtain ⟨v1, kp, hr⟩ := h.ref
  have hbl : ∀ i C e f, w.heap[i]? = some (.cells C e f) → e ≠ 64 → ¬ i = q := fun i C e f hC ht e' => by
    subst e'
    rw [h.obj] at hC
    simp [RVO] at hC
    exact ht hC.2.1.symm
  exact ⟨⟨v1, kp, hs.keep hr.obj (hbl _ _ _ _ hr.obj (by decide)), owns_stay hr.st hs (fun i hi => by obtain ⟨C, hC⟩ := owns_block hr.st hi; exact hbl _ _ _ _ hC (by decide)), owns_stay hr.lo hs (fun i hi => by obtain ⟨C, hC⟩ := owns_block hr.lo hi; exact hbl _ _ _ _ hC (by decide)),
    owns_stay hr.ba hs (fun i hi => by obtain ⟨C, hC⟩ := owns_block hr.ba hi; exact hbl _ _ _ _ hC (by decide)), hr.bads, hr.few, hr.keep, hr.kple, hr.low⟩, h.stir.trans hs (fun i e => .inl (.inl e))⟩
theorem RV.set4 {dead' : Bool} (h : RV q r c base t n dead s zs v0 v2 w0 w) : RV q r c base t n dead' s zs v0 v2 w0 (w.setCell ⟨q, 4, none⟩ (.bool dead')) := by
  obtain ⟨a, b⟩ := h.stay ((Stir.refl (· = q) w).set (b := q) (i := 4) (.inl rfl) (.bool dead'))
  exact ⟨by rw [heap_set h.obj]; simp [RVO], a, b⟩
theorem RV.set1 {t' : ByteArray} (h : RV q r c base t n dead s zs v0 v2 w0 w) : RV q r c base t' n dead s zs v0 v2 w0 (w.setCell ⟨q, 1, none⟩ (.string t')) := by
  obtain ⟨a, b⟩ := h.stay ((Stir.refl (· = q) w).set (b := q) (i := 1) (.inl rfl) (.string t'))
  exact ⟨by rw [heap_set h.obj]; simp [RVO], a, b⟩
theorem RV.set2 {n' : Nat} (h : RV q r c base t n dead s zs v0 v2 w0 w) : RV q r c base t n' dead s zs v0 v2 w0 (w.setCell ⟨q, 2, none⟩ (.int .i64 n')) := by
  obtain ⟨a, b⟩ := h.stay ((Stir.refl (· = q) w).set (b := q) (i := 2) (.inl rfl) (.int .i64 n'))
  exact ⟨by rw [heap_set h.obj]; simp [RVO], a, b⟩
theorem rvtold_any (h : RV q r c base t n dead s zs v0 v2 w0 w) (e : Int) :
    Calls Tryz.prog 26 #[.pointer (some ⟨q, 0, none⟩), .int .i64 e] w fun x w' => x = .returned (.int .i64 e) ∧ RV q r c base t n (dead || (e == 2)) s zs v0 v2 w0 w' := by
  have c4 := RVO.c4 h.obj
  have f4 := RVO.fr h.obj 4
  cases dead with
  | true =>
    have HS := Lib.hid (h.set4 (dead' := true))
    clear h
    go_enter Tryz.func26, Tryz.ntmps26
    go_wp2
    go_ret
    exact ⟨rfl, HS.out⟩
  | false =>
    have HS := Lib.hid (h.set4 (dead' := (e == 2)))
    clear h
    rw [Bool.false_or]
    obtain ⟨d, hd⟩ : ∃ d, (e == 2) = d := ⟨_, rfl⟩
    rw [hd] at HS ⊢
    go_enter Tryz.func26, Tryz.ntmps26
    go_wp2
    go_ret
    exact ⟨rfl, HS.out⟩
set_option maxRecDepth 100000 in
set_option maxHeartbeats 4000000 in
theorem rkeeps_any (h : RV q r c base t n dead s zs v0 v2 w0 w) (hk : s.Ok) (hm : s.made < 1000000000) {t1 : ByteArray} {n1 : Nat} (ht : t1.size ≤ 40) (hn : n1 ≤ 281474976710655) :
    Calls Tryz.prog 46 #[.pointer (some ⟨q, 0, none⟩), .string t1, .int .i64 n1] w fun e w' => e = .returned (.int .i64 (rootPut t1 n1 s).1) ∧ RV q r c base (if (rootPut t1 n1 s).1 = 0 then t1 else t) (if (rootPut t1 n1 s).1 = 0 then n1 else n) (dead || ((rootPut t1 n1 s).1 == 2)) (rootPut t1 n1 s).2 zs v0 v2 w0 w' := by
  have CH := fun w => rroot_any n1 t1 hn ht w
  have hh := rootPut_def ht n1 s
  obtain ⟨R, hR⟩ : ∃ R, rootPut t1 n1 s = R := ⟨_, rfl⟩
  rw [hR] at hh ⊢
  obtain ⟨tT, htT⟩ : ∃ tT, (if R.1 = 0 then t1 else t) = tT := ⟨_, rfl⟩
  obtain ⟨nN, hnN⟩ : ∃ nN, (if R.1 = 0 then n1 else n) = nN := ⟨_, rfl⟩
  rw [htT, hnN]
  have HTN := Lib.hid (And.intro htT hnN)
  clear htT hnN
  have HH := Lib.hid hh
  have hm1 : (n1 : Int) % 2 = ((n1 % 2 : Nat) : Int) := by omega
  have hm2 : (n1 : Int).tmod 2 = ((n1 % 2 : Nat) : Int) := by rw [Int.tmod_eq_emod_of_nonneg (by omega)]; omega
  have hlt2 : ((n1 % 2 : Nat) : Int) < 2 := by omega
  have hlt0 : 0 ≤ ((n1 % 2 : Nat) : Int) := by omega
  clear hR hh
  generalize ((n1 % 2 : Nat) : Int) = i at *
  have CW := fun W v1 kp (h : RefAt r base s zs v0 v1 v2 kp W) => rwrite_at h hk (by omega) i ⟨by omega, by omega⟩ (rootB t1 n1)
  have hmw := made_write' s i (rootB t1 n1)
  have hk2 := hk.write i (rootB t1 n1)
  generalize rootB t1 n1 = X at *
  have CS := fun W v1 kp (h : RefAt r base (s.write i X) zs v0 v1 v2 kp W) => rsync_at h hk2 (by omega)
  have CT := fun W dead s e (h : RV q r c base t n dead s zs v0 v2 w0 W) => rvtold_any h e
  have HD0 := Lib.hid h.drew
  have c0 := RVO.c0 HD0.out.obj
  obtain ⟨E, hE⟩ : ∃ E, s.writeE i X = E := ⟨_, rfl⟩
  rw [hE] at HH CW
  clear h hE hlt2 hlt0 hk hk2
  by_cases hE0 : E = 0
  · subst hE0
    have HH2 := Lib.hid (show R = ((s.write i X).syncE, (s.write i X).sync) by rw [HH.out]; rfl)
    obtain ⟨E2, hE2⟩ : ∃ E2, (s.write i X).syncE = E2 := ⟨_, rfl⟩
    rw [hE2] at HH2 CS
    clear hE2 HH
    go_enter Tryz.func46, Tryz.ntmps46
    go_wp2
    go_region_held3 (fun w' => w'.cell? ⟨q, 0, none⟩ = some (.pointer (some ⟨r, 0, none⟩))) (first | exact c0 | exact d0 | exact e0 | exact f0)
      (first
        | (go_at_call 89; refine (CH _).mono ?_; rintro e w5 ⟨rfl, hB⟩; have H5 := Lib.hid (HD0.out.below hB); have d0 := RVO.c0 H5.out.obj; clear hB)
        | (go_at_call 27; obtain ⟨v1, kp, hr5⟩ := H5.out.ref; refine (CW _ _ _ hr5).mono ?_; rintro e w6 ⟨rfl, h6, s6⟩; have H6 := Lib.hid (H5.out.turn h6 s6); have e0 := RVO.c0 H6.out.obj; clear h6 s6 hr5)
        | (go_at_call 26; refine (CT _ _ _ _ H6.out).mono ?_; rintro e w7 ⟨rfl, h7⟩; have H7 := Lib.hid h7; have f0 := RVO.c0 H7.out.obj; clear h7))
    have h7 := H7.out
    rw [show (dead || ((0 : Int) == 2)) = dead by simp] at h7
    obtain ⟨v1', kp', hr7⟩ := h7.ref
    have C7 := CS _ _ _ hr7
    have H7' := Lib.hid h7
    clear h7 hr7 CH CW CS H7 c0 d0 e0
    by_cases hE2 : E2 = 0
    · subst hE2
      go_wp2_with fail
      refine C7.mono ?_
      rintro e w8 ⟨rfl, h8, s8⟩
      have H8 := Lib.hid (H7'.out.turn h8 s8)
      clear h8 s8 C7
      go_wp2_with fail
      refine (CT _ _ _ _ H8.out).mono ?_
      rintro e w9 ⟨rfl, h9⟩
      have H9 := Lib.hid h9
      have k1 := RVO.c1 H9.out.obj
      have k2 := RVO.c2 H9.out.obj
      have kf := RVO.fr H9.out.obj
      have H10 := Lib.hid (H9.out.set1 (t' := t1))
      have k2' := RVO.c2 H10.out.obj
      have kf' := RVO.fr H10.out.obj
      have H11 := Lib.hid (H10.out.set2 (n' := n1))
      clear h9 CT f0
      go_wp2
      go_ret
      have e1 : tT = t1 := by rw [← HTN.out.1, HH2.out]; rfl
      have e2 : nN = n1 := by rw [← HTN.out.2, HH2.out]; rfl
      refine ⟨by rw [HH2.out]; rfl, ?_⟩
      rw [HH2.out, e1, e2]
      exact H11.out
    · have hEb : (E2 == 0) = false := beq_eq_false_iff_ne.2 hE2
      have HE2 := Lib.hid hE2
      clear hE2
      go_wp2_with fail
      refine C7.mono ?_
      rintro e w8 ⟨rfl, h8, s8⟩
      have H8 := Lib.hid (H7'.out.turn h8 s8)
      clear h8 s8 C7
      go_wp2_with fail
      refine (CT _ _ _ _ H8.out).mono ?_
      rintro e w9 ⟨rfl, h9⟩
      have H9 := Lib.hid h9
      clear h9 CT f0
      go_wp2
      go_ret
      have e1 : tT = t := by rw [← HTN.out.1, HH2.out]; exact if_neg HE2.out
      have e2 : nN = n := by rw [← HTN.out.2, HH2.out]; exact if_neg HE2.out
      refine ⟨by rw [HH2.out]; rfl, ?_⟩
      rw [HH2.out, e1, e2]
      exact H9.out
  · have HH2 := Lib.hid (show R = (E, s.write i X) by rw [HH.out, if_neg hE0])
    have hEb : (E == 0) = false := beq_eq_false_iff_ne.2 hE0
    have HE0 := Lib.hid hE0
    clear HH hE0
    go_enter Tryz.func46, Tryz.ntmps46
    go_wp2
    go_region_held3 (fun w' => w'.cell? ⟨q, 0, none⟩ = some (.pointer (some ⟨r, 0, none⟩))) (first | exact c0 | exact d0 | exact e0 | exact f0)
      (first
        | (go_at_call 89; refine (CH _).mono ?_; rintro e w5 ⟨rfl, hB⟩; have H5 := Lib.hid (HD0.out.below hB); have d0 := RVO.c0 H5.out.obj; clear hB)
        | (go_at_call 27; obtain ⟨v1, kp, hr5⟩ := H5.out.ref; refine (CW _ _ _ hr5).mono ?_; rintro e w6 ⟨rfl, h6, s6⟩; have H6 := Lib.hid (H5.out.turn h6 s6); have e0 := RVO.c0 H6.out.obj; clear h6 s6 hr5)
        | (go_at_call 26; refine (CT _ _ _ _ H6.out).mono ?_; rintro e w7 ⟨rfl, h7⟩; have H7 := Lib.hid h7; have f0 := RVO.c0 H7.out.obj; clear h7))
    clear CH CW CS CT c0 d0 e0
    go_wp2
    go_ret
    have e1 : tT = t := by rw [← HTN.out.1, HH2.out]; exact if_neg HE0.out
    have e2 : nN = n := by rw [← HTN.out.2, HH2.out]; exact if_neg HE0.out
    refine ⟨by rw [HH2.out]; rfl, ?_⟩
    rw [HH2.out, e1, e2]
    exact H7.out
/-- a new volume of the reference: its object, and what it keeps -/
structure RVNew (q r c : Nat) (t : ByteArray) (n : Nat) (w w' : World) : Prop where
  obj : w'.heap[q]? = some (RVO r t n c false)
  kept : w'.heap[c]? = some (RKO (.slice none 0 0))
  low : w.heap.size ≤ q ∧ w.heap.size ≤ c
set_option maxRecDepth 100000 in
theorem rof_any (h : RefAt r base s zs v0 v1 v2 kp w) (hk : s.Ok) :
    Calls Tryz.prog 45 #[.pointer (some ⟨r, 0, none⟩)] w fun e w' => ∃ p E, e = .returned (.tuple #[.pointer p, .int .i64 E]) ∧ ((badV s = true ∧ p = none ∧ E = 80) ∨ (badV s = false ∧ E = 0 ∧ ∃ q c, p = some ⟨q, 0, none⟩ ∧ RVNew q r c none0 0 w w')) ∧ Below w.heap.size w w' := by
  obtain ⟨a0, c00, rfl⟩ := row_shape h.st
  have c0 := RO.c0 h.obj
  have hle := hk.le
  unfold badV blkN
  generalize s.stay.length = N at *
  have hd1 : (N : Int).tdiv 4 = ((N / 4 : Nat) : Int) := by rw [Int.tdiv_eq_ediv_of_nonneg (by omega)]; omega
  have hd2 : (N : Int) / 4 = ((N / 4 : Nat) : Int) := by omega
  have hq : N / 4 ≤ 4096 := by omega
  generalize N / 4 = M at *
  by_cases h1 : M < 8
  · have hi : (M : Int) < 8 := by omega
    have HM := Lib.hid h1
    clear h hk h1
    go_enter Tryz.func45, Tryz.ntmps45
    go_wp2
    go_ret2
    exact ⟨none, 80, rfl, .inl ⟨by simp [HM.out], rfl, rfl⟩, Below.refl _ _⟩
  · have hi : ¬ (M : Int) < 8 := by omega
    have hi2 : ¬ (4096 : Int) < (M : Int) := by omega
    have HM := Lib.hid (And.intro h1 hq)
    have hB : Below w.heap.size w ((w.alloc (RKO (.slice none 0 0))).alloc (RVO r none0 0 w.heap.size false)) := ((Below.refl _ w).alloc (Nat.le_refl _) _).alloc (by simp) _
    have HB := Lib.hid hB
    clear h hk h1 hB
    go_enter Tryz.func45, Tryz.ntmps45
    go_wp2
    go_ret2
    refine ⟨some ⟨w.heap.size + 1, 0, none⟩, 0, rfl, .inr ⟨by have := HM.out; simp; omega, rfl, w.heap.size + 1, rfl, w.heap.size, ?_, ?_, by omega, by omega⟩, HB.out⟩
    · have := heap_alloc_new (w.alloc (RKO (.slice none 0 0))) (RVO r none0 0 w.heap.size false)
      rw [World.size_alloc] at this
      exact this
    · exact heap_alloc_old (heap_alloc_new w (RKO (.slice none 0 0))) _
/-- a new volume of the reference, or none -/
def RVMade (r : Nat) (t : ByteArray) (n : Nat) (p : Option Addr) (E : Int) (w w' : World) : Prop := (E = 0 ∧ ∃ q c, p = some ⟨q, 0, none⟩ ∧ RVNew q r c t n w w') ∨ (E ≠ 0 ∧ p = none)
set_option maxRecDepth 100000 in
set_option maxHeartbeats 4000000 in
theorem rvformat_any (h : RefAt r base s zs v0 v1 v2 kp w) (hk : s.Ok) (hm : s.made < 900000000) (t1 : ByteArray) (ht : t1.size ≤ 140737488355328) :
    Calls Tryz.prog 16 #[.pointer (some ⟨r, 0, none⟩), .string t1] w fun e w' => ∃ p, e = .returned (.tuple #[.pointer p, .int .i64 (vformE s t1)]) ∧ RVMade r t1 1 p (vformE s t1) w w' ∧ (∃ v1' kp', RefAt r base (vformD s t1) zs v0 v1' v2 kp' w') ∧ Stir (RF r v0) w w' := by
  have CO := rof_any h hk
  have H := Lib.hid h
  obtain ⟨E, hE⟩ : ∃ E, vformE s t1 = E := ⟨_, rfl⟩
  obtain ⟨D, hD⟩ : ∃ D, vformD s t1 = D := ⟨_, rfl⟩
  rw [hE, hD]
  cases hb : badV s with
  | true =>
    obtain rfl : 80 = E := by rw [← hE, vformE, hb]; rfl
    obtain rfl : s = D := by rw [← hD, vformD, hb]; rfl
    clear h hE hD
    go_enter Tryz.func16, Tryz.ntmps16
    go_wp2_with fail
    refine CO.mono ?_
    rintro e w1 ⟨p, E1, rfl, hor, hB1⟩
    rcases hor with ⟨_, rfl, rfl⟩ | ⟨e, _⟩
    · have H1 := Lib.hid (H.out.below hB1)
      have S1 := Lib.hid (Stir.of_below (F := RF r v0) hB1)
      clear hB1 CO
      go_wp2
      go_ret2
      exact ⟨none, rfl, .inr ⟨by decide, rfl⟩, ⟨_, _, H1.out⟩, S1.out⟩
    · rw [hb] at e; cases e
  | false =>
    by_cases h2 : 40 < t1.size
    · obtain rfl : 83 = E := by rw [← hE, vformE, hb, if_neg (by decide), if_pos h2]
      obtain rfl : s = D := by rw [← hD, vformD, hb, if_neg (by decide), if_pos h2]
      have h2i : (40 : Int) < (t1.size : Int) := by omega
      clear h hE hD h2
      go_enter Tryz.func16, Tryz.ntmps16
      go_wp2_with fail
      refine CO.mono ?_
      rintro e w1 ⟨p, E1, rfl, hor, hB1⟩
      rcases hor with ⟨e, _⟩ | ⟨_, rfl, q, c, rfl, _⟩
      · rw [hb] at e; cases e
      · have H1 := Lib.hid (H.out.below hB1)
        have S1 := Lib.hid (Stir.of_below (F := RF r v0) hB1)
        clear hB1 CO
        go_wp2
        go_ret2
        exact ⟨none, rfl, .inr ⟨by decide, rfl⟩, ⟨_, _, H1.out⟩, S1.out⟩
    · have h2i : ¬ (40 : Int) < (t1.size : Int) := by omega
      have M := fun w => made_text w 64 (by decide)
      rw [nought_zeros] at M
      have CW := fun W v1 kp (h : RefAt r base s zs v0 v1 v2 kp W) => rwrite_at h hk (by omega) 0 ⟨by decide, by decide⟩ (zeros 64)
      have hm1 := made_write' s 0 (zeros 64)
      have hk1 := hk.write 0 (zeros 64)
      have HEE := Lib.hid (show E = if s.writeE 0 (zeros 64) ≠ 0 then s.writeE 0 (zeros 64) else (rootPut t1 1 (s.write 0 (zeros 64))).1 by rw [← hE, vformE, hb, if_neg (by decide), if_neg h2])
      have HDD := Lib.hid (show D = if s.writeE 0 (zeros 64) ≠ 0 then s.write 0 (zeros 64) else (rootPut t1 1 (s.write 0 (zeros 64))).2 by rw [← hD, vformD, hb, if_neg (by decide), if_neg h2])
      have HBb := Lib.hid hb
      generalize zeros 64 = Z at *
      obtain ⟨E1, hE1⟩ : ∃ E1, s.writeE 0 Z = E1 := ⟨_, rfl⟩
      rw [hE1] at CW HEE HDD
      have CK := fun q c n0 t0 w0 W (h : RV q r c base t0 n0 false (s.write 0 Z) zs v0 v2 w0 W) => rkeeps_any h hk1 (by omega) (t1 := t1) (n1 := 1) (by omega) (by decide)
      obtain ⟨P, hP⟩ : ∃ P, rootPut t1 1 (s.write 0 Z) = P := ⟨_, rfl⟩
      rw [hP] at CK HEE HDD
      generalize s.write 0 Z = s1 at *
      clear h hE hD hb h2 hE1 hP hm1 hk1
      go_enter Tryz.func16, Tryz.ntmps16
      go_wp2_with fail
      refine CO.mono ?_
      rintro e w1 ⟨p, E0, rfl, hor, hB1⟩
      rcases hor with ⟨e, _⟩ | ⟨_, rfl, q, c, rfl, hnew⟩
      · rw [HBb.out] at e; cases e
      · obtain ⟨m1, m2⟩ := M w1
        obtain ⟨wm, hwm⟩ : ∃ wm, w1.alloc (.cells (madeCells #[.int .u8 0] 64) 5) = wm := ⟨_, rfl⟩
        have hBm : Below w1.heap.size w1 wm := by rw [← hwm]; exact (Below.refl _ w1).alloc (Nat.le_refl _) _
        rw [hwm] at m1 m2
        have m1' : (Instr.makeSlice 85 (.int .i64 64) (.int .i64 64)).run Tryz.prog w1 = _ := m1
        have H1 := Lib.hid ((H.out.below hB1).below hBm)
        have HBd := Lib.hid (hB1.trans (hBm.mono hB1.size))
        have HQ := Lib.hid (show wm.heap[q]? = some (RVO r none0 0 c false) from keeps_of hBm hnew.obj)
        have HC := Lib.hid (show wm.heap[c]? = some (RKO (.slice none 0 0)) from keeps_of hBm hnew.kept)
        have HLow := Lib.hid hnew.low
        clear hB1 hBm CO M m1 hnew hwm
        go_wp2_with fail
        refine (CW _ _ _ H1.out).mono ?_
        rintro e w2 ⟨rfl, h2', s2⟩
        obtain ⟨v1', kp', h2'⟩ := h2'
        have hqf : ¬ RF r v0 q := H1.out.not_vol HQ.out
        have hcf : ¬ RF r v0 c := by
          rintro (rfl | e)
          · have := H1.out.obj; rw [HC.out] at this; simp [RO, RKO] at this
          · obtain ⟨C, hC⟩ := owns_block H1.out.st e
            rw [HC.out] at hC; simp [RKO] at hC
        have H2 := Lib.hid (show RV q r c base none0 0 false s1 zs v0 v2 w2 w2 from ⟨s2.keep HQ.out hqf, ⟨_, _, h2'⟩, Stir.refl _ _⟩)
        have S2 := Lib.hid ((Stir.of_below (F := RF r v0) HBd.out).trans s2 (fun i e => .inl e))
        have HC2 := Lib.hid (s2.keep HC.out hcf)
        clear h2' s2 CW hqf hcf m1' m2
        by_cases hE1 : E1 = 0
        · subst hE1
          have HEE2 := Lib.hid (show E = P.1 by rw [HEE.out]; rfl)
          have HDD2 := Lib.hid (show D = P.2 by rw [HDD.out]; rfl)
          have CK2 := CK _ _ _ _ _ _ H2.out
          obtain ⟨tT, htT⟩ : ∃ tT, (if P.1 = 0 then t1 else none0) = tT := ⟨_, rfl⟩
          obtain ⟨nN, hnN⟩ : ∃ nN, (if P.1 = 0 then 1 else 0) = nN := ⟨_, rfl⟩
          rw [htT, hnN, Bool.false_or] at CK2
          have CK3 : Calls Tryz.prog 46 #[.pointer (some ⟨q, 0, none⟩), .string t1, .int .i64 1] w2 _ := CK2
          have HTN := Lib.hid (And.intro htT hnN)
          clear htT hnN CK CK2
          go_wp2_with fail
          refine CK3.mono ?_
          rintro e w3 ⟨rfl, h3⟩
          have H3 := Lib.hid h3
          have S3 := Lib.hid (show Stir (RF r v0) w w3 from S2.out.trans h3.stir (fun i e => by
            rcases e with rfl | e
            · right; exact HLow.out.1
            · exact .inl e))
          have HC3 := Lib.hid (show w3.heap[c]? = some (RKO (.slice none 0 0)) from h3.stir.keep HC2.out (fun e => by
            rcases e with rfl | e
            · have := H2.out.obj; rw [HC2.out] at this; simp [RVO, RKO] at this
            · obtain ⟨v1, kp, hr⟩ := H2.out.ref
              rcases e with rfl | e
              · have := hr.obj; rw [HC2.out] at this; simp [RO, RKO] at this
              · obtain ⟨C, hC⟩ := owns_block hr.st e
                rw [HC2.out] at hC; simp [RKO] at hC))
          clear h3 CK3
          by_cases hP0 : P.1 = 0
          · have HP0 := Lib.hid hP0
            rw [hP0]
            clear hP0
            go_wp2
            go_ret2
            refine ⟨some ⟨q, 0, none⟩, by rw [HEE2.out, HP0.out]; rfl, .inl ⟨by rw [HEE2.out, HP0.out], q, c, rfl, ?_, HC3.out, HLow.out⟩, by rw [HDD2.out]; exact H3.out.ref, S3.out⟩
            have h3 := H3.out.obj
            rw [← HTN.out.1, ← HTN.out.2, HP0.out] at h3
            simpa using h3
          · have HP0 := Lib.hid hP0
            have hEb : (P.1 != 0) = true := by simpa using hP0
            generalize P.1 = E9 at *
            clear hP0
            go_wp2
            go_ret2
            exact ⟨none, by rw [HEE2.out]; rfl, .inr ⟨by rw [HEE2.out]; exact HP0.out, rfl⟩, by rw [HDD2.out]; exact H3.out.ref, S3.out⟩
        · have HEE2 := Lib.hid (show E = E1 by rw [HEE.out, if_pos hE1])
          have HDD2 := Lib.hid (show D = s1 by rw [HDD.out, if_pos hE1])
          have hEb : (E1 == 0) = false := beq_eq_false_iff_ne.2 hE1
          have hEb2 : (E1 != 0) = true := by simpa using hE1
          have HE1 := Lib.hid hE1
          clear hE1 CK
          go_wp2
          go_ret2
          exact ⟨none, by rw [HEE2.out]; rfl, .inr ⟨by rw [HEE2.out]; exact HE1.out, rfl⟩, by rw [HDD2.out]; exact H2.out.ref, S2.out⟩
end
end Go.Proofs.YtmloljjllmmkoaaGreat

namespace Go.Proofs.YtmloljjllmmkoaaGreat
open Go.RowKit Go Go.Maps SM

/-- the blocks of what is kept, by their kinds -/
theorem cach_kinds {base c room : Nat} {F : Nat → Prop} {L : List (Int × ByteArray)} {w : World} (h : CI.Cach base F c room L w) {k : Nat} (hk : F k) :
    (∃ C f, w.heap[k]? = some (.cells C 102 f)) ∨ (∃ es cl, w.heap[k]? = some (.map es cl)) ∨ (∃ C f, w.heap[k]? = some (.cells C 104 f)) := by
  obtain ⟨m', r, T, nd, nx, pv, D, a1, a2, a3, a4, a5⟩ := h
  rcases (a3 k).1 hk with rfl | rfl | hr
  · exact .inl ⟨_, _, a1.obj⟩
  · obtain ⟨es, cl, e, _⟩ := a1.map
    exact .inr (.inl ⟨es, cl, e⟩)
  · exact .inr (.inr ⟨_, _, a1.ring.nodes k hr⟩)
/-- blocks of other kinds stay -/
def VKeep (w w' : World) : Prop := ∃ F : Nat → Prop, Stir F w w' ∧ ∀ i C e f, F i → w.heap[i]? = some (.cells C e f) → (e = 153 ∨ e = 5 ∨ e = 57 ∨ e = 102 ∨ e = 104)
section
variable {w w' : World}
theorem VKeep.of_below (h : Below w.heap.size w w') : VKeep w w' := ⟨fun _ => False, Stir.of_below h, fun _ _ _ _ h => h.elim⟩
theorem VKeep.keep (k : VKeep w w') {i : Nat} {C : Array Value} {e : TypeId} {f : Nat × Nat} (h : w.heap[i]? = some (.cells C e f)) (h1 : e ≠ 153) (h2 : e ≠ 5) (h3 : e ≠ 57) (h4 : e ≠ 102) (h5 : e ≠ 104) : w'.heap[i]? = some (.cells C e f) := by
  obtain ⟨F, hs, hF⟩ := k
  exact hs.keep h (fun hf => by
    rcases hF i _ _ _ hf h with e | e | e | e | e
    · exact h1 e
    · exact h2 e
    · exact h3 e
    · exact h4 e
    · exact h5 e)
theorem vfoot_kinds {base l b g m c : Nat} {F : Nat → Prop} {x : VS} (h : VolAt base l b g m c F x w) {i : Nat} {C : Array Value} {e : TypeId} {f : Nat × Nat} (hf : VFoot l b g m F i) (hC : w.heap[i]? = some (.cells C e f)) : e = 153 ∨ e = 5 ∨ e = 57 ∨ e = 102 ∨ e = 104 := by
  rcases hf with rfl | hf | hf
  · rw [h.obj] at hC
    simp [VObj] at hC
    exact .inr (.inr (.inl hC.2.1.symm))
  · by_cases h1 : e = 153
    · exact .inl h1
    · by_cases h2 : e = 5
      · exact .inr (.inl h2)
      · exact absurd hf (h.disk.not_cells hC h1 h2)
  · rcases cach_kinds h.kept hf with ⟨C', f', e'⟩ | ⟨es, cl, e'⟩ | ⟨C', f', e'⟩
    · rw [hC] at e'
      simp at e'
      exact .inr (.inr (.inr (.inl e'.2.1)))
    · rw [hC] at e'; cases e'
    · rw [hC] at e'
      simp at e'
      exact .inr (.inr (.inr (.inr e'.2.1)))
theorem VolAt.vkeep {base l b g m c : Nat} {F : Nat → Prop} {x : VS} (h : VolAt base l b g m c F x w) (k : Stir (VFoot l b g m F) w w') : VKeep w w' := ⟨_, k, fun _ _ _ _ hf hC => vfoot_kinds h hf hC⟩
theorem DiskAt.vkeep {b g m : Nat} {s : DS} (h : DiskAt b g m s w) (k : Stir (Foot b g m) w w') : VKeep w w' :=
  ⟨_, k, fun i C e f hf hC => by
    by_cases h1 : e = 153
    · exact .inl h1
    · by_cases h2 : e = 5
      · exact .inr (.inl h2)
      · exact absurd hf (h.not_cells hC h1 h2)⟩
end
theorem made_vwrite (x : VS) (v : Int) (p : ByteArray) : (x.write v p).2.disk.made ≤ x.disk.made + 5 := by
  have := (len_storeV x.disk v.toNat p).2
  unfold VS.write
  split
  · exact Nat.le_add_right _ _
  · split
    · exact Nat.le_add_right _ _
    · split
      · exact Nat.le_add_right _ _
      · split
        · show (storeV x.disk v.toNat p).2.made ≤ _; omega
        · show (storeV x.disk v.toNat p).2.made ≤ _; omega
theorem made_vcommit (x : VS) (t : ByteArray) : (x.commit t).2.disk.made ≤ x.disk.made + 5 := by
  have h1 := made_sync' x.disk
  have h2 := (len_rootPut t (x.num + 1) x.disk.sync).2
  unfold VS.commit
  split
  · exact Nat.le_add_right _ _
  · split
    · exact Nat.le_add_right _ _
    · split
      · exact Nat.le_add_right _ _
      · split
        · show x.disk.sync.made ≤ _; omega
        · split
          · show (rootPut t (x.num + 1) x.disk.sync).2.made ≤ _; omega
          · show (rootPut t (x.num + 1) x.disk.sync).2.made ≤ _; omega
theorem made_vread (x : VS) (v : Int) : (x.read v).2.2.disk = x.disk := by
  unfold VS.read
  split
  · rfl
  · split
    · rfl
    · split
      · rfl
      · split
        · rfl
        · split <;> rfl

/-- a volume that a law has made -/
structure VW (w0 : World) (l b g m c : Nat) (x : VS) (w : World) : Prop where
  is : ∃ F, VolAt w0.heap.size l b g m c F x w
  low : w0.heap.size ≤ l
  over : Over w0.heap.size b g m
  below : Below w0.heap.size w0 w
section
variable {w0 w w' : World} {l b g m c : Nat} {x : VS}
theorem VW.later (h : VW w0 l b g m c x w) (hB : Below w.heap.size w w') : VW w0 l b g m c x w' := by
  obtain ⟨F, hv⟩ := h.is
  exact ⟨⟨F, hv.below hB⟩, h.low, h.over, h.below.trans (hB.mono h.below.size)⟩
theorem VW.step {F : Nat → Prop} {x' : VS} (h : VW w0 l b g m c x w) (hv : VolAt w0.heap.size l b g m c F x w) (hs : VSt w0.heap.size l b g m c F w x' w') : VW w0 l b g m c x' w' ∧ VKeep w w' := by
  obtain ⟨F', a, s, _⟩ := hs
  exact ⟨⟨⟨F', a⟩, h.low, h.over, h.below.trans (s.below (fun k hk => by
    rcases hk with rfl | hk | hk
    · exact h.low
    · exact h.over.foot k hk
    · exact hv.kept.low hk) h.below.size)⟩, hv.vkeep s⟩
theorem VW.disk (h : VW w0 l b g m c x w) : DiskAt b g m x.disk w := by
  obtain ⟨F, hv⟩ := h.is
  exact hv.disk
theorem VW.turn {s' : DS} (h : VW w0 l b g m c x w) (hd : DiskAt b g m s' w') (hs : Stir (Foot b g m) w w') (hl : s'.stay.length = x.disk.stay.length) : VW w0 l b g m c { x with disk := s' } w' ∧ VKeep w w' := by
  obtain ⟨F, hv⟩ := h.is
  exact ⟨⟨⟨F, hv.turn hd hs hl⟩, h.low, h.over, step_below h.below hs h.over h.below.size⟩, hv.disk.vkeep hs⟩
theorem VW.read (h : VW w0 l b g m c x w) (v : Int) (hv : I64 v) :
    Calls Tryz.prog 162 #[.pointer (some ⟨l, 0, none⟩), .int .i64 v] w fun e w' => e = .returned (.tuple #[.string (x.read v).2.1, .int .i64 (x.read v).1]) ∧ VW w0 l b g m c (x.read v).2.2 w' ∧ VKeep w w' := by
  obtain ⟨F, hF⟩ := h.is
  exact (vread_any hF v hv).mono fun _ _ hh => ⟨hh.1, h.step hF hh.2⟩
theorem VW.write (h : VW w0 l b g m c x w) (hm : x.disk.made < 900000000) (v : Int) (hv : I64 v) (p : ByteArray) (hp : p.size ≤ 140737488355328) :
    Calls Tryz.prog 5 #[.pointer (some ⟨l, 0, none⟩), .int .i64 v, .string p] w fun e w' => e = .returned (.int .i64 (x.write v p).1) ∧ VW w0 l b g m c (x.write v p).2 w' ∧ VKeep w w' := by
  obtain ⟨F, hF⟩ := h.is
  exact (vwrite_any hF hm v hv p hp).mono fun _ _ hh => ⟨hh.1, h.step hF hh.2⟩
theorem VW.blocks (h : VW w0 l b g m c x w) :
    Calls Tryz.prog 47 #[.pointer (some ⟨l, 0, none⟩)] w fun e w' => e = .returned (.int .i64 (blkN x.disk)) ∧ w = w' := by
  obtain ⟨F, hF⟩ := h.is
  exact vblocks_any hF
end

/-- what a law begins with: the two disks, the two volumes -/
structure VLaid (w : World) (b g m r : Nat) (n : Nat) (t : ByteArray) (p p2 : Option Addr) (w' : World) : Prop where
  one : 1 ≤ n
  le : n ≤ 400
  vol : (vformE (fresh (blank n)) t = 0 ∧ (∃ l c, p = some ⟨l, 0, none⟩ ∧ VW w l b g m c (vformX (fresh (blank n)) t) w') ∧ ∃ q c, p2 = some ⟨q, 0, none⟩ ∧ w.heap.size ≤ q ∧ w.heap.size ≤ c ∧ w'.heap[q]? = some (RVO r t 1 c false) ∧ w'.heap[c]? = some (RKO (.slice none 0 0))) ∨ (vformE (fresh (blank n)) t ≠ 0 ∧ p = none ∧ p2 = none)
  disk : DiskAt b g m (vformD (fresh (blank n)) t) w'
  ref : ∃ zs v0 v1 v2 kp, zs.length ≤ 0 ∧ RefAt r w.heap.size (vformD (fresh (blank n)) t) zs v0 v1 v2 kp w'
  over : Over w.heap.size b g m
  low : w.heap.size ≤ r
  below : Below w.heap.size w w'
end Go.Proofs.YtmloljjllmmkoaaGreat

