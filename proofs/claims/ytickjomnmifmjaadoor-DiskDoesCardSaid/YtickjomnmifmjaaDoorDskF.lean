/-
  A disk, told in one word; fixed.
-/
import Derived.Test.YtickjomnmifmjaaDoorDskT
namespace Go.Proofs.YtickjomnmifmjaaDoor
open Go.RowKit Go Go.Maps SM

section
variable {b g m : Nat} {s : DS} {w w' : World}
theorem read_any (h : DiskAt b g m s w) (n : Int) (hn : I64 n) :
    Calls Tryd.prog 18 #[.pointer (some ⟨b, 0, none⟩), .int .i64 n] w fun e w' => e = .returned (.tuple #[.string (s.readS n), .int .i64 (s.readE n)]) ∧ Below w.heap.size w w' := by
  obtain ⟨hk, cap, B, cur, D, h⟩ := h
  exact read_at h hk n hn
theorem image_any (h : DiskAt b g m s w) :
    Calls Tryd.prog 34 #[.pointer (some ⟨b, 0, none⟩)] w fun e w' => e = .returned (.string (img s.stay)) ∧ w = w' := by
  obtain ⟨hk, cap, B, cur, D, h⟩ := h
  exact image_at h hk
theorem sectors_any (h : DiskAt b g m s w) :
    Calls Tryd.prog 14 #[.pointer (some ⟨b, 0, none⟩)] w fun e w' => e = .returned (.int .i64 s.stay.length) ∧ w = w' := by
  obtain ⟨hk, cap, B, cur, D, h⟩ := h
  exact sectors_at h hk
theorem loose_any (h : DiskAt b g m s w) :
    Calls Tryd.prog 15 #[.pointer (some ⟨b, 0, none⟩)] w fun e w' => e = .returned (.int .i64 s.loose.length) ∧ w = w' := by
  obtain ⟨hk, cap, B, cur, D, h⟩ := h
  exact loose_at h
theorem steps_any (h : DiskAt b g m s w) :
    Calls Tryd.prog 17 #[.pointer (some ⟨b, 0, none⟩)] w fun e w' => e = .returned (.int .i64 s.made) ∧ w = w' := by
  obtain ⟨hk, cap, B, cur, D, h⟩ := h
  exact steps_at h
theorem dead_any (h : DiskAt b g m s w) :
    Calls Tryd.prog 16 #[.pointer (some ⟨b, 0, none⟩)] w fun e w' => e = .returned (.bool s.dead) ∧ w = w' := by
  obtain ⟨hk, cap, B, cur, D, h⟩ := h
  exact dead_at h
/-- a world's blocks from B on: the disk's, and what is new -/
def Over (B b g m : Nat) : Prop := B ≤ b ∧ B ≤ g ∧ B ≤ m
theorem Over.foot {B : Nat} (h : Over B b g m) : ∀ k, Foot b g m k → B ≤ k := by
  rintro k (rfl | rfl | rfl)
  · exact h.1
  · exact h.2.1
  · exact h.2.2
theorem step_below {B : Nat} {w0 : World} (h0 : Below B w0 w) (hs : Stir (Foot b g m) w w') (hl : Over B b g m) (hB : B ≤ w.heap.size) : Below B w0 w' := h0.trans (hs.below hl.foot hB)
end

/-! ### the calls whose answers are fixed -/
def fX : ByteArray := sec 120 0
def fY : ByteArray := sec 121 0
def fS0 : DS := fresh (blank 2)
def fS1 : DS := fS0.write 1 fX
def fS2 : DS := fS1.write 0 fY
def fS3 : DS := fS2.crash ⟨#[1]⟩
def fS4 : DS := fS3.revive
def fS5 : DS := fS4.setBad 1 true
theorem f1 : fS0.writeE 1 fX = 0 := by kernel_rfl
theorem f2 : fS1.writeE 0 fY = 0 := by kernel_rfl
theorem f3 : fS2.readS 1 = fX := by kernel_rfl
theorem f4 : fS2.readE 1 = 0 := by kernel_rfl
theorem f5 : img fS2.stay = sec 0 64 := by kernel_rfl
theorem f6 : fS2.crashE = 0 := by kernel_rfl
theorem f7 : fS3.readE 0 = 2 := by kernel_rfl
theorem f8 : img fS4.stay = sec 0 0 ++ fX := by kernel_rfl
theorem f9 : fS4.may 1 = 0 := by kernel_rfl
theorem f10 : fS5.readE 1 = 3 := by kernel_rfl
theorem f11 : fS5.made = 2 := by kernel_rfl
theorem f12 : fS5.writeE 0 ⟨#[]⟩ = 1 := by kernel_rfl
theorem f13 : fS0.made = 0 := by kernel_rfl
theorem f14 : fS1.made = 1 := by kernel_rfl
theorem f15 : fS2.made = 2 := by kernel_rfl

set_option maxRecDepth 100000 in
set_option maxHeartbeats 2000000 in
theorem fixed_any (w : World) :
    Calls Tryd.prog 13 #[] w fun e w' => e = .returned (.bool true) ∧ Below w.heap.size w w' := by
  have CX : ∀ w, Calls Tryd.prog 21 #[.int .u8 120, .int .i64 0] w fun e w' => e = .returned (.string fX) ∧ Below w.heap.size w w' := fun w => sector_any 120 0 w
  have CY : ∀ w, Calls Tryd.prog 21 #[.int .u8 121, .int .i64 0] w fun e w' => e = .returned (.string fY) ∧ Below w.heap.size w w' := fun w => sector_any 121 0 w
  have CZ : ∀ w, Calls Tryd.prog 21 #[.int .u8 0, .int .i64 0] w fun e w' => e = .returned (.string (sec 0 0)) ∧ Below w.heap.size w w' := fun w => sector_any 0 0 w
  have CW : ∀ w, Calls Tryd.prog 21 #[.int .u8 0, .int .i64 64] w fun e w' => e = .returned (.string (sec 0 64)) ∧ Below w.heap.size w w' := fun w => sector_any 0 64 w
  have HF5 := f5
  have HF8 := f8
  have i0 : I64 0 := ⟨by decide, by decide⟩
  have i1 : I64 1 := ⟨by decide, by decide⟩
  have W1 : ∀ b g m w, DiskAt b g m fS0 w → Calls Tryd.prog 20 #[.pointer (some ⟨b, 0, none⟩), .int .i64 1, .string fX] w fun e w' => e = .returned (.int .i64 0) ∧ DiskAt b g m fS1 w' ∧ Stir (Foot b g m) w w' := fun b g m w h => by
    have := write_any h (by rw [f13]; omega) 1 i1 fX
    rw [f1] at this; exact this
  have W2 : ∀ b g m w, DiskAt b g m fS1 w → Calls Tryd.prog 20 #[.pointer (some ⟨b, 0, none⟩), .int .i64 0, .string fY] w fun e w' => e = .returned (.int .i64 0) ∧ DiskAt b g m fS2 w' ∧ Stir (Foot b g m) w w' := fun b g m w h => by
    have := write_any h (by rw [f14]; omega) 0 i0 fY
    rw [f2] at this; exact this
  have R1 : ∀ b g m w, DiskAt b g m fS2 w → Calls Tryd.prog 18 #[.pointer (some ⟨b, 0, none⟩), .int .i64 1] w fun e w' => e = .returned (.tuple #[.string fX, .int .i64 0]) ∧ Below w.heap.size w w' := fun b g m w h => by
    have := read_any h 1 i1
    rw [f3, f4] at this; exact this
  have I1 : ∀ b g m w, DiskAt b g m fS2 w → Calls Tryd.prog 34 #[.pointer (some ⟨b, 0, none⟩)] w fun e w' => e = .returned (.string (sec 0 64)) ∧ w = w' := fun b g m w h => by
    have := image_any h
    rw [f5] at this; exact this
  have K1 : ∀ b g m w, DiskAt b g m fS2 w → Calls Tryd.prog 29 #[.pointer (some ⟨b, 0, none⟩), .string ⟨#[1]⟩] w fun e w' => e = .returned (.int .i64 0) ∧ DiskAt b g m fS3 w' ∧ Stir (Foot b g m) w w' := fun b g m w h => by
    have := crash_any h (by rw [f15]; omega) (keep := ⟨#[1]⟩) (by decide)
    rw [f6] at this; exact this
  have R2 : ∀ b g m w, DiskAt b g m fS3 w → Calls Tryd.prog 18 #[.pointer (some ⟨b, 0, none⟩), .int .i64 0] w fun e w' => e = .returned (.tuple #[.string (fS3.readS 0), .int .i64 2]) ∧ Below w.heap.size w w' := fun b g m w h => by
    have := read_any h 0 i0
    rw [f7] at this; exact this
  have V1 : ∀ b g m w, DiskAt b g m fS3 w → Calls Tryd.prog 31 #[.pointer (some ⟨b, 0, none⟩)] w fun e w' => e = .returned (.tuple #[]) ∧ DiskAt b g m fS4 w' ∧ Stir (Foot b g m) w w' := fun b g m w h => revive_any h
  have I2 : ∀ b g m w, DiskAt b g m fS4 w → Calls Tryd.prog 34 #[.pointer (some ⟨b, 0, none⟩)] w fun e w' => e = .returned (.string (sec 0 0 ++ fX)) ∧ w = w' := fun b g m w h => by
    have := image_any h
    rw [f8] at this; exact this
  have D1 : ∀ b g m w, DiskAt b g m fS4 w → Calls Tryd.prog 25 #[.pointer (some ⟨b, 0, none⟩), .int .i64 1, .bool true] w fun e w' => e = .returned (.int .i64 0) ∧ DiskAt b g m fS5 w' ∧ Stir (Foot b g m) w w' := fun b g m w h => by
    have := bad_any h 1 i1 true
    rw [f9] at this; exact this
  have R3 : ∀ b g m w, DiskAt b g m fS5 w → Calls Tryd.prog 18 #[.pointer (some ⟨b, 0, none⟩), .int .i64 1] w fun e w' => e = .returned (.tuple #[.string (fS5.readS 1), .int .i64 3]) ∧ Below w.heap.size w w' := fun b g m w h => by
    have := read_any h 1 i1
    rw [f10] at this; exact this
  have S1 : ∀ b g m w, DiskAt b g m fS5 w → Calls Tryd.prog 17 #[.pointer (some ⟨b, 0, none⟩)] w fun e w' => e = .returned (.int .i64 2) ∧ w = w' := fun b g m w h => by
    have := steps_any h
    rw [f11] at this; exact this
  have W3 : ∀ b g m w, DiskAt b g m fS5 w → Calls Tryd.prog 20 #[.pointer (some ⟨b, 0, none⟩), .int .i64 0, .string ⟨#[]⟩] w fun e w' => e = .returned (.int .i64 1) ∧ Stir (Foot b g m) w w' := fun b g m w h => by
    have := write_any h (by rw [f11]; omega) 0 i0 ⟨#[]⟩
    rw [f12] at this; exact this.mono fun e w' h => ⟨h.1, h.2.2⟩
  have N1 : ∀ w, Calls Tryd.prog 11 #[.int .i64 2] w fun e w' => ∃ b g m, e = .returned (.tuple #[.pointer (some ⟨b, 0, none⟩), .int .i64 0]) ∧ DiskAt b g m fS0 w' ∧ (w.heap.size ≤ b ∧ w.heap.size ≤ g ∧ w.heap.size ≤ m) ∧ Below w.heap.size w w' := fun w => new_yes 2 (by omega) (by omega) w
  have N2 := fun w => new_no 0 (by omega) w
  have hX64 : fX.size = 64 := by rw [fX, size_sec]; rfl
  have hZ64 : (sec 0 0).size = 64 := by rw [size_sec]; rfl
  clear HF5 HF8 i0 i1
  generalize fX = X at *
  generalize fY = Y at *
  generalize sec 0 0 = Z at *
  generalize sec 0 64 = ZZ at *
  generalize fS3.readS 0 = q1 at R2
  generalize fS5.readS 1 = q2 at R3
  generalize fS0 = s0 at *
  generalize fS1 = s1 at *
  generalize fS2 = s2 at *
  generalize fS3 = s3 at *
  generalize fS4 = s4 at *
  generalize fS5 = s5 at *
  go_enter Tryd.func13, Tryd.ntmps13
  go_wp2_with fail
  refine (N1 _).mono ?_
  rintro e w1 ⟨b, g, m, rfl, h1, ho, hB1⟩
  have H1 := Lib.hid h1
  have HO := Lib.hid (show Over w.heap.size b g m from ho)
  have HB1 := Lib.hid hB1
  clear h1 ho hB1 N1
  go_wp2_with fail
  refine (N2 _).mono ?_
  rintro e w' ⟨rfl, rfl⟩
  go_wp2_with fail
  refine (CX _).mono ?_
  rintro e w2 ⟨rfl, hB⟩
  have H2 := Lib.hid (H1.out.below hB)
  have HB2 := Lib.hid (HB1.out.trans (hB.mono HB1.out.size))
  clear hB
  go_wp2_with fail
  refine (W1 _ _ _ _ H2.out).mono ?_
  rintro e w3 ⟨rfl, h, hs⟩
  have H3 := Lib.hid h
  have HB3 := Lib.hid (step_below HB2.out hs HO.out HB2.out.size)
  clear h hs W1
  go_wp2_with fail
  refine (CY _).mono ?_
  rintro e w4 ⟨rfl, hB⟩
  have H4 := Lib.hid (H3.out.below hB)
  have HB4 := Lib.hid (HB3.out.trans (hB.mono HB3.out.size))
  clear hB CY
  go_wp2_with fail
  refine (W2 _ _ _ _ H4.out).mono ?_
  rintro e w5 ⟨rfl, h, hs⟩
  have H5 := Lib.hid h
  have HB5 := Lib.hid (step_below HB4.out hs HO.out HB4.out.size)
  clear h hs W2
  go_wp2_with fail
  refine (R1 _ _ _ _ H5.out).mono ?_
  rintro e w6 ⟨rfl, hB⟩
  have H6 := Lib.hid (H5.out.below hB)
  have HB6 := Lib.hid (HB5.out.trans (hB.mono HB5.out.size))
  clear hB R1
  go_wp2_with fail
  refine (I1 _ _ _ _ H6.out).mono ?_
  rintro e w' ⟨rfl, rfl⟩
  go_wp2_with fail
  refine (K1 _ _ _ _ H6.out).mono ?_
  rintro e w7 ⟨rfl, h, hs⟩
  have H7 := Lib.hid h
  have HB7 := Lib.hid (step_below HB6.out hs HO.out HB6.out.size)
  clear h hs K1
  go_wp2_with fail
  refine (R2 _ _ _ _ H7.out).mono ?_
  rintro e w8 ⟨rfl, hB⟩
  have H8 := Lib.hid (H7.out.below hB)
  have HB8 := Lib.hid (HB7.out.trans (hB.mono HB7.out.size))
  clear hB R2
  go_wp2_with fail
  refine (V1 _ _ _ _ H8.out).mono ?_
  rintro e w9 ⟨rfl, h, hs⟩
  have H9 := Lib.hid h
  have HB9 := Lib.hid (step_below HB8.out hs HO.out HB8.out.size)
  clear h hs V1
  go_wp2_with fail
  refine (I2 _ _ _ _ H9.out).mono ?_
  rintro e w' ⟨rfl, rfl⟩
  go_wp2_with fail
  refine (D1 _ _ _ _ H9.out).mono ?_
  rintro e w10 ⟨rfl, h, hs⟩
  have H10 := Lib.hid h
  have HB10 := Lib.hid (step_below HB9.out hs HO.out HB9.out.size)
  clear h hs D1
  go_wp2_with fail
  refine (R3 _ _ _ _ H10.out).mono ?_
  rintro e w11 ⟨rfl, hB⟩
  have H11 := Lib.hid (H10.out.below hB)
  have HB11 := Lib.hid (HB10.out.trans (hB.mono HB10.out.size))
  clear hB R3
  go_wp2_with fail
  refine (CX _).mono ?_
  rintro e w12 ⟨rfl, hB⟩
  have H12 := Lib.hid (H11.out.below hB)
  have HB12 := Lib.hid (HB11.out.trans (hB.mono HB11.out.size))
  clear hB
  go_wp2_with fail
  refine (CW _).mono ?_
  rintro e w13 ⟨rfl, hB⟩
  have H13 := Lib.hid (H12.out.below hB)
  have HB13 := Lib.hid (HB12.out.trans (hB.mono HB12.out.size))
  clear hB
  go_wp2_with fail
  refine (CZ _).mono ?_
  rintro e w14 ⟨rfl, hB⟩
  have H14 := Lib.hid (H13.out.below hB)
  have HB14 := Lib.hid (HB13.out.trans (hB.mono HB13.out.size))
  clear hB
  go_wp2_with fail
  refine (CX _).mono ?_
  rintro e w15 ⟨rfl, hB⟩
  have H15 := Lib.hid (H14.out.below hB)
  have HB15 := Lib.hid (HB14.out.trans (hB.mono HB14.out.size))
  clear hB
  go_wp2_with fail
  refine (S1 _ _ _ _ H15.out).mono ?_
  rintro e w' ⟨rfl, rfl⟩
  go_wp2_with fail
  refine (W3 _ _ _ _ H15.out).mono ?_
  rintro e w16 ⟨rfl, hs⟩
  have HB16 := Lib.hid (step_below HB15.out hs HO.out HB15.out.size)
  clear hs W3
  go_wp2
  go_ret
  exact ⟨rfl, HB16.out⟩
end Go.Proofs.YtickjomnmifmjaaDoor
