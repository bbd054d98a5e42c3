/-
  A law's calls whose answers are fixed.
-/
import Derived.Test.YteboacjniokfpaaGreatDoorNvN
namespace Go.Proofs.YteboacjniokfpaaGreatDoor
open Go.RowKit Go Go.Maps SM

def abc : ByteArray := ⟨#[97, 98, 99]⟩
def nX0 : LS := ⟨(0 : Int).toNat, [], false, formD (fresh (blank 5)) 0⟩
def nX1 : LS := nX0.app abc
def nX2 : LS := nX1.app (nought 122)
def nX3 : LS := nX2.start 1
def nX4 : LS := nX3.start 1
def nX5 : LS := nX4.app (nought 1301)
theorem n0 : formE (fresh (blank 5)) 0 = 0 := by kernel_rfl
theorem n1 : nX0.room = 128 := by kernel_rfl
theorem n2 : nX0.appE abc = 0 := by kernel_rfl
theorem n3 : nX1.room = 123 := by kernel_rfl
theorem n4 : nX1.appE (nought 122) = 72 := by kernel_rfl
theorem n5 : nX2.recs = [abc] := by kernel_rfl
theorem n6 : nX2.startE 1 = 0 := by kernel_rfl
theorem n7 : nX3.startE 1 = 70 := by kernel_rfl
theorem n8 : nX4.appE (nought 1301) = 71 := by kernel_rfl
theorem n9 : nX5.room = 128 := by kernel_rfl
theorem n10 : nX5.recs = [] := by kernel_rfl
theorem n11 : nX5.gen = 1 := by kernel_rfl
theorem n12 : nX5.dead = false := by kernel_rfl
theorem n13 : nX0.disk.made = 2 := by kernel_rfl

section
variable {w0 w : World}
theorem made_nought (w : World) (k : Nat) (h : k ≤ 1048640) : ∃ M : Array Value, (Instr.makeSlice 74 (.int .i64 (k : Int)) (.int .i64 (k : Int))).run Tryz.prog w = .ok (.slice (some ⟨w.heap.size, 0, none⟩) k k) (w.alloc (.cells M 5)) ∧
    (convert 74 9 (.slice (some ⟨w.heap.size, 0, none⟩) k k)).run Tryz.prog (w.alloc (.cells M 5)) = .ok (.string (nought k)) (w.alloc (.cells M 5)) ∧ Below w.heap.size w (w.alloc (.cells M 5)) :=
  ⟨_, (made_text w k h).1, (made_text w k h).2, (Below.refl _ w).alloc (Nat.le_refl _) _⟩
theorem texts_one (w : World) (x : ByteArray) : TextsAt (w.alloc (.cells #[.string x] 9)) (.slice (some ⟨w.heap.size, 0, none⟩) 1 1) [x] := by
  refine ⟨_, 1, rfl, fun _ => ⟨w.heap.size, 0, rfl, fun j hj => ?_⟩⟩
  obtain rfl : j = 0 := by simpa using hj
  simp
set_option maxRecDepth 100000 in
set_option maxHeartbeats 4000000 in
theorem fixed7_any (w : World) :
    Calls Tryz.prog 21 #[] w fun e w' => e = .returned (.bool true) ∧ Below w.heap.size w w' := by
  have CL := laid_log 5 0 ⟨by decide, by decide⟩ ⟨by decide, by decide⟩ w
  have m0 : nX0.disk.made ≤ 2 := by rw [n13]; exact Nat.le_refl _
  have m1 : nX1.disk.made ≤ 32 := Nat.le_trans (made_app nX0 abc) (by omega)
  have m2 : nX2.disk.made ≤ 62 := Nat.le_trans (made_app nX1 _) (by omega)
  have m3 : nX3.disk.made ≤ 92 := Nat.le_trans (made_start nX2 1) (by omega)
  have m4 : nX4.disk.made ≤ 122 := Nat.le_trans (made_start nX3 1) (by omega)
  have i1 : I64 1 := ⟨by decide, by decide⟩
  have R0 := fun l b g m W (h : LW w l b g m nX0 W) => h.room
  have A0 := fun l b g m W (h : LW w l b g m nX0 W) => h.append (by omega) abc (by decide)
  have R1 := fun l b g m W (h : LW w l b g m nX1 W) => h.room
  have A1 := fun l b g m W (h : LW w l b g m nX1 W) => h.append (by omega) (nought 122) (by rw [size_nought]; omega)
  have K2 := fun l b g m W (h : LW w l b g m nX2 W) => h.records
  have S2 := fun l b g m W (h : LW w l b g m nX2 W) => h.start (by omega) 1 i1
  have S3 := fun l b g m W (h : LW w l b g m nX3 W) => h.start (by omega) 1 i1
  have A4 := fun l b g m W (h : LW w l b g m nX4 W) => h.append (by omega) (nought 1301) (by rw [size_nought]; omega)
  have R5 := fun l b g m W (h : LW w l b g m nX5 W) => h.room
  have K5 := fun l b g m W (h : LW w l b g m nX5 W) => h.records
  have G5 := fun l b g m W (h : LW w l b g m nX5 W) => h.gen
  have D5 := fun l b g m W (h : LW w l b g m nX5 W) => h.ldead
  rw [show nX0.app abc = nX1 from rfl, n2] at A0
  rw [show nX1.app (nought 122) = nX2 from rfl, n4] at A1
  rw [show nX2.start 1 = nX3 from rfl, n6] at S2
  rw [show nX3.start 1 = nX4 from rfl, n7] at S3
  rw [show nX4.app (nought 1301) = nX5 from rfl, n8] at A4
  rw [n1] at R0
  rw [n3] at R1
  rw [n9] at R5
  rw [n5] at K2
  rw [n10] at K5
  rw [n11] at G5
  rw [n12] at D5
  have HLaid : ∀ b g m r a a2 w', Laid w b g m r 5 0 a a2 w' → ∃ l q, a = .pointer (some ⟨l, 0, none⟩) ∧ a2 = .pointer (some ⟨q, 0, none⟩) ∧ LW w l b g m nX0 w' := fun b g m r a a2 w' h => h.lw n0
  have HLd := Lib.hid HLaid
  clear m0 m1 m2 m3 m4 i1 HLaid
  generalize nX0 = x0 at *
  generalize nX1 = x1 at *
  generalize nX2 = x2 at *
  generalize nX3 = x3 at *
  generalize nX4 = x4 at *
  generalize nX5 = x5 at *
  have N1 := fun w => made_nought w 122 (by omega)
  have N2 := fun w => made_nought w 1301 (by omega)
  generalize nought 122 = z1 at *
  generalize nought 1301 = z2 at *
  go_enter Tryz.func21, Tryz.ntmps21
  go_wp2_with fail
  refine CL.mono ?_
  rintro e w1 ⟨b, g, m, r, n, a, a2, rfl, hl, hn⟩
  obtain rfl : n = 5 := by omega
  obtain ⟨l, q, rfl, rfl, h1⟩ := HLd.out _ _ _ _ _ _ _ hl
  have H1 := Lib.hid h1
  clear hl hn h1 CL
  go_wp2_with fail
  refine (R0 _ _ _ _ _ H1.out).mono ?_
  rintro e w2 ⟨rfl, h2, _⟩
  have H2 := Lib.hid h2
  clear h2 R0
  go_wp2_with fail
  refine (A0 _ _ _ _ _ H2.out).mono ?_
  rintro e w3 ⟨rfl, h3, _⟩
  have H3 := Lib.hid h3
  clear h3 A0
  go_wp2_with fail
  refine (R1 _ _ _ _ _ H3.out).mono ?_
  rintro e w4 ⟨rfl, h4, _⟩
  have H4 := Lib.hid h4
  obtain ⟨M1, k1, k2, kB⟩ := N1 w4
  have H4' := Lib.hid (H4.out.later kB)
  have k1' : (Instr.makeSlice 74 (.int .i64 122) (.int .i64 122)).run Tryz.prog w4 = _ := k1
  clear h4 R1 k1 kB
  go_wp2_with fail
  refine (A1 _ _ _ _ _ H4'.out).mono ?_
  rintro e w5 ⟨rfl, h5, _⟩
  have H5 := Lib.hid h5
  clear h5 A1 k1' k2
  go_wp2_with fail
  refine (K2 _ _ _ _ _ H5.out).mono ?_
  rintro e w6 ⟨ka, kc, rfl, ho6, h6, _⟩
  have H6 := Lib.hid h6
  have HO6 := Lib.hid ho6
  clear h6 ho6 K2
  go_wp2_with fail
  refine (S2 _ _ _ _ _ H6.out).mono ?_
  rintro e w7 ⟨rfl, h7, k7⟩
  have H7 := Lib.hid h7
  have HO7 := Lib.hid (k7.owns HO6.out (by decide) (by decide) (by decide))
  clear h7 k7 S2
  go_wp2_with fail
  refine (S3 _ _ _ _ _ H7.out).mono ?_
  rintro e w8 ⟨rfl, h8, k8⟩
  have H8 := Lib.hid h8
  have HO8 := Lib.hid (k8.owns HO7.out (by decide) (by decide) (by decide))
  obtain ⟨M2, k1, k2, kB⟩ := N2 w8
  have H8' := Lib.hid (H8.out.later kB)
  have HO8' := Lib.hid (owns_below HO8.out kB)
  have k1' : (Instr.makeSlice 74 (.int .i64 1301) (.int .i64 1301)).run Tryz.prog w8 = _ := k1
  clear h8 k8 S3 k1 kB
  go_wp2_with fail
  refine (A4 _ _ _ _ _ H8'.out).mono ?_
  rintro e w9 ⟨rfl, h9, k9⟩
  have H9 := Lib.hid h9
  have HO9 := Lib.hid (k9.owns HO8'.out (by decide) (by decide) (by decide))
  obtain ⟨w10, hw10⟩ : ∃ w10, w9.alloc (.cells #[.string ⟨#[97, 98, 99]⟩] 9) = w10 := ⟨_, rfl⟩
  have hB10 : Below w9.heap.size w9 w10 := by rw [← hw10]; exact (Below.refl _ w9).alloc (Nat.le_refl _) _
  have CSm := rsame_any (texts_of_row (owns_below HO9.out hB10)) (show TextsAt w10 (.slice (some ⟨w9.heap.size, 0, none⟩) 1 1) [abc] by rw [← hw10]; exact texts_one w9 abc) (by simp) (by simp)
  have H10 := Lib.hid (H9.out.later hB10)
  clear h9 k9 A4 k1' k2 hB10
  rw [show decide ([abc] = [abc]) = true by simp] at CSm
  change Calls _ _ #[.slice ka 1 kc, .slice (some ⟨w9.heap.size, 0, none⟩) 1 1] _ _ at CSm
  go_wp2_with fail
  refine CSm.mono ?_
  rintro e w11 ⟨rfl, hB11⟩
  have H11 := Lib.hid (H10.out.later hB11)
  clear hB11 CSm
  go_wp2_with fail
  refine (R5 _ _ _ _ _ H11.out).mono ?_
  rintro e w12 ⟨rfl, h12, _⟩
  have H12 := Lib.hid h12
  clear h12 R5
  go_wp2_with fail
  refine (K5 _ _ _ _ _ H12.out).mono ?_
  rintro e w13 ⟨a13, c13, rfl, _, h13, _⟩
  have H13 := Lib.hid h13
  clear h13 K5
  go_wp2_with fail
  refine (G5 _ _ _ _ _ H13.out).mono ?_
  rintro e w' ⟨rfl, rfl⟩
  go_wp2_with fail
  refine (D5 _ _ _ _ _ H13.out).mono ?_
  rintro e w' ⟨rfl, rfl⟩
  go_wp2
  go_ret
  exact ⟨rfl, H13.out.below⟩
end
end Go.Proofs.YteboacjniokfpaaGreatDoor

