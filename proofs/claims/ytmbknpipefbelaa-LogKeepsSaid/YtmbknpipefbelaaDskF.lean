/-
  A disk, told in one word; fixed.
-/
import Derived.Test.YtmbknpipefbelaaDskT
namespace Go.Proofs.Ytmbknpipefbelaa
open Go.RowKit Go Go.Maps SM

section
variable {b g m : Nat} {s : DS} {w w' : World}
theorem read_any (h : DiskAt b g m s w) (n : Int) (hn : I64 n) :
    Calls Try.prog 39 #[.pointer (some ⟨b, 0, none⟩), .int .i64 n] w fun e w' => e = .returned (.tuple #[.string (s.readS n), .int .i64 (s.readE n)]) ∧ Below w.heap.size w w' := by
  obtain ⟨hk, cap, B, cur, D, h⟩ := h
  exact read_at h hk n hn
theorem image_any (h : DiskAt b g m s w) :
    Calls Try.prog 26 #[.pointer (some ⟨b, 0, none⟩)] w fun e w' => e = .returned (.string (img s.stay)) ∧ w = w' := by
  obtain ⟨hk, cap, B, cur, D, h⟩ := h
  exact image_at h hk
theorem sectors_any (h : DiskAt b g m s w) :
    Calls Try.prog 38 #[.pointer (some ⟨b, 0, none⟩)] w fun e w' => e = .returned (.int .i64 s.stay.length) ∧ w = w' := by
  obtain ⟨hk, cap, B, cur, D, h⟩ := h
  exact sectors_at h hk
theorem steps_any (h : DiskAt b g m s w) :
    Calls Try.prog 23 #[.pointer (some ⟨b, 0, none⟩)] w fun e w' => e = .returned (.int .i64 s.made) ∧ w = w' := by
  obtain ⟨hk, cap, B, cur, D, h⟩ := h
  exact steps_at h
theorem dead_any (h : DiskAt b g m s w) :
    Calls Try.prog 13 #[.pointer (some ⟨b, 0, none⟩)] w fun e w' => e = .returned (.bool s.dead) ∧ w = w' := by
  obtain ⟨hk, cap, B, cur, D, h⟩ := h
  exact dead_at h
/-- a world's blocks from B on: the disk's, and what is new -/
def Over (B b g m : Nat) : Prop := B ≤ b ∧ B ≤ g ∧ B ≤ m
theorem Over.foot {B : Nat} (h : Over B b g m) : ∀ k, Foot b g m k → B ≤ k := by
  rintro k (rfl | rfl | rfl)
  · exact h.1
  · exact h.2.1
  · exact h.2.2
theorem step_below {B : Nat} {w0 : World} (h0 : Below B w0 w) (hs : Stir (Foot b g m) w w') (hl : Over B b g m) (hB : B ≤ w.heap.size) : Below B w0 w' := h0.trans (hs.below hl.foot hB)
end

/-! ### the calls whose answers are fixed -/
def fX : ByteArray := sec 120 0
def fY : ByteArray := sec 121 0
def fS0 : DS := fresh (blank 2)
def fS1 : DS := fS0.write 1 fX
def fS2 : DS := fS1.write 0 fY
def fS3 : DS := fS2.crash ⟨#[1]⟩
def fS4 : DS := fS3.revive
def fS5 : DS := fS4.setBad 1 true
theorem f1 : fS0.writeE 1 fX = 0 := by kernel_rfl
theorem f2 : fS1.writeE 0 fY = 0 := by kernel_rfl
theorem f3 : fS2.readS 1 = fX := by kernel_rfl
theorem f4 : fS2.readE 1 = 0 := by kernel_rfl
theorem f5 : img fS2.stay = sec 0 64 := by kernel_rfl
theorem f6 : fS2.crashE = 0 := by kernel_rfl
theorem f7 : fS3.readE 0 = 2 := by kernel_rfl
theorem f8 : img fS4.stay = sec 0 0 ++ fX := by kernel_rfl
theorem f9 : fS4.may 1 = 0 := by kernel_rfl
theorem f10 : fS5.readE 1 = 3 := by kernel_rfl
theorem f11 : fS5.made = 2 := by kernel_rfl
theorem f12 : fS5.writeE 0 ⟨#[]⟩ = 1 := by kernel_rfl
theorem f13 : fS0.made = 0 := by kernel_rfl
theorem f14 : fS1.made = 1 := by kernel_rfl
theorem f15 : fS2.made = 2 := by kernel_rfl

end Go.Proofs.Ytmbknpipefbelaa
