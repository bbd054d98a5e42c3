/-
  A log: where a place's sector is; Room.
-/
import Derived.Test.YtmbknpipefbelaaNvD
import Derived.Deep.RegionHeld3
namespace Go.Proofs.Ytmbknpipefbelaa
open Go.RowKit Go Go.Maps SM

section
variable {base l b g m gen : Nat} {v : Value} {B : List UInt8} {dead : Bool} {s : DS} {w w' : World}
theorem DiskAt.drew (h : DiskAt b g m s w) : DiskAt b g m s w.drew := h.stay ((Stir.refl (fun _ => False) w).drew) (fun _ _ h => h)
set_option maxRecDepth 100000 in
theorem lsector_at (h0 : w.heap[l]? = some (LObj b gen v dead)) (hd : DiskAt b g m s w) (hg : gen ≤ 1099511627776) (n : Nat) (hn : n ≤ 1048576) :
    Calls Try.prog 52 #[.pointer (some ⟨l, 0, none⟩), .int .i64 n] w fun e w' => e = .returned (.int .i64 ((halfAt s.stay gen + n / 64 : Nat) : Int)) ∧ Below w.heap.size w w' := by
  have c0 : w.drew.cell? ⟨l, 0, none⟩ = some (.pointer (some ⟨b, 0, none⟩)) := LObj.c0 h0
  have c1 : w.drew.cell? ⟨l, 1, none⟩ = some (.int .i64 gen) := LObj.c1 h0
  have C := half_any hd.drew
  have hle := hd.1.le
  have HE := Lib.hid (show halfAt s.stay gen = 1 + gen % 2 * halfN s from rfl)
  have hN : halfN s ≤ 16384 := by unfold halfN; omega
  generalize halfN s = N at *
  have e1 : (gen : Int) % 2 = ((gen % 2 : Nat) : Int) := by omega
  have e2 : (gen : Int).tmod 2 = ((gen % 2 : Nat) : Int) := by rw [Int.tmod_eq_emod_of_nonneg (by omega)]; omega
  obtain ⟨p, hp⟩ : ∃ p, gen % 2 * N = p := ⟨_, rfl⟩
  have hp2 : p ≤ 16384 := by rw [← hp]; rcases Nat.mod_two_eq_zero_or_one gen with e | e <;> rw [e] <;> omega
  have e3 : ((gen % 2 : Nat) : Int) * (N : Int) = (p : Int) := by rw [← hp]; simp
  have HP := Lib.hid hp
  have k1 := wrapI (p : Int) (by omega) (by omega)
  have k2 := wrapI (1 + (p : Int)) (by omega) (by omega)
  have k3 := wrapI ((n : Int) / 64) (by omega) (by omega)
  have k4 := wrapI (1 + (p : Int) + (n : Int) / 64) (by omega) (by omega)
  generalize gen % 2 = q at *
  clear h0 hd hle hp
  go_enter Try.func52, Try.ntmps52
  go_wp2
  go_region_held3 (fun w' => w'.cell? ⟨l, 0, none⟩ = some (.pointer (some ⟨b, 0, none⟩)) ∧ w'.cell? ⟨l, 1, none⟩ = some (.int .i64 gen)) (exact ⟨c0, c1⟩) (first | (go_at_call 64; refine C.mono ?_; rintro e w3 ⟨rfl, rfl⟩))
  go_wp2
  go_ret
  refine ⟨?_, below_drewN (Below.refl _ w) 1⟩
  rw [HE.out, HP.out]
  exact congrArg (fun z => Ending.returned (Value.int .i64 z)) (by omega)

set_option maxRecDepth 100000 in
theorem room_any (h : LogAt base l b g m v gen B dead s w) :
    Calls Try.prog 24 #[.pointer (some ⟨l, 0, none⟩)] w fun e w' => e = .returned (.int .i64 ((64 * halfN s : Nat) - (B.length : Int))) ∧ Below w.heap.size w w' := by
  obtain ⟨a, c, rfl⟩ := row_shape h.row
  have c0 : w.drew.cell? ⟨l, 0, none⟩ = some (.pointer (some ⟨b, 0, none⟩)) := LObj.c0 h.obj
  have c2 : w.drew.cell? ⟨l, 2, none⟩ = some (.slice a B.length c) := LObj.c2 h.obj
  have C := halfSize_any h.disk.drew
  have hle := h.le
  have hN : 64 * halfN s ≤ 1048576 := by have := h.disk.1.le; unfold halfN; omega
  generalize 64 * halfN s = N at *
  have k1 := wrapI ((N : Int) - (B.length : Int)) (by omega) (by omega)
  clear h
  go_enter Try.func24, Try.ntmps24
  go_wp2
  go_region_held3 (fun w' => w'.cell? ⟨l, 0, none⟩ = some (.pointer (some ⟨b, 0, none⟩)) ∧ w'.cell? ⟨l, 2, none⟩ = some (.slice a B.length c)) (exact ⟨c0, c2⟩) (first | (go_at_call 41; refine C.mono ?_; rintro e w3 ⟨rfl, rfl⟩))
  go_wp2
  go_ret
  exact ⟨rfl, below_drewN (Below.refl _ w) 1⟩
end
end Go.Proofs.Ytmbknpipefbelaa
