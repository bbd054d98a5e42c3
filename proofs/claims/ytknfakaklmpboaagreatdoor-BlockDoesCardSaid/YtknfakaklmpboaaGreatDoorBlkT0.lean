/-
  A volume's fixed calls, as values.
-/
import Derived.Test.YtknfakaklmpboaaGreatDoorBlkSound
import Derived.Test.YtknfakaklmpboaaGreatDoorMC
import Derived.Test.YtknfakaklmpboaaGreatDoorMD
namespace Go.Proofs.YtknfakaklmpboaaGreatDoor
open Go
def tA : ByteArray := ⟨#[97]⟩
def tB : ByteArray := ⟨#[98]⟩
def tX : ByteArray := ⟨#[120]⟩
def fV0 : VS := vformX (fresh (blank 32)) tA
def fV1 : VS := (fV0.write 1 tX).2
def fV2 : VS := (fV1.commit tB).2
def fV3 : VS := (fV2.read 1).2.2
def fV4 : VS := (fV3.read 2).2.2
def fV5 : VS := (fV4.write 0 tX).2
def fV6 : VS := (fV5.write 1 (nought 241)).2
theorem fe0 : vformE (fresh (blank 32)) tA = 0 := by kernel_rfl
theorem fr0 : fV0.text = tA := by kernel_rfl
theorem fn0 : fV0.num = 1 := by kernel_rfl
theorem fe1 : (fV0.write 1 tX).1 = 0 := by kernel_rfl
theorem fe2 : (fV1.commit tB).1 = 0 := by kernel_rfl
theorem fr2 : fV2.text = tB := by kernel_rfl
theorem fn2 : fV2.num = 2 := by kernel_rfl
theorem fe3 : (fV2.read 1).1 = 0 := by kernel_rfl
theorem fs3 : (fV2.read 1).2.1 = tX := by kernel_rfl
theorem fe4 : (fV3.read 2).1 = 82 := by kernel_rfl
theorem fe5 : (fV4.write 0 tX).1 = 81 := by kernel_rfl
theorem fe6 : (fV5.write 1 (nought 241)).1 = 83 := by kernel_rfl
theorem fo6 : vopenE fV6.disk = 0 := by kernel_rfl
theorem fot : (vopenX fV6.disk).text = tB := by kernel_rfl
theorem fon : (vopenX fV6.disk).num = 2 := by kernel_rfl
theorem ffz : (frameB tX).size = 256 := by kernel_rfl
theorem ffu : unframe (frameB tX) = some tX := by kernel_rfl
theorem fbk : blkN fV6.disk = 8 := by kernel_rfl
theorem fm0 : fV0.disk.made = 3 := by kernel_rfl
/-- a block of noughts is none -/
theorem no_frame : unframe ⟨(List.replicate 256 (0 : UInt8)).toArray⟩ = none := by kernel_rfl
end Go.Proofs.YtknfakaklmpboaaGreatDoor

