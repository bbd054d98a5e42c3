/-
  A volume as plain data: its disk, its root, what it keeps; what each call makes of it.
-/
import Derived.Test.YtknfakaklmpboaaGreatDoorBlkMath
import Derived.Test.YtknfakaklmpboaaGreatDoorNvJ
import Derived.Test.YtknfakaklmpboaaGreatDoorNC
import Derived.Test.YtknfakaklmpboaaGreatDoorCA
namespace Go.Proofs.YtknfakaklmpboaaGreatDoor
open Go

structure VS where
  disk : DS
  text : ByteArray
  num : Nat
  kept : List (Int × ByteArray)
  dead : Bool

/-- how many blocks a disk has; may a volume have so many? -/
def blkN (s : DS) : Nat := s.stay.length / 4
def badV (s : DS) : Bool := decide (blkN s < 8) || decide (4096 < blkN s)
def VS.has (x : VS) (v : Int) : Bool := decide (1 ≤ v) && decide (v < (blkN x.disk : Int))
def loadV (s : DS) (v : Nat) : Int × List UInt8 := loads s (4 * v) 4 0
def storeV (s : DS) (v : Nat) (p : ByteArray) : Int × DS := puts (4 * v) (frameL p.data.toList) 4 0 s
def VS.read (x : VS) (v : Int) : Int × ByteArray × VS :=
  if x.has v = false then (81, none0, x) else if x.dead then (2, none0, x) else
  match CI.getL x.kept v with
  | some p => (0, p, { x with kept := CI.useL x.kept v })
  | none =>
    if (loadV x.disk v.toNat).1 ≠ 0 then ((loadV x.disk v.toNat).1, none0, { x with dead := (loadV x.disk v.toNat).1 == 2 }) else
    match unframe (bsL (loadV x.disk v.toNat).2) with
    | some p => (0, p, { x with kept := CI.putL 32 x.kept v p })
    | none => (82, none0, x)
def VS.write (x : VS) (v : Int) (p : ByteArray) : Int × VS :=
  if x.has v = false then (81, x) else if 240 < p.size then (83, x) else if x.dead then (2, x) else
  if (storeV x.disk v.toNat p).1 ≠ 0 then ((storeV x.disk v.toNat p).1, { x with disk := (storeV x.disk v.toNat p).2, kept := CI.dropL x.kept v, dead := (storeV x.disk v.toNat p).1 == 2 })
  else (0, { x with disk := (storeV x.disk v.toNat p).2, kept := CI.putL 32 x.kept v p })
/-- a root is written, and synced -/
def rootPut (t : ByteArray) (n : Nat) (s : DS) : Int × DS := put (n % 2) (rootL t.data.toList n) 0 1 s
def VS.commit (x : VS) (t : ByteArray) : Int × VS :=
  if 40 < t.size then (83, x) else if x.dead then (2, x) else if x.num = 1099511627776 then (80, x) else
  if x.disk.syncE ≠ 0 then (x.disk.syncE, { x with disk := x.disk.sync, dead := x.disk.syncE == 2 }) else
  if (rootPut t (x.num + 1) x.disk.sync).1 ≠ 0 then ((rootPut t (x.num + 1) x.disk.sync).1, { x with disk := (rootPut t (x.num + 1) x.disk.sync).2, dead := (rootPut t (x.num + 1) x.disk.sync).1 == 2 })
  else (0, { x with disk := (rootPut t (x.num + 1) x.disk.sync).2, text := t, num := x.num + 1 })
def vformE (s : DS) (t : ByteArray) : Int := if badV s then 80 else if 40 < t.size then 83 else if s.writeE 0 (zeros 64) ≠ 0 then s.writeE 0 (zeros 64) else (rootPut t 1 (s.write 0 (zeros 64))).1
def vformD (s : DS) (t : ByteArray) : DS := if badV s then s else if 40 < t.size then s else if s.writeE 0 (zeros 64) ≠ 0 then s.write 0 (zeros 64) else (rootPut t 1 (s.write 0 (zeros 64))).2
def vformX (s : DS) (t : ByteArray) : VS := ⟨vformD s t, t, 1, [], false⟩
/-- the error, if there is no root; the newest root so far: its number, its bytes -/
def stepRoot (s : DS) (i : Nat) (a : Int × Nat × ByteArray) : Int × Nat × ByteArray :=
  if s.readE i ≠ 0 then (s.readE i, a.2) else if isRoot (s.readS i) i && decide (a.2.1 < rNum (s.readS i)) then (a.1, rNum (s.readS i), rText (s.readS i)) else a
def roots (s : DS) : Int × Nat × ByteArray := stepRoot s 1 (stepRoot s 0 (80, 0, none0))
def vopenE (s : DS) : Int := if badV s then 80 else if s.dead then 2 else if (roots s).2.1 = 0 then (roots s).1 else 0
def vopenX (s : DS) : VS := ⟨s, (roots s).2.2, (roots s).2.1, [], false⟩
end Go.Proofs.YtknfakaklmpboaaGreatDoor

