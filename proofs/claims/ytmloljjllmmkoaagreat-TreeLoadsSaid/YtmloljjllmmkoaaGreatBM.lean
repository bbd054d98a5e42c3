/-
  BlkMath / BlkState / BlkDisk / BlkSound / BlkV0.
-/
import Derived.Test.YtmloljjllmmkoaaGreatNA
import Derived.Test.YtmloljjllmmkoaaGreatDA
import Derived.Lib.Strings
import Derived.Test.YtmloljjllmmkoaaGreatNvJ
import Derived.Test.YtmloljjllmmkoaaGreatNC
import Derived.Test.YtmloljjllmmkoaaGreatCA
import Derived.Test.YtmloljjllmmkoaaGreatMC
namespace Go.Proofs.YtmloljjllmmkoaaGreat
open Go

def key16 : List UInt8 := [115, 116, 105, 108, 108, 97, 103, 101, 32, 118, 111, 108, 117, 109, 101, 33]
def padL (l : List UInt8) (n : Nat) : List UInt8 := l ++ List.replicate (n - l.length) 0
/-- bytes, noughts behind them, the sum -/
def sealL (l : List UInt8) (n : Nat) : List UInt8 := padL l n ++ DG.sum key16 (padL l n)
theorem length_padL {l : List UInt8} {n : Nat} (h : l.length ≤ n) : (padL l n).length = n := by
  rw [padL, List.length_append, List.length_replicate]; omega
theorem length_sealL {l : List UInt8} {n : Nat} (h : l.length ≤ n) : (sealL l n).length = n + 8 := by
  rw [sealL, List.length_append, length_padL h, DG.sum_length]
theorem sealL_eq (l : List UInt8) (n : Nat) : ∃ r, sealL l n = l ++ r := ⟨_, by rw [sealL, padL, List.append_assoc]⟩
def ofB (l : List UInt8) : ByteArray := ⟨l.toArray⟩
theorem ofB_list (l : List UInt8) : (ofB l).data.toList = l := by simp [ofB]
theorem ofB_size (l : List UInt8) : (ofB l).size = l.length := by simp [ofB, ByteArray.size]
theorem ofB_self (x : ByteArray) : ofB x.data.toList = x := ByteArray.ext (by simp [ofB])
theorem b_ext {x y : ByteArray} (h : x.data.toList = y.data.toList) : x = y := ByteArray.ext (Array.toList_inj.1 h)

/-! ### a block -/
def frameL (p : List UInt8) : List UInt8 := sealL (leN p.length 2 ++ p) 248
def frameB (p : ByteArray) : ByteArray := ofB (frameL p.data.toList)
theorem length_frameL {p : List UInt8} (h : p.length ≤ 240) : (frameL p).length = 256 := length_sealL (by rw [List.length_append, length_leN]; omega)
theorem size_frameB {p : ByteArray} (h : p.size ≤ 240) : (frameB p).size = 256 := by
  rw [frameB, ofB_size, length_frameL (by rw [len_of]; exact h)]
theorem frameL_eq (p : List UInt8) : ∃ r, frameL p = leN p.length 2 ++ (p ++ r) := by
  obtain ⟨r, h⟩ := sealL_eq (leN p.length 2 ++ p) 248
  exact ⟨r, by rw [frameL, h, List.append_assoc]⟩
/-- how many bytes a block says that it carries; these -/
def cutN (x : ByteArray) : Nat := valN (x.data.toList.take 2)
def cutB (x : ByteArray) : ByteArray := x.extract 2 (2 + cutN x)
def unframe (x : ByteArray) : Option ByteArray := if x.size = 256 ∧ cutN x ≤ 240 ∧ frameB (cutB x) = x then some (cutB x) else none
theorem cutB_list (x : ByteArray) : (cutB x).data.toList = (x.data.toList.drop 2).take (cutN x) := by
  rw [cutB, Lib.extract_data, Nat.add_sub_cancel_left]
theorem cut_frame {p : ByteArray} (h : p.size ≤ 240) : cutN (frameB p) = p.size ∧ cutB (frameB p) = p := by
  obtain ⟨r, hr⟩ := frameL_eq p.data.toList
  have hl : (leN p.data.toList.length 2).length = 2 := length_leN _ _
  have h1 : cutN (frameB p) = p.size := by
    rw [cutN, frameB, ofB_list, hr, List.take_append_of_le_length (by omega), List.take_of_length_le (by omega), val_leN 2 _ (by rw [len_of]; omega), len_of]
  refine ⟨h1, b_ext ?_⟩
  rw [cutB_list, h1, frameB, ofB_list, hr, List.drop_append_of_le_length (by omega), List.drop_of_length_le (by omega), List.nil_append, List.take_append_of_le_length (by rw [len_of]; exact Nat.le_refl _), List.take_of_length_le (by rw [len_of]; exact Nat.le_refl _)]
theorem unframe_frame {p : ByteArray} (h : p.size ≤ 240) : unframe (frameB p) = some p := by
  obtain ⟨h1, h2⟩ := cut_frame h
  rw [unframe, if_pos ⟨size_frameB h, by rw [h1]; exact h, by rw [h2]⟩, h2]
theorem unframe_is {x p : ByteArray} (h : unframe x = some p) : x = frameB p ∧ p.size ≤ 240 := by
  unfold unframe at h
  split at h
  · rename_i hc
    obtain rfl := Option.some.inj h
    refine ⟨hc.2.2.symm, ?_⟩
    rw [cutB, ByteArray.size_extract]
    omega
  · cases h

/-! ### a root -/
def rootL (t : List UInt8) (n : Nat) : List UInt8 := sealL ([82, 84] ++ leN n 6 ++ leN t.length 1 ++ t) 56
def rootB (t : ByteArray) (n : Nat) : ByteArray := ofB (rootL t.data.toList n)
theorem length_rootL {t : List UInt8} (h : t.length ≤ 40) (n : Nat) : (rootL t n).length = 64 := length_sealL (by simp [length_leN]; omega)
theorem size_rootB {t : ByteArray} (h : t.size ≤ 40) (n : Nat) : (rootB t n).size = 64 := by
  rw [rootB, ofB_size, length_rootL (by rw [len_of]; exact h)]
/-- what a sector says of a root: its number, how many bytes, these -/
def rNum (x : ByteArray) : Nat := valN ((x.data.toList.drop 2).take 6)
def rLen (x : ByteArray) : Nat := valN ((x.data.toList.drop 8).take 1)
def rText (x : ByteArray) : ByteArray := x.extract 9 (9 + rLen x)
def isRoot (x : ByteArray) (i : Nat) : Bool := decide (1 ≤ rNum x) && decide (rNum x ≤ 1099511627776) && decide (rLen x ≤ 40) && decide (rNum x % 2 = i) && decide (rootB (rText x) (rNum x) = x)
theorem isRoot_is {x : ByteArray} {i : Nat} : isRoot x i = true ↔ 1 ≤ rNum x ∧ rNum x ≤ 1099511627776 ∧ rLen x ≤ 40 ∧ rNum x % 2 = i ∧ rootB (rText x) (rNum x) = x := by
  simp [isRoot, and_assoc]
theorem rText_list (x : ByteArray) : (rText x).data.toList = (x.data.toList.drop 9).take (rLen x) := by
  rw [rText, Lib.extract_data, Nat.add_sub_cancel_left]
theorem rText_size {x : ByteArray} (h : rLen x ≤ 40) : (rText x).size ≤ 40 := by
  rw [rText, ByteArray.size_extract]; omega
theorem root_says {t : ByteArray} (h : t.size ≤ 40) {n : Nat} (hn : n ≤ 1099511627776) : rNum (rootB t n) = n ∧ rLen (rootB t n) = t.size ∧ rText (rootB t n) = t := by
  obtain ⟨r, hr⟩ := sealL_eq ([82, 84] ++ leN n 6 ++ leN t.data.toList.length 1 ++ t.data.toList) 56
  have hT : t.data.toList.length = t.size := len_of t
  have h6 : (leN n 6).length = 6 := length_leN _ _
  have h1 : (leN t.data.toList.length 1).length = 1 := length_leN _ _
  have hv6 : valN (leN n 6) = n := val_leN 6 n (by omega)
  have hv1 : valN (leN t.data.toList.length 1) = t.size := by rw [val_leN 1 _ (by omega), hT]
  have e : (rootB t n).data.toList = [82, 84] ++ (leN n 6 ++ (leN t.data.toList.length 1 ++ (t.data.toList ++ r))) := by
    rw [rootB, ofB_list, rootL, hr]; simp
  generalize leN n 6 = A at *
  generalize leN t.data.toList.length 1 = C at *
  have d2 : (rootB t n).data.toList.drop 2 = A ++ (C ++ (t.data.toList ++ r)) := by rw [e]; rfl
  have d8 : (rootB t n).data.toList.drop 8 = C ++ (t.data.toList ++ r) := by
    rw [show 8 = 2 + 6 by rfl, ← List.drop_drop, d2, ← h6, List.drop_left]
  have d9 : (rootB t n).data.toList.drop 9 = t.data.toList ++ r := by
    rw [show 9 = 8 + 1 by rfl, ← List.drop_drop, d8, ← h1, List.drop_left]
  have e2 : rLen (rootB t n) = t.size := by rw [rLen, d8, ← h1, List.take_left, hv1]
  refine ⟨by rw [rNum, d2, ← h6, List.take_left, hv6], e2, b_ext ?_⟩
  rw [rText_list, e2, d9, ← hT, List.take_left]
theorem root_is {t : ByteArray} (h : t.size ≤ 40) {n : Nat} (h1 : 1 ≤ n) (hn : n ≤ 1099511627776) : isRoot (rootB t n) (n % 2) = true := by
  obtain ⟨a, b, c⟩ := root_says h hn
  rw [isRoot_is, a, b, c]
  exact ⟨h1, hn, h, rfl, rfl⟩
theorem no_root {i : Nat} : isRoot ⟨(List.replicate 64 (0 : UInt8)).toArray⟩ i = false := by
  rw [Bool.eq_false_iff]
  intro h
  have := (isRoot_is.1 h).1
  exact absurd this (by decide)
end Go.Proofs.YtmloljjllmmkoaaGreat

namespace Go.Proofs.YtmloljjllmmkoaaGreat
open Go

structure VS where
  disk : DS
  text : ByteArray
  num : Nat
  kept : List (Int × ByteArray)
  dead : Bool

/-- how many blocks a disk has; may a volume have so many? -/
def blkN (s : DS) : Nat := s.stay.length / 4
def badV (s : DS) : Bool := decide (blkN s < 8) || decide (4096 < blkN s)
def VS.has (x : VS) (v : Int) : Bool := decide (1 ≤ v) && decide (v < (blkN x.disk : Int))
def loadV (s : DS) (v : Nat) : Int × List UInt8 := loads s (4 * v) 4 0
def storeV (s : DS) (v : Nat) (p : ByteArray) : Int × DS := puts (4 * v) (frameL p.data.toList) 4 0 s
def VS.read (x : VS) (v : Int) : Int × ByteArray × VS :=
  if x.has v = false then (81, none0, x) else if x.dead then (2, none0, x) else
  match CI.getL x.kept v with
  | some p => (0, p, { x with kept := CI.useL x.kept v })
  | none =>
    if (loadV x.disk v.toNat).1 ≠ 0 then ((loadV x.disk v.toNat).1, none0, { x with dead := (loadV x.disk v.toNat).1 == 2 }) else
    match unframe (bsL (loadV x.disk v.toNat).2) with
    | some p => (0, p, { x with kept := CI.putL 32 x.kept v p })
    | none => (82, none0, x)
def VS.write (x : VS) (v : Int) (p : ByteArray) : Int × VS :=
  if x.has v = false then (81, x) else if 240 < p.size then (83, x) else if x.dead then (2, x) else
  if (storeV x.disk v.toNat p).1 ≠ 0 then ((storeV x.disk v.toNat p).1, { x with disk := (storeV x.disk v.toNat p).2, kept := CI.dropL x.kept v, dead := (storeV x.disk v.toNat p).1 == 2 })
  else (0, { x with disk := (storeV x.disk v.toNat p).2, kept := CI.putL 32 x.kept v p })
/-- a root is written, and synced -/
def rootPut (t : ByteArray) (n : Nat) (s : DS) : Int × DS := put (n % 2) (rootL t.data.toList n) 0 1 s
def VS.commit (x : VS) (t : ByteArray) : Int × VS :=
  if 40 < t.size then (83, x) else if x.dead then (2, x) else if x.num = 1099511627776 then (80, x) else
  if x.disk.syncE ≠ 0 then (x.disk.syncE, { x with disk := x.disk.sync, dead := x.disk.syncE == 2 }) else
  if (rootPut t (x.num + 1) x.disk.sync).1 ≠ 0 then ((rootPut t (x.num + 1) x.disk.sync).1, { x with disk := (rootPut t (x.num + 1) x.disk.sync).2, dead := (rootPut t (x.num + 1) x.disk.sync).1 == 2 })
  else (0, { x with disk := (rootPut t (x.num + 1) x.disk.sync).2, text := t, num := x.num + 1 })
def vformE (s : DS) (t : ByteArray) : Int := if badV s then 80 else if 40 < t.size then 83 else if s.writeE 0 (zeros 64) ≠ 0 then s.writeE 0 (zeros 64) else (rootPut t 1 (s.write 0 (zeros 64))).1
def vformD (s : DS) (t : ByteArray) : DS := if badV s then s else if 40 < t.size then s else if s.writeE 0 (zeros 64) ≠ 0 then s.write 0 (zeros 64) else (rootPut t 1 (s.write 0 (zeros 64))).2
def vformX (s : DS) (t : ByteArray) : VS := ⟨vformD s t, t, 1, [], false⟩
/-- the error, if there is no root; the newest root so far: its number, its bytes -/
def stepRoot (s : DS) (i : Nat) (a : Int × Nat × ByteArray) : Int × Nat × ByteArray :=
  if s.readE i ≠ 0 then (s.readE i, a.2) else if isRoot (s.readS i) i && decide (a.2.1 < rNum (s.readS i)) then (a.1, rNum (s.readS i), rText (s.readS i)) else a
def roots (s : DS) : Int × Nat × ByteArray := stepRoot s 1 (stepRoot s 0 (80, 0, none0))
def vopenE (s : DS) : Int := if badV s then 80 else if s.dead then 2 else if (roots s).2.1 = 0 then (roots s).1 else 0
def vopenX (s : DS) : VS := ⟨s, (roots s).2.2, (roots s).2.1, [], false⟩
end Go.Proofs.YtmloljjllmmkoaaGreat

namespace Go.Proofs.YtmloljjllmmkoaaGreat
open Go

/-- power is there, nothing is bad -/
structure Alive (s : DS) : Prop where
  ok : s.Ok
  dead : s.dead = false
  bad : ∀ j, s.bad j = false
def DS.at (s : DS) (j : Nat) : ByteArray := s.stay.getD j none0
section
variable {s : DS}
theorem at_get {j : Nat} (h : j < s.stay.length) : s.at j = s.stay[j] := by
  rw [DS.at, List.getD_eq_getElem?_getD, List.getElem?_eq_getElem h]; rfl
theorem look_seek (j : Nat) : s.look (j : Int) = match seek (j : Int) s.loose 0 with | some z => z.2 | none => s.at j := by
  unfold DS.look DS.at
  rw [Int.toNat_natCast]
  rfl
theorem look_none {j : Nat} (h : s.loose = []) : s.look (j : Int) = s.at j := by
  rw [look_seek, h]; rfl
theorem Alive.may (h : Alive s) {n : Nat} (hn : n < s.stay.length) : s.may (n : Int) = 0 := by
  have h1 : (n : Int) < (s.stay.length : Int) := by omega
  have h2 : ¬ (s.stay.length : Int) ≤ (n : Int) := by omega
  have h3 : ¬ (n : Int) < 0 := by omega
  simp [DS.may, h.dead, h2, h3]
theorem Alive.readE (h : Alive s) {n : Nat} (hn : n < s.stay.length) : s.readE (n : Int) = 0 := by
  unfold DS.readE
  rw [h.may hn, h.bad]; rfl
theorem Alive.readS (h : Alive s) {n : Nat} (hn : n < s.stay.length) : s.readS (n : Int) = s.look (n : Int) := by
  unfold DS.readS
  rw [if_pos (h.readE hn)]
theorem Alive.look_size (h : Alive s) {n : Nat} (hn : n < s.stay.length) : (s.look (n : Int)).size = 64 := h.ok.look_size (by omega) (by omega)
theorem look_lays8 (n : Nat) (x : ByteArray) (j : Nat) : (s.lays (n : Int) x).look (j : Int) = if j = n then x else s.look (j : Int) := by
  rw [look_seek, look_seek]
  show (match seek (j : Int) (putL (n : Int) x s.loose) 0 with | some z => z.2 | none => s.at j) = _
  rw [seek_putL]
  by_cases e : j = n
  · subst e; simp
  · rw [if_neg (by omega), if_neg e]
theorem at_laid (f : Nat → Bool) (j : Nat) (hj : j < s.stay.length) : (laid f s.loose s.stay).getD j none0 = s.at j ∨ (laid f s.loose s.stay).getD j none0 = s.look (j : Int) := by
  rw [look_seek, List.getD_eq_getElem?_getD, List.getElem?_eq_getElem (by rw [length_laid]; exact hj), Option.getD_some, get_laid _ _ _ _ hj, at_get hj]
  cases seek (j : Int) s.loose 0 with
  | none => exact .inl rfl
  | some z =>
    cases hf : f z.1 with
    | true => exact .inr (by simp [hf])
    | false => exact .inl (by simp [hf])
theorem at_all (j : Nat) (hj : j < s.stay.length) : (laid (fun _ => true) s.loose s.stay).getD j none0 = s.look (j : Int) := by
  rw [look_seek, List.getD_eq_getElem?_getD, List.getElem?_eq_getElem (by rw [length_laid]; exact hj), Option.getD_some, get_laid _ _ _ _ hj, at_get hj]
  cases seek (j : Int) s.loose 0 with
  | none => rfl
  | some z => simp
/-- the power is gone; each sector is what stayed, or what was written last -/
structure Lost (s s' : DS) : Prop where
  gone : Gone s'
  len : s'.stay.length = s.stay.length
  each : ∀ j, j < s.stay.length → s'.at j = s.at j ∨ s'.at j = s.look (j : Int)
theorem Alive.goes (h : Alive s) (keep : ByteArray) : Lost s (s.goes keep) :=
  ⟨⟨h.ok.goes keep, rfl, h.bad, rfl⟩, length_laid _ _ _, fun j hj => at_laid _ j hj⟩
theorem Alive.tick (h : Alive s) : Alive s.tick := ⟨h.ok.tick, h.dead, h.bad⟩
/-- all stays -/
structure Synced (s s' : DS) : Prop where
  alive : Alive s'
  len : s'.stay.length = s.stay.length
  each : ∀ j, j < s.stay.length → s'.at j = s.look (j : Int) ∧ s'.look (j : Int) = s.look (j : Int)
theorem Alive.sync (h : Alive s) : (s.syncE = 0 ∧ Synced s s.sync) ∨ (s.syncE = 2 ∧ Lost s s.sync) := by
  by_cases ha : s.armed = 1
  · right
    have e : s.sync = s.tick.goes s.keep := by simp [DS.sync, h.dead, ha]
    refine ⟨by simp [DS.syncE, h.dead, ha], ?_⟩
    rw [e]
    have a := h.tick.goes s.keep
    exact ⟨a.gone, a.len, a.each⟩
  · left
    have e : s.sync = s.tick.settled := by simp [DS.sync, h.dead, ha]
    refine ⟨by simp [DS.syncE, h.dead, ha], ?_⟩
    rw [e]
    refine ⟨⟨h.ok.tick.settled, h.dead, h.bad⟩, by simp [DS.settled, DS.tick, length_laid], fun j hj => ?_⟩
    have h1 : s.tick.settled.at j = s.look (j : Int) := at_all (s := s) j hj
    exact ⟨h1, by rw [look_none (s := s.tick.settled) rfl, h1]⟩
theorem Alive.calm_sync (h : Alive s) (ha : s.armed = 0) : s.syncE = 0 ∧ s.sync.armed = 0 := by
  have e : s.sync = s.tick.settled := by simp [DS.sync, h.dead, ha]
  exact ⟨by simp [DS.syncE, h.dead, ha], by rw [e]; simp [DS.settled, DS.tick, ha]⟩
end

/-- sectors from_ + i on, k of them, have been written -/
structure Wrote (from_ : Nat) (all : List UInt8) (i k : Nat) (s s' : DS) : Prop where
  alive : Alive s'
  stay : s'.stay = s.stay
  out : ∀ j : Nat, (∀ t, i ≤ t → t < i + k → j ≠ from_ + t) → s'.look (j : Int) = s.look (j : Int)
  new : ∀ t, i ≤ t → t < i + k → s'.look ((from_ + t : Nat) : Int) = secB all t
/-- the power went meanwhile -/
structure Broke (from_ : Nat) (all : List UInt8) (i k : Nat) (s s' : DS) : Prop where
  gone : Gone s'
  len : s'.stay.length = s.stay.length
  out : ∀ j : Nat, j < s.stay.length → (∀ t, i ≤ t → t < i + k → j ≠ from_ + t) → s'.at j = s.at j ∨ s'.at j = s.look (j : Int)
  in_ : ∀ t, i ≤ t → t < i + k → from_ + t < s.stay.length → s'.at (from_ + t) = s.at (from_ + t) ∨ s'.at (from_ + t) = s.look ((from_ + t : Nat) : Int) ∨ s'.at (from_ + t) = secB all t
section
variable {from_ : Nat} {all : List UInt8}
theorem puts_alive : ∀ (k i : Nat) {s : DS}, Alive s → from_ + i + k ≤ s.stay.length →
    ((puts from_ all k i s).1 = 0 ∧ Wrote from_ all i k s (puts from_ all k i s).2) ∨ ((puts from_ all k i s).1 = 2 ∧ Broke from_ all i k s (puts from_ all k i s).2)
  | 0, i, s, h, _ => .inl ⟨rfl, h, rfl, fun _ _ => rfl, fun t h1 h2 => by omega⟩
  | k + 1, i, s, h, hf => by
    have hn : from_ + i < s.stay.length := by omega
    have hfit : s.fits ((from_ + i : Nat) : Int) (secB all i) = true := by
      unfold DS.fits
      rw [h.may hn, size_secB, h.bad]; rfl
    have hwE : s.writeE ((from_ + i : Nat) : Int) (secB all i) = if s.armed = 1 then 2 else 0 := by
      unfold DS.writeE
      rw [h.may hn, size_secB, h.bad, if_neg (by decide), if_neg (by decide), if_neg (by decide)]
    have h1 : Alive (s.lays ((from_ + i : Nat) : Int) (secB all i)) := ⟨h.ok.lays (by omega) (by omega) (size_secB _ _), h.dead, h.bad⟩
    have hlk := fun j => look_lays8 (s := s) (from_ + i) (secB all i) j
    rw [puts, hwE]
    by_cases ha : s.armed = 1
    · have hw : s.write ((from_ + i : Nat) : Int) (secB all i) = (s.lays ((from_ + i : Nat) : Int) (secB all i)).goes s.keep := by
        unfold DS.write
        rw [hfit, if_pos rfl, if_pos ha]
      rw [hw, if_pos ha, if_neg (by decide)]
      have hl := h1.goes s.keep
      refine .inr ⟨rfl, hl.gone, hl.len, fun j hj ho => ?_, fun t t1 t2 ht => ?_⟩
      · rcases hl.each j hj with e | e
        · exact .inl e
        · rw [hlk, if_neg (ho i (Nat.le_refl _) (by omega))] at e
          exact .inr e
      · rcases hl.each (from_ + t) ht with e | e
        · exact .inl e
        · rw [hlk] at e
          by_cases e2 : from_ + t = from_ + i
          · obtain rfl : t = i := by omega
            rw [if_pos rfl] at e
            exact .inr (.inr e)
          · rw [if_neg e2] at e
            exact .inr (.inl e)
    · have hw : s.write ((from_ + i : Nat) : Int) (secB all i) = s.lays ((from_ + i : Nat) : Int) (secB all i) := by
        unfold DS.write
        rw [hfit, if_pos rfl, if_neg ha]
      rw [hw, if_neg ha, if_pos rfl]
      rcases puts_alive k (i + 1) h1 (by show from_ + (i + 1) + k ≤ s.stay.length; omega) with ⟨e, hw⟩ | ⟨e, hb⟩
      · refine .inl ⟨e, hw.alive, hw.stay, fun j ho => ?_, fun t t1 t2 => ?_⟩
        · rw [hw.out j (fun t t1 t2 => ho t (by omega) (by omega)), hlk, if_neg (ho i (Nat.le_refl _) (by omega))]
        · by_cases e2 : t = i
          · subst e2
            rw [hw.out (from_ + t) (fun t' t1 t2 => by omega), hlk, if_pos rfl]
          · exact hw.new t (by omega) (by omega)
      · refine .inr ⟨e, hb.gone, hb.len, fun j hj ho => ?_, fun t t1 t2 ht => ?_⟩
        · have := hb.out j hj (fun t t1 t2 => ho t (by omega) (by omega))
          rw [hlk, if_neg (ho i (Nat.le_refl _) (by omega))] at this
          exact this
        · by_cases e2 : t = i
          · subst e2
            rcases hb.out (from_ + t) ht (fun t' t1 t2 => by omega) with e3 | e3
            · exact .inl e3
            · rw [hlk, if_pos rfl] at e3
              exact .inr (.inr e3)
          · have := hb.in_ t (by omega) (by omega) ht
            rw [hlk, if_neg (by omega)] at this
            exact this
theorem puts_calm8 : ∀ (k i : Nat) {s : DS}, Alive s → s.armed = 0 → from_ + i + k ≤ s.stay.length → (puts from_ all k i s).1 = 0 ∧ (puts from_ all k i s).2.armed = 0
  | 0, _, _, _, ha, _ => ⟨rfl, ha⟩
  | k + 1, i, s, h, ha, hf => by
    have hn : from_ + i < s.stay.length := by omega
    have hfit : s.fits ((from_ + i : Nat) : Int) (secB all i) = true := by
      unfold DS.fits
      rw [h.may hn, size_secB, h.bad]; rfl
    have hwE : s.writeE ((from_ + i : Nat) : Int) (secB all i) = 0 := by
      unfold DS.writeE
      rw [h.may hn, size_secB, h.bad, if_neg (by decide), if_neg (by decide), if_neg (by decide), ha, if_neg (by decide)]
    have hw : s.write ((from_ + i : Nat) : Int) (secB all i) = s.lays ((from_ + i : Nat) : Int) (secB all i) := by
      unfold DS.write
      rw [hfit, if_pos rfl, ha, if_neg (by decide)]
    rw [puts, hwE, if_pos rfl, hw]
    exact puts_calm8 k (i + 1) ⟨h.ok.lays (by omega) (by omega) (size_secB _ _), h.dead, h.bad⟩ (by simp [DS.lays, DS.tick, ha]) (by show from_ + (i + 1) + k ≤ s.stay.length; omega)
end

/-! ### a root -/
theorem secB_root {t : ByteArray} (h : t.size ≤ 40) (n : Nat) : secB (rootL t.data.toList n) 0 = rootB t n := by
  have hl := length_rootL (t := t.data.toList) (by rw [len_of]; exact h) n
  apply b_ext
  simp only [secB, secL, rootB, ofB_list, Nat.mul_zero, List.drop_zero]
  rw [List.take_of_length_le (by omega), hl, Nat.sub_self, List.replicate_zero, List.append_nil]
/-- what a root's writing comes to -/
theorem rootPut_is {s : DS} (h : Alive s) {t : ByteArray} (ht : t.size ≤ 40) (n : Nat) (hs : 2 ≤ s.stay.length) (hq : ∀ j, j < s.stay.length → s.at j = s.look (j : Int)) :
    ((rootPut t n s).1 = 0 ∧ Alive (rootPut t n s).2 ∧ (rootPut t n s).2.stay.length = s.stay.length ∧ ∀ j, j < s.stay.length → (rootPut t n s).2.at j = (if j = n % 2 then rootB t n else s.look (j : Int)) ∧ (rootPut t n s).2.look (j : Int) = (if j = n % 2 then rootB t n else s.look (j : Int))) ∨
    ((rootPut t n s).1 = 2 ∧ Gone (rootPut t n s).2 ∧ (rootPut t n s).2.stay.length = s.stay.length ∧ (∀ j, j < s.stay.length → j ≠ n % 2 → (rootPut t n s).2.at j = s.look (j : Int)) ∧ ((rootPut t n s).2.at (n % 2) = s.look ((n % 2 : Nat) : Int) ∨ (rootPut t n s).2.at (n % 2) = rootB t n)) := by
  have h2 : n % 2 < 2 := Nat.mod_lt _ (by decide)
  have hz : ∀ j, (∀ t', 0 ≤ t' → t' < 0 + 1 → j ≠ n % 2 + t') ↔ j ≠ n % 2 := fun j => ⟨fun h => h 0 (by omega) (by omega), fun h t' _ _ => by
    obtain rfl : t' = 0 := by omega
    exact h⟩
  unfold rootPut put
  rcases puts_alive (from_ := n % 2) (all := rootL t.data.toList n) 1 0 h (by omega) with ⟨e, hw⟩ | ⟨e, hb⟩
  · rw [if_pos e]
    generalize (puts (n % 2) (rootL t.data.toList n) 1 0 s).2 = s1 at hw
    have hl1 : ∀ j, j < s.stay.length → s1.look (j : Int) = if j = n % 2 then rootB t n else s.look (j : Int) := fun j hj => by
      by_cases e : j = n % 2
      · rw [if_pos e, e, ← secB_root ht]
        exact hw.new 0 (by omega) (by omega)
      · rw [if_neg e]
        exact hw.out j ((hz j).2 e)
    have ha1 : ∀ j, s1.at j = s.at j := fun j => by unfold DS.at; rw [hw.stay]
    have hlen : s1.stay.length = s.stay.length := by rw [hw.stay]
    rcases hw.alive.sync with ⟨e1, hs1⟩ | ⟨e1, hs1⟩
    · left
      refine ⟨e1, hs1.alive, by rw [hs1.len, hlen], fun j hj => ?_⟩
      obtain ⟨a, b⟩ := hs1.each j (by omega)
      rw [hl1 j hj] at a b
      exact ⟨a, b⟩
    · right
      refine ⟨e1, hs1.gone, by rw [hs1.len, hlen], fun j hj hne => ?_, ?_⟩
      · rcases hs1.each j (by omega) with a | a
        · rw [a, ha1, hq j hj]
        · rw [a, hl1 j hj, if_neg hne]
      · rcases hs1.each (n % 2) (by omega) with a | a
        · left; rw [a, ha1, hq _ (by omega)]
        · right; rw [a, hl1 _ (by omega), if_pos rfl]
  · rw [if_neg (by rw [e]; decide)]
    right
    refine ⟨e, hb.gone, hb.len, fun j hj hne => ?_, ?_⟩
    · rcases hb.out j hj ((hz j).2 hne) with a | a
      · rw [a, hq j hj]
      · exact a
    · rcases hb.in_ 0 (by omega) (by omega) (by omega) with a | a | a
      · left; rw [Nat.add_zero] at a; rw [a, hq _ (by omega)]
      · left; exact a
      · right; rw [secB_root ht] at a; exact a
theorem rootPut_calm {s : DS} (h : Alive s) (ha : s.armed = 0) (t : ByteArray) (n : Nat) (hs : 2 ≤ s.stay.length) : (rootPut t n s).1 = 0 ∧ (rootPut t n s).2.armed = 0 := by
  have h2 : n % 2 < 2 := Nat.mod_lt _ (by decide)
  obtain ⟨e1, e2⟩ := puts_calm8 (from_ := n % 2) (all := rootL t.data.toList n) 1 0 h ha (by omega)
  unfold rootPut put
  rw [if_pos e1]
  rcases puts_alive (from_ := n % 2) (all := rootL t.data.toList n) 1 0 h (by omega) with ⟨_, hw⟩ | ⟨e, _⟩
  · exact hw.alive.calm_sync e2
  · rw [e1] at e; cases e
end Go.Proofs.YtmloljjllmmkoaaGreat

namespace Go.Proofs.YtmloljjllmmkoaaGreat
open Go

/-- a block's bytes, as its sectors were written last -/
def Lies (s : DS) (v : Nat) (l : List UInt8) : Prop := ∀ i, i < 4 → s.look ((4 * v + i : Nat) : Int) = secB l i
theorem secL_full {l : List UInt8} {i : Nat} (h : 64 * i + 64 ≤ l.length) : secL l i = (l.drop (64 * i)).take 64 := by
  have : ((l.drop (64 * i)).take 64).length = 64 := by rw [List.length_take, List.length_drop]; omega
  rw [secL, this, Nat.sub_self, List.replicate_zero, List.append_nil]
theorem loads_lies {s : DS} (h : Alive s) {v : Nat} {l : List UInt8} (hl : Lies s v l) (hv : 4 * v + 4 ≤ s.stay.length) (h256 : l.length = 256) : ∀ k i, i + k ≤ 4 → loads s (4 * v) k i = (0, (l.drop (64 * i)).take (64 * k))
  | 0, i, _ => by simp [loads]
  | k + 1, i, hi => by
    have he : s.readE ((4 * v + i : Nat) : Int) = 0 := h.readE (by omega)
    rw [loads_go he, loads_lies h hl hv h256 k (i + 1) (by omega), h.readS (by omega), hl i (by omega)]
    have e : (secB l i).data.toList = (l.drop (64 * i)).take 64 := by
      rw [← secL_full (by omega)]
      simp [secB]
    rw [e, show 64 * (k + 1) = 64 + 64 * k by omega, List.take_add, List.drop_drop, show 64 * (i + 1) = 64 * i + 64 by omega]
theorem loadV_lies {s : DS} (h : Alive s) {v : Nat} {l : List UInt8} (hl : Lies s v l) (hv : 4 * v + 4 ≤ s.stay.length) (h256 : l.length = 256) : loadV s v = (0, l) := by
  rw [loadV, loads_lies h hl hv h256 4 0 (by omega)]
  simp [List.take_of_length_le, h256]
theorem lies_one {s : DS} (h : Alive s) {v : Nat} {l l' : List UInt8} (hl : Lies s v l) (hl' : Lies s v l') (hv : 4 * v + 4 ≤ s.stay.length) (h1 : l.length = 256) (h2 : l'.length = 256) : l = l' := by
  have a := loadV_lies h hl hv h1
  rw [loadV_lies h hl' hv h2] at a
  exact (Prod.mk.inj a).2.symm
/-- the root, as it stays, and as it is read; the other sector has none that is newer -/
structure Rooted (s : DS) (t : ByteArray) (n : Nat) : Prop where
  stay : s.at (n % 2) = rootB t n
  look : s.look ((n % 2 : Nat) : Int) = rootB t n
  same : s.at (1 - n % 2) = s.look ((1 - n % 2 : Nat) : Int)
  less : isRoot (s.look ((1 - n % 2 : Nat) : Int)) (1 - n % 2) = true → rNum (s.look ((1 - n % 2 : Nat) : Int)) < n
structure Sound (x : VS) : Prop where
  alive : Alive x.disk
  big : badV x.disk = false
  one : 1 ≤ x.num
  le : x.num ≤ 1099511627776
  tle : x.text.size ≤ 40
  root : Rooted x.disk x.text x.num
  live : x.dead = false
  kept : ∀ q ∈ x.kept, (1 ≤ q.1 ∧ q.1 < (blkN x.disk : Int)) ∧ q.2.size ≤ 240 ∧ Lies x.disk q.1.toNat (frameL q.2.data.toList)
theorem big_is {s : DS} (h : badV s = false) : 8 ≤ blkN s ∧ blkN s ≤ 4096 ∧ 32 ≤ s.stay.length := by
  rw [badV, Bool.or_eq_false_iff, decide_eq_false_iff_not, decide_eq_false_iff_not] at h
  have : blkN s = s.stay.length / 4 := rfl
  omega
theorem has_is {x : VS} {v : Int} : x.has v = true ↔ 1 ≤ v ∧ v < (blkN x.disk : Int) := by simp [VS.has]
theorem has_fit {x : VS} {v : Int} (h : 1 ≤ v ∧ v < (blkN x.disk : Int)) : 4 * v.toNat + 4 ≤ x.disk.stay.length ∧ 1 ≤ v.toNat := by
  have : blkN x.disk = x.disk.stay.length / 4 := rfl
  omega
section
variable {K V : Type} [DecidableEq K]
theorem mem_dropL {L : List (K × V)} {k : K} {q : K × V} (h : q ∈ CI.dropL L k) : q ∈ L ∧ q.1 ≠ k := by
  simpa [CI.dropL] using h
theorem mem_putL8 {L : List (K × V)} {room : Nat} {k : K} {v : V} {q : K × V} (h : q ∈ CI.putL room L k v) : q = (k, v) ∨ (q ∈ L ∧ q.1 ≠ k) := by
  rcases List.mem_cons.1 (List.mem_of_mem_take h) with h | h
  · exact .inl h
  · exact .inr (mem_dropL h)
theorem mem_getL {L : List (K × V)} {k : K} {v : V} (h : CI.getL L k = some v) : (k, v) ∈ L := by
  unfold CI.getL at h
  cases e : L.find? (fun x => x.1 = k) with
  | none => rw [e] at h; cases h
  | some q =>
    rw [e] at h
    have h1 := List.mem_of_find?_eq_some e
    have h2 : q.1 = k := by simpa using List.find?_some e
    have h3 : q.2 = v := by simpa using h
    rw [← h2, ← h3]; exact h1
theorem mem_useL {L : List (K × V)} {k : K} {q : K × V} (h : q ∈ CI.useL L k) : q ∈ L := by
  unfold CI.useL at h
  cases e : CI.getL L k with
  | none => rw [e] at h; exact h
  | some v =>
    rw [e] at h
    rcases List.mem_cons.1 h with h | h
    · rw [h]; exact mem_getL e
    · exact (mem_dropL h).1
end
section
variable {x : VS}
/-- what a Read tells of a block that carries something -/
theorem Sound.read (h : Sound x) {v : Int} (hv : x.has v = true) {p : ByteArray} (hp : p.size ≤ 240) (hc : Lies x.disk v.toNat (frameL p.data.toList)) :
    (x.read v).1 = 0 ∧ (x.read v).2.1 = p ∧ Sound (x.read v).2.2 ∧ (x.read v).2.2.disk = x.disk ∧ (x.read v).2.2.text = x.text ∧ (x.read v).2.2.num = x.num := by
  have hr := has_is.1 hv
  obtain ⟨hf, _⟩ := has_fit hr
  have hpl : p.data.toList.length ≤ 240 := by rw [len_of]; exact hp
  have hl := loadV_lies h.alive hc hf (length_frameL hpl)
  unfold VS.read
  rw [hv, h.live]
  cases hg : CI.getL x.kept v with
  | some p' =>
    obtain ⟨_, h2, h3⟩ := h.kept _ (mem_getL hg)
    have e := lies_one h.alive h3 hc hf (length_frameL (by rw [len_of]; exact h2)) (length_frameL hpl)
    have e2 : p' = p := by
      have a := unframe_frame h2
      rw [show frameB p' = frameB p from congrArg ofB e, unframe_frame hp] at a
      exact (Option.some.inj a).symm
    subst e2
    exact ⟨rfl, rfl, ⟨h.alive, h.big, h.one, h.le, h.tle, h.root, rfl, fun q hq => h.kept q (mem_useL hq)⟩, rfl, rfl, rfl⟩
  | none =>
    simp only [hl, ne_eq, not_true_eq_false, if_false, Bool.true_eq_false, Bool.false_eq_true]
    rw [show bsL (frameL p.data.toList) = frameB p from rfl, unframe_frame hp]
    refine ⟨rfl, rfl, ⟨h.alive, h.big, h.one, h.le, h.tle, h.root, rfl, fun q hq => ?_⟩, rfl, rfl, rfl⟩
    rcases mem_putL8 hq with rfl | hq
    · exact ⟨hr, hp, hc⟩
    · exact h.kept q hq.1
theorem Sound.read_bare (h : Sound x) {v : Int} (hv : x.has v = true) {l : List UInt8} (hl : Lies x.disk v.toNat l) (h256 : l.length = 256) (hn : unframe (bsL l) = none) :
    (x.read v).1 = 82 ∧ (x.read v).2.2 = x := by
  have hr := has_is.1 hv
  obtain ⟨hf, _⟩ := has_fit hr
  have hld := loadV_lies h.alive hl hf h256
  unfold VS.read
  rw [hv, h.live]
  cases hg : CI.getL x.kept v with
  | some p' =>
    obtain ⟨_, h2, h3⟩ := h.kept _ (mem_getL hg)
    have e := lies_one h.alive h3 hl hf (length_frameL (by rw [len_of]; exact h2)) h256
    rw [← e, show bsL (frameL p'.data.toList) = frameB p' from rfl, unframe_frame h2] at hn
    cases hn
  | none =>
    simp only [hld, ne_eq, not_true_eq_false, if_false, Bool.true_eq_false, Bool.false_eq_true]
    rw [hn]
    exact ⟨rfl, rfl⟩
theorem loads_alive {s : DS} (h : Alive s) (f : Nat) : ∀ k i, f + i + k ≤ s.stay.length → (loads s f k i).1 = 0
  | 0, _, _ => rfl
  | k + 1, i, hi => by
    rw [loads_go (h.readE (by omega))]
    exact loads_alive h f k (i + 1) (by omega)
/-- whatever a Read tells, it changes nothing but what is kept -/
theorem Sound.read_any (h : Sound x) (v : Int) : Sound (x.read v).2.2 ∧ (x.read v).2.2.disk = x.disk ∧ (x.read v).2.2.text = x.text ∧ (x.read v).2.2.num = x.num := by
  by_cases hv : x.has v = true
  · have hr := has_is.1 hv
    obtain ⟨hf, _⟩ := has_fit hr
    have h0 : (loadV x.disk v.toNat).1 = 0 := loads_alive h.alive _ 4 0 (by omega)
    by_cases hc : ∃ p, CI.getL x.kept v = some p
    · obtain ⟨p, hg⟩ := hc
      obtain ⟨_, h2, h3⟩ := h.kept _ (mem_getL hg)
      obtain ⟨_, _, a⟩ := h.read hv h2 h3
      exact a
    · have hg : CI.getL x.kept v = none := by
        cases e : CI.getL x.kept v with
        | none => rfl
        | some p => exact absurd ⟨p, e⟩ hc
      have hcs : unframe (bsL (loadV x.disk v.toNat).2) = none ∨ ∃ p, unframe (bsL (loadV x.disk v.toNat).2) = some p := by
        cases unframe (bsL (loadV x.disk v.toNat).2) with
        | none => exact .inl rfl
        | some p => exact .inr ⟨p, rfl⟩
      rcases hcs with hu | ⟨p, hu⟩
      · have e : (x.read v).2.2 = x := by
          unfold VS.read
          rw [hv, h.live, hg]
          simp [h0, hu]
        rw [e]
        exact ⟨h, rfl, rfl, rfl⟩
      · have e : (x.read v).2.2 = { x with kept := CI.putL 32 x.kept v p } := by
          unfold VS.read
          rw [hv, h.live, hg]
          simp [h0, hu]
        rw [e]
        obtain ⟨u1, u2⟩ := unframe_is hu
        refine ⟨⟨h.alive, h.big, h.one, h.le, h.tle, h.root, h.live, fun q hq => ?_⟩, rfl, rfl, rfl⟩
        rcases mem_putL8 hq with rfl | hq
        · refine ⟨hr, u2, ?_⟩
          have e4 : (loadV x.disk v.toNat).2 = frameL p.data.toList := by
            have := congrArg (fun b : ByteArray => b.data.toList) u1
            simpa [bsL, frameB, ofB] using this
          have g : ∀ i, i < 4 → x.disk.readE ((4 * v.toNat + i : Nat) : Int) = 0 := fun i hi => h.alive.readE (by omega)
          have g2 : ∀ i, i < 4 → x.disk.readS ((4 * v.toNat + i : Nat) : Int) = x.disk.look ((4 * v.toNat + i : Nat) : Int) := fun i hi => h.alive.readS (by omega)
          have g3 : ∀ i, i < 4 → (x.disk.look ((4 * v.toNat + i : Nat) : Int)).data.toList.length = 64 := fun i hi => by rw [len_of]; exact h.alive.look_size (by omega)
          rw [loadV, loads_go (g 0 (by omega)), loads_go (g 1 (by omega)), loads_go (g 2 (by omega)), loads_go (g 3 (by omega)), g2 0 (by omega), g2 1 (by omega), g2 2 (by omega), g2 3 (by omega)] at e4
          have a0 := g3 0 (by omega)
          have a1 := g3 1 (by omega)
          have a2 := g3 2 (by omega)
          have a3 := g3 3 (by omega)
          simp only [loads, List.append_nil] at e4
          intro i hi
          apply b_ext
          have hlen : (frameL p.data.toList).length = 256 := length_frameL (by rw [len_of]; exact u2)
          have es : (secB (frameL p.data.toList) i).data.toList = ((frameL p.data.toList).drop (64 * i)).take 64 := by
            rw [← secL_full (by omega)]; simp [secB]
          rw [es, ← e4]
          have h4 : i = 0 ∨ i = 1 ∨ i = 2 ∨ i = 3 := by omega
          rcases h4 with rfl | rfl | rfl | rfl
          · rw [Nat.mul_zero, List.drop_zero, List.take_append_of_le_length (by omega), List.take_of_length_le (by omega)]
          · rw [List.drop_append, List.drop_of_length_le (by omega), List.nil_append, a0, Nat.sub_self, List.drop_zero, List.take_append_of_le_length (by omega), List.take_of_length_le (by omega)]
          · rw [List.drop_append, List.drop_of_length_le (by omega), List.nil_append, a0, show 64 * 2 - 64 = 64 by omega, List.drop_append, List.drop_of_length_le (by omega), List.nil_append, a1, Nat.sub_self, List.drop_zero, List.take_append_of_le_length (by omega), List.take_of_length_le (by omega)]
          · rw [List.drop_append, List.drop_of_length_le (by omega), List.nil_append, a0, show 64 * 3 - 64 = 128 by omega, List.drop_append, List.drop_of_length_le (by omega), List.nil_append, a1, show 128 - 64 = 64 by omega, List.drop_append, List.drop_of_length_le (by omega), List.nil_append, a2, Nat.sub_self, List.drop_zero, List.take_of_length_le (by omega)]
        · exact h.kept q hq.1
  · have e : (x.read v).2.2 = x := by
      unfold VS.read
      rw [Bool.eq_false_iff.2 hv]; rfl
    rw [e]
    exact ⟨h, rfl, rfl, rfl⟩

/-- a block is written -/
theorem Sound.write (h : Sound x) {v : Int} (hv : x.has v = true) {p : ByteArray} (hp : p.size ≤ 240) :
    ((x.write v p).1 = 0 ∧ Sound (x.write v p).2 ∧ (x.write v p).2.text = x.text ∧ (x.write v p).2.num = x.num ∧ (x.write v p).2.disk.stay = x.disk.stay ∧ Lies (x.write v p).2.disk v.toNat (frameL p.data.toList) ∧
      ∀ j : Nat, (∀ t, t < 4 → j ≠ 4 * v.toNat + t) → (x.write v p).2.disk.look (j : Int) = x.disk.look (j : Int)) ∨
    ((x.write v p).1 = 2 ∧ Gone (x.write v p).2.disk ∧ (x.write v p).2.disk.stay.length = x.disk.stay.length ∧
      ∀ j : Nat, j < x.disk.stay.length → (∀ t, t < 4 → j ≠ 4 * v.toNat + t) → (x.write v p).2.disk.at j = x.disk.at j ∨ (x.write v p).2.disk.at j = x.disk.look (j : Int)) := by
  have hr := has_is.1 hv
  obtain ⟨hf, h1⟩ := has_fit hr
  have hb := big_is h.big
  unfold VS.write
  rw [hv, h.live, if_neg (by decide), if_neg (by omega), if_neg (by decide)]
  unfold storeV
  rcases puts_alive (from_ := 4 * v.toNat) (all := frameL p.data.toList) 4 0 h.alive (by omega) with ⟨e, hw⟩ | ⟨e, hk⟩
  · rw [if_neg (by rw [e]; simp)]
    generalize (puts (4 * v.toNat) (frameL p.data.toList) 4 0 x.disk).2 = s1 at hw
    have ho : ∀ j : Nat, (∀ t, t < 4 → j ≠ 4 * v.toNat + t) → s1.look (j : Int) = x.disk.look (j : Int) := fun j hj => hw.out j (fun t _ t2 => hj t (by omega))
    have hN : blkN s1 = blkN x.disk := by unfold blkN; rw [hw.stay]
    have hat : ∀ j, s1.at j = x.disk.at j := fun j => by unfold DS.at; rw [hw.stay]
    have h2 : x.num % 2 < 2 := Nat.mod_lt _ (by decide)
    have hnew : Lies s1 v.toNat (frameL p.data.toList) := fun i hi => hw.new i (by omega) (by omega)
    refine .inl ⟨rfl, ⟨hw.alive, by unfold badV; rw [hN]; exact h.big, h.one, h.le, h.tle, ?_, rfl, fun q hq => ?_⟩, rfl, rfl, hw.stay, hnew, ho⟩
    · have e1 := ho (x.num % 2) (fun t ht => by omega)
      have e2 := ho (1 - x.num % 2) (fun t ht => by omega)
      exact ⟨by rw [hat]; exact h.root.stay, by rw [e1]; exact h.root.look, by rw [hat, e2]; exact h.root.same, by rw [e2]; exact h.root.less⟩
    · show (1 ≤ q.1 ∧ q.1 < (blkN s1 : Int)) ∧ _
      rw [hN]
      rcases mem_putL8 hq with rfl | ⟨hq, hne⟩
      · exact ⟨hr, hp, hnew⟩
      · obtain ⟨a, b, c⟩ := h.kept q hq
        exact ⟨a, b, fun i hi => by rw [← c i hi]; exact ho _ (fun t ht => by omega)⟩
  · rw [if_pos (by rw [e]; decide)]
    exact .inr ⟨e, hk.gone, hk.len, fun j hj hn => hk.out j hj (fun t _ t2 => hn t (by omega))⟩

/-- the root that stays when the power is gone -/
structure RootG (s : DS) (t : ByteArray) (n : Nat) : Prop where
  stay : s.at (n % 2) = rootB t n
  less : isRoot (s.at (1 - n % 2)) (1 - n % 2) = true → rNum (s.at (1 - n % 2)) < n
theorem Rooted.lost {s s' : DS} {t : ByteArray} {n : Nat} (h : Rooted s t n) (hl : ∀ j, j < 2 → s'.at j = s.at j ∨ s'.at j = s.look (j : Int)) : RootG s' t n := by
  have h2 : n % 2 < 2 := Nat.mod_lt _ (by decide)
  refine ⟨?_, ?_⟩
  · rcases hl (n % 2) h2 with e | e
    · rw [e, h.stay]
    · rw [e, h.look]
  · rcases hl (1 - n % 2) (by omega) with e | e
    · rw [e, h.same]; exact h.less
    · rw [e]; exact h.less
theorem turn_mod (n : Nat) : 1 - (n + 1) % 2 = n % 2 ∧ 1 - n % 2 = (n + 1) % 2 := by omega
theorem Sound.next {s' : DS} {n : Nat} {t t' : ByteArray} (ht : t.size ≤ 40) (hn : n ≤ 1099511627776) (hl : s'.look ((n % 2 : Nat) : Int) = rootB t n) (ha : s'.at (n % 2) = rootB t n) (hl2 : s'.look (((n + 1) % 2 : Nat) : Int) = rootB t' (n + 1)) (ha2 : s'.at ((n + 1) % 2) = rootB t' (n + 1)) : Rooted s' t' (n + 1) := by
  refine ⟨ha2, hl2, ?_, ?_⟩
  · rw [(turn_mod n).1, ha, hl]
  · rw [(turn_mod n).1, hl, (root_says ht hn).1]
    intro _; omega
/-- THE HEART OF P8.6: a Commit -/
theorem Sound.commit (h : Sound x) {t : ByteArray} (ht : t.size ≤ 40) (hn : x.num < 1099511627776) :
    ((x.commit t).1 = 0 ∧ Sound (x.commit t).2 ∧ (x.commit t).2.text = t ∧ (x.commit t).2.num = x.num + 1 ∧ (x.commit t).2.disk.stay.length = x.disk.stay.length ∧
      ∀ j : Nat, 2 ≤ j → j < x.disk.stay.length → (x.commit t).2.disk.at j = x.disk.look (j : Int) ∧ (x.commit t).2.disk.look (j : Int) = x.disk.look (j : Int)) ∨
    ((x.commit t).1 = 2 ∧ Gone (x.commit t).2.disk ∧ (x.commit t).2.disk.stay.length = x.disk.stay.length ∧
      ((RootG (x.commit t).2.disk x.text x.num ∧ ∀ j : Nat, j < x.disk.stay.length → (x.commit t).2.disk.at j = x.disk.at j ∨ (x.commit t).2.disk.at j = x.disk.look (j : Int)) ∨
       (RootG (x.commit t).2.disk t (x.num + 1) ∧ ∀ j : Nat, 2 ≤ j → j < x.disk.stay.length → (x.commit t).2.disk.at j = x.disk.look (j : Int)))) := by
  have hb := big_is h.big
  have h2 : x.num % 2 < 2 := Nat.mod_lt _ (by decide)
  obtain ⟨m1, m2⟩ := turn_mod x.num
  unfold VS.commit
  rw [h.live, if_neg (by omega), if_neg (by decide), if_neg (by omega)]
  rcases h.alive.sync with ⟨e, hs⟩ | ⟨e, hs⟩
  · rw [if_neg (by rw [e]; simp)]
    have hq : ∀ j, j < x.disk.sync.stay.length → x.disk.sync.at j = x.disk.sync.look (j : Int) := fun j hj => by
      obtain ⟨a, b⟩ := hs.each j (by have := hs.len; omega)
      rw [a, b]
    have hlk : ∀ j, j < x.disk.stay.length → x.disk.sync.look (j : Int) = x.disk.look (j : Int) := fun j hj => (hs.each j hj).2
    have hlen := hs.len
    rcases rootPut_is hs.alive ht (x.num + 1) (by omega) hq with ⟨e1, ha, hl, he⟩ | ⟨e1, hg, hl, he, hr⟩
    · rw [if_neg (by rw [e1]; simp)]
      generalize (rootPut t (x.num + 1) x.disk.sync).2 = s2 at ha hl he
      have hN : blkN s2 = blkN x.disk := by unfold blkN; rw [hl, hlen]
      have hother : ∀ j : Nat, 2 ≤ j → j < x.disk.stay.length → s2.at j = x.disk.look (j : Int) ∧ s2.look (j : Int) = x.disk.look (j : Int) := fun j h3 hj => by
        obtain ⟨a, b⟩ := he j (by omega)
        rw [if_neg (by omega), hlk j hj] at a b
        exact ⟨a, b⟩
      refine .inl ⟨rfl, ⟨ha, by unfold badV; rw [hN]; exact h.big, by show 1 ≤ x.num + 1; omega, by show x.num + 1 ≤ _; omega, ht, ?_, rfl, fun q hq2 => ?_⟩, rfl, rfl, by rw [hl, hlen], hother⟩
      · obtain ⟨a, b⟩ := he (x.num % 2) (by omega)
        rw [if_neg (by omega), hlk _ (by omega), h.root.look] at a b
        obtain ⟨a', b'⟩ := he ((x.num + 1) % 2) (by omega)
        rw [if_pos rfl] at a' b'
        exact Sound.next h.tle h.le b a b' a'
      · obtain ⟨a, b, c⟩ := h.kept q hq2
        obtain ⟨hf, h1⟩ := has_fit a
        refine ⟨by show 1 ≤ q.1 ∧ q.1 < (blkN s2 : Int); rw [hN]; exact a, b, fun i hi => ?_⟩
        rw [← c i hi]
        exact (hother _ (by omega) (by omega)).2
    · rw [if_pos (by rw [e1]; decide)]
      refine .inr ⟨e1, hg, by rw [← hlen]; exact hl, ?_⟩
      have hold : (rootPut t (x.num + 1) x.disk.sync).2.at (x.num % 2) = rootB x.text x.num := by
        rw [he _ (by omega) (by omega), hlk _ (by omega), h.root.look]
      rcases hr with hr | hr
      · left
        rw [hlk _ (by omega)] at hr
        refine ⟨⟨hold, ?_⟩, fun j hj => ?_⟩
        · show isRoot ((rootPut t (x.num + 1) x.disk.sync).2.at (1 - x.num % 2)) _ = true → rNum ((rootPut t (x.num + 1) x.disk.sync).2.at (1 - x.num % 2)) < _
          rw [m2, hr, ← m2]
          exact h.root.less
        · by_cases e3 : j = (x.num + 1) % 2
          · right
            show (rootPut t (x.num + 1) x.disk.sync).2.at j = _
            rw [e3, hr]
          · right
            show (rootPut t (x.num + 1) x.disk.sync).2.at j = _
            rw [he j (by omega) e3, hlk j hj]
      · right
        refine ⟨⟨hr, ?_⟩, fun j h3 hj => ?_⟩
        · show isRoot ((rootPut t (x.num + 1) x.disk.sync).2.at (1 - (x.num + 1) % 2)) _ = true → rNum ((rootPut t (x.num + 1) x.disk.sync).2.at (1 - (x.num + 1) % 2)) < _
          rw [m1, hold, (root_says h.tle h.le).1]
          intro _; omega
        · show (rootPut t (x.num + 1) x.disk.sync).2.at j = _
          rw [he j (by omega) (by omega), hlk j hj]
  · rw [if_pos (by rw [e]; decide)]
    refine .inr ⟨e, hs.gone, hs.len, .inl ⟨h.root.lost (fun j hj => hs.each j (by omega)), hs.each⟩⟩

/-- what is opened -/
theorem opens {s : DS} {t : ByteArray} {n : Nat} (h : Alive s) (hb : badV s = false) (hr : Rooted s t n) (h1 : 1 ≤ n) (hn : n ≤ 1099511627776) (ht : t.size ≤ 40) : vopenE s = 0 ∧ vopenX s = ⟨s, t, n, [], false⟩ ∧ Sound ⟨s, t, n, [], false⟩ := by
  have hb3 := big_is hb
  have hroots : roots s = (80, n, t) := by
    have hroot := root_is ht h1 hn
    obtain ⟨a, _, c⟩ := root_says ht hn
    have hl := hr.look
    have hls := hr.less
    have e0 : s.readE ((0 : Nat) : Int) = 0 := h.readE (by omega)
    have e1 : s.readE ((1 : Nat) : Int) = 0 := h.readE (by omega)
    have s0 : s.readS ((0 : Nat) : Int) = s.look ((0 : Nat) : Int) := h.readS (by omega)
    have s1 : s.readS ((1 : Nat) : Int) = s.look ((1 : Nat) : Int) := h.readS (by omega)
    unfold roots stepRoot
    rw [e0, e1, s0, s1]
    rcases Nat.mod_two_eq_zero_or_one n with e | e
    · rw [e] at hl hroot hls
      rw [← hl] at hroot a c
      simp only [ne_eq, not_true_eq_false, if_false]
      rw [if_pos (show (isRoot (s.look ((0 : Nat) : Int)) 0 && decide (0 < rNum (s.look ((0 : Nat) : Int)))) = true by rw [hroot, a]; simp; omega), a, c]
      rw [if_neg]
      intro hx
      rw [Bool.and_eq_true, decide_eq_true_eq] at hx
      have := hls hx.1
      simp at this hx
      omega
    · rw [e] at hl hroot hls
      rw [← hl] at hroot a c
      simp only [ne_eq, not_true_eq_false, if_false]
      have hlt : ∀ z : Int × Nat × ByteArray, z.1 = 80 → z.2.1 < n → (if (isRoot (s.look ((1 : Nat) : Int)) 1 && decide (z.2.1 < rNum (s.look ((1 : Nat) : Int)))) = true then (z.1, rNum (s.look ((1 : Nat) : Int)), rText (s.look ((1 : Nat) : Int))) else z) = (80, n, t) := fun z z1 z2 => by
        rw [if_pos (by rw [hroot, a]; simp; omega), a, c, z1]
      apply hlt
      · split <;> rfl
      · split
        · rename_i hx
          rw [Bool.and_eq_true, decide_eq_true_eq] at hx
          exact hls hx.1
        · show 0 < n; omega
  refine ⟨?_, ?_, ⟨h, hb, h1, hn, ht, hr, rfl, fun q hq => by cases hq⟩⟩
  · unfold vopenE
    rw [hb, h.dead, hroots, if_neg (by decide), if_neg (by decide), if_neg (by show ¬ n = 0; omega)]
  · unfold vopenX
    rw [hroots]
theorem Sound.opens (h : Sound x) : vopenE x.disk = 0 ∧ vopenX x.disk = ⟨x.disk, x.text, x.num, [], false⟩ ∧ Sound ⟨x.disk, x.text, x.num, [], false⟩ := Go.Proofs.YtmloljjllmmkoaaGreat.opens h.alive h.big h.root h.one h.le h.tle
/-- what is opened behind a crash -/
theorem Gone.opens {s : DS} {t : ByteArray} {n : Nat} (h : Gone s) (hb : badV s = false) (hr : RootG s t n) (h1 : 1 ≤ n) (hn : n ≤ 1099511627776) (ht : t.size ≤ 40) : vopenE s.revive = 0 ∧ vopenX s.revive = ⟨s.revive, t, n, [], false⟩ ∧ Sound ⟨s.revive, t, n, [], false⟩ := by
  have hl : ∀ j : Nat, s.revive.look (j : Int) = s.at j := fun j => look_none (s := s.revive) h.none_
  refine Go.Proofs.YtmloljjllmmkoaaGreat.opens ⟨h.ok.revive, rfl, h.bad⟩ hb ⟨hr.stay, by rw [hl]; exact hr.stay, (hl _).symm, by rw [hl]; exact hr.less⟩ h1 hn ht
end
end Go.Proofs.YtmloljjllmmkoaaGreat

namespace Go.Proofs.YtmloljjllmmkoaaGreat
open Go

theorem zeros_blank : zeros 64 = zero64 := rfl
theorem fresh_alive {n : Nat} (h1 : 1 ≤ n) (h2 : n ≤ 16384) : Alive (fresh (blank n)) := ⟨blank_ok h1 h2, rfl, fun _ => rfl⟩
theorem blank_at {n j : Nat} (hj : j < n) : (fresh (blank n)).at j = zeros 64 := by
  rw [DS.at, zeros_blank]
  show (blank n).getD j none0 = _
  rw [blank, List.getD_eq_getElem?_getD, List.getElem?_replicate, if_pos hj]
  rfl
theorem no_root8 (i : Nat) : isRoot (zeros 64) i = false := no_root
/-- a new volume on a disk of noughts -/
theorem format_blank {n : Nat} (h1 : 32 ≤ n) (h2 : n ≤ 16384) {t : ByteArray} (ht : t.size ≤ 40) :
    vformE (fresh (blank n)) t = 0 ∧ Sound (vformX (fresh (blank n)) t) ∧ (vformD (fresh (blank n)) t).armed = 0 ∧ (vformD (fresh (blank n)) t).stay.length = n ∧ ∀ j, 2 ≤ j → j < n → (vformD (fresh (blank n)) t).look ((j : Nat) : Int) = zeros 64 := by
  have h0 := fresh_alive (n := n) (by omega) h2
  have hlen : (fresh (blank n)).stay.length = n := by simp [fresh, blank]
  have hb : badV (fresh (blank n)) = false := by
    unfold badV blkN
    rw [hlen, decide_eq_false (by omega), decide_eq_false (by omega)]; rfl
  have hat := fun j (hj : j < n) => blank_at (n := n) hj
  have hlk : ∀ j, j < n → (fresh (blank n)).look ((j : Nat) : Int) = zeros 64 := fun j hj => by rw [look_none rfl, hat j hj]
  have harm : (fresh (blank n)).armed = 0 := rfl
  unfold vformX vformE vformD
  generalize fresh (blank n) = s at *
  have hm0 : s.may ((0 : Nat) : Int) = 0 := h0.may (by omega)
  have hz : (zeros 64).size = 64 := size_zeros 64
  have hwE : s.writeE 0 (zeros 64) = 0 := by
    unfold DS.writeE
    rw [show s.may 0 = 0 from hm0, hz, h0.bad, if_neg (by decide), if_neg (by decide), if_neg (by decide), harm, if_neg (by decide)]
  have hw : s.write 0 (zeros 64) = s.lays ((0 : Nat) : Int) (zeros 64) := by
    unfold DS.write DS.fits
    rw [show s.may 0 = 0 from hm0, hz, h0.bad, harm, if_pos (by decide), if_neg (by decide)]
    rfl
  have ht' : ¬ 40 < t.size := by omega
  have hne : ¬ ((0 : Int) ≠ 0) := fun h => h rfl
  simp only [hb, ht', hwE, hne, if_false, Bool.false_eq_true, hw]
  have ha1 : Alive (s.lays ((0 : Nat) : Int) (zeros 64)) := ⟨h0.ok.lays (by omega) (by omega) hz, h0.dead, h0.bad⟩
  have hl1 : (s.lays ((0 : Nat) : Int) (zeros 64)).stay.length = n := hlen
  have hk1 : ∀ j, j < n → (s.lays ((0 : Nat) : Int) (zeros 64)).look ((j : Nat) : Int) = zeros 64 := fun j hj => by
    rw [look_lays8]
    split
    · rfl
    · exact hlk j hj
  have hat1 : ∀ j, j < n → (s.lays ((0 : Nat) : Int) (zeros 64)).at j = zeros 64 := hat
  have harm1 : (s.lays ((0 : Nat) : Int) (zeros 64)).armed = 0 := by simp [DS.lays, DS.tick, harm]
  generalize s.lays ((0 : Nat) : Int) (zeros 64) = s1 at *
  obtain ⟨c1, c2⟩ := rootPut_calm ha1 harm1 t 1 (by omega)
  rcases rootPut_is ha1 ht 1 (by omega) (fun j hj => by rw [hat1 j (by omega), hk1 j (by omega)]) with ⟨e, ha, hl, he⟩ | ⟨e, _⟩
  · generalize (rootPut t 1 s1).2 = s2 at *
    have hl2 : s2.stay.length = n := by rw [hl, hl1]
    have he1 := he 1 (by omega)
    have he0 := he 0 (by omega)
    rw [if_pos rfl] at he1
    rw [if_neg (by decide), hk1 0 (by omega)] at he0
    refine ⟨c1, ⟨ha, ?_, Nat.le_refl 1, show 1 ≤ 1099511627776 by decide, ht, ⟨he1.1, he1.2, show s2.at 0 = s2.look ((0 : Nat) : Int) by rw [he0.1, he0.2], fun hx => ?_⟩, rfl, fun q hq => by cases hq⟩, c2, hl2, fun j j1 j2 => ?_⟩
    · unfold badV blkN
      rw [hl2, decide_eq_false (by omega), decide_eq_false (by omega)]; rfl
    · have hx' : isRoot (s2.look ((0 : Nat) : Int)) 0 = true := hx
      rw [he0.2, no_root8] at hx'
      cases hx'
    · rw [(he j (by omega)).2, if_neg (by omega), hk1 j (by omega)]
  · rw [c1] at e; cases e
theorem bare_lies {s : DS} {v : Nat} (h : ∀ i, i < 4 → s.look ((4 * v + i : Nat) : Int) = zeros 64) : Lies s v (List.replicate 256 0) := fun i hi => by
  rw [h i hi]
  apply b_ext
  have e : secL (List.replicate 256 (0 : UInt8)) i = List.replicate 64 0 := by
    rw [secL_full (by rw [List.length_replicate]; omega), List.drop_replicate, List.take_replicate, show min 64 (256 - 64 * i) = 64 by omega]
  show (⟨(List.replicate 64 (0 : UInt8)).toArray⟩ : ByteArray).data.toList = (⟨(secL (List.replicate 256 0) i).toArray⟩ : ByteArray).data.toList
  rw [e]
section
variable {x : VS}
theorem Sound.commit_calm (h : Sound x) (ha : x.disk.armed = 0) {t : ByteArray} (ht : t.size ≤ 40) (hn : x.num < 1099511627776) : (x.commit t).1 = 0 ∧ (x.commit t).2.disk.armed = 0 := by
  have hb := big_is h.big
  obtain ⟨e1, e2⟩ := h.alive.calm_sync ha
  rcases h.alive.sync with ⟨_, hs⟩ | ⟨e, _⟩
  · obtain ⟨e3, e4⟩ := rootPut_calm hs.alive e2 t (x.num + 1) (by have := hs.len; omega)
    unfold VS.commit
    rw [h.live, if_neg (by omega), if_neg (by decide), if_neg (by omega), if_neg (by rw [e1]; simp), if_neg (by rw [e3]; simp)]
    exact ⟨rfl, e4⟩
  · rw [e1] at e; cases e
theorem Sound.commit_long (_h : Sound x) {t : ByteArray} (ht : 40 < t.size) : x.commit t = (83, x) := by
  unfold VS.commit
  rw [if_pos ht]
theorem Sound.write_calm (h : Sound x) (ha : x.disk.armed = 0) {v : Int} (hv : x.has v = true) {p : ByteArray} (hp : p.size ≤ 240) : (x.write v p).1 = 0 ∧ (x.write v p).2.disk.armed = 0 := by
  obtain ⟨hf, _⟩ := has_fit (has_is.1 hv)
  obtain ⟨e1, e2⟩ := puts_calm8 (from_ := 4 * v.toNat) (all := frameL p.data.toList) 4 0 h.alive ha (by omega)
  unfold VS.write storeV
  rw [hv, h.live, if_neg (by decide), if_neg (by omega), if_neg (by decide), if_neg (by rw [e1]; simp)]
  exact ⟨rfl, e2⟩
end
end Go.Proofs.YtmloljjllmmkoaaGreat

