/-
  FilRn / FilRm / FilRb.
-/
import Derived.Test.YtfokdmijkniomaaGreatDoorFilNm
import Derived.Test.YtfokdmijkniomaaGreatDoorFilEq
import Derived.Test.YtfokdmijkniomaaGreatDoorT4
import Derived.Deep.RegionHeld3
import Derived.OwnWalk
import Derived.Deep.CutRange
namespace Go.Proofs.YtfokdmijkniomaaGreatDoor
open Go.RowKit Go Go.Maps

def RTObj (v : Value) : Obj := .cells #[v] 36 (0, 0)
theorem RTObj.c0 {w : World} {b : Nat} {v : Value} (h : w.heap[b]? = some (RTObj v)) : w.cell? ⟨b, 0, none⟩ = some v := by simp [World.cell?, h, RTObj]
theorem RTObj.fr {w : World} {b : Nat} {v : Value} (h : w.heap[b]? = some (RTObj v)) : w.frozen? ⟨b, 0, none⟩ = false := by simp [World.frozen?, h, RTObj]
/-- a list's nodes, by their places -/
def idxF (k : Int) : List Nde → Nat → Int
  | [], _ => -1
  | r :: A, i => if r.num = k then i else idxF k A (i + 1)
theorem idx_drop {A : List Nde} {k : Int} {j : Nat} (h : j < A.length) : idxF k (A.drop j) j = if A[j].num = k then (j : Int) else idxF k (A.drop (j + 1)) (j + 1) := by
  rw [List.drop_eq_getElem_cons h, idxF]
/-- the place of a number's node, or -1 -/
def NodeIdx (T : List Nod) (k z : Int) : Prop := (nodeAt T k = none ∧ z = -1) ∨ ∃ (i : Nat) (h : i < T.length), nodeAt T k = some T[i] ∧ z = i
theorem idx_is : ∀ (T : List Nod) (k : Int) (i0 : Nat), (nodeAt T k = none ∧ idxF k (tolds T) i0 = -1) ∨ ∃ (i : Nat) (h : i < T.length), nodeAt T k = some T[i] ∧ idxF k (tolds T) i0 = (i0 + i : Nat)
  | [], k, i0 => .inl ⟨rfl, rfl⟩
  | x :: T, k, i0 => by
    show (nodeAt (x :: T) k = none ∧ idxF k (told x :: tolds T) i0 = -1) ∨ ∃ (i : Nat) (h : i < (x :: T).length), nodeAt (x :: T) k = some (x :: T)[i] ∧ idxF k (told x :: tolds T) i0 = (i0 + i : Nat)
    unfold idxF nodeAt
    rw [seekK]
    by_cases e : x.num = k
    · rw [if_pos e, if_pos (show (told x).num = k from e)]
      exact .inr ⟨0, by simp, by simp, by simp⟩
    · rw [if_neg e, if_neg (show ¬ (told x).num = k from e)]
      rcases idx_is T k (i0 + 1) with ⟨h1, h2⟩ | ⟨i, h, h1, h2⟩
      · exact .inl ⟨h1, h2⟩
      · exact .inr ⟨i + 1, by simp; omega, by simpa using (show seekK Nod.num T k = some T[i] from h1), by rw [h2]; congr 1; omega⟩
theorem node_idx (T : List Nod) (k : Int) : NodeIdx T k (idxF k (tolds T) 0) := by
  rcases idx_is T k 0 with h | ⟨i, h, h1, h2⟩
  · exact .inl h
  · exact .inr ⟨i, h, h1, by rw [h2]; simp⟩
section
variable {w w' : World}
set_option maxRecDepth 100000 in
set_option maxHeartbeats 4000000 in
theorem rnode_any {tb : Nat} {lv : Value} {A : List Nde} (ho : w.heap[tb]? = some (RTObj lv)) (hl : LstAt ndeC 4 w lv A) (hA : A.length ≤ 1000000) (k : Int) :
    Calls Tryz.prog 64 #[.pointer (some ⟨tb, 0, none⟩), .int .i64 k] w fun e w' => e = .returned (.int .i64 (idxF k A 0)) ∧ Below w.heap.size w w' := by
  have c0 := RTObj.c0 ho
  obtain ⟨Z, hZ⟩ : ∃ Z, idxF k A 0 = Z := ⟨_, rfl⟩
  have HZ := Lib.hid hZ
  rw [hZ]
  obtain ⟨a, cap, rfl, hc⟩ := hl
  have HC := Lib.hid hc
  have HAL := Lib.hid hA
  clear ho hZ hc hA
  go_enter Tryz.func64, Tryz.ntmps64
  go_wp2
  go_loopw [5] (fun i wr => ∃ j : Nat, j ≤ A.length ∧ i = .int .i64 j ∧ Hid (idxF k (A.drop j) j = Z) ∧ wr = w) (fun i _ => A.length - (intOf i).toNat)
  case atStart => exact ⟨0, Nat.zero_le _, rfl, Lib.hid (by rw [List.drop_zero]; exact HZ.out), rfl⟩
  case round =>
    obtain ⟨j, hj, rfl, HI, rfl⟩ := hrel
    by_cases hlt : j < A.length
    · have hji : (j : Int) < (A.length : Int) := by omega
      obtain ⟨b, off, rfl, hb, hc⟩ := HC.out (by rintro rfl; simp at hlt)
      have q0 : wr.cell? ⟨b, off + j * 4, none⟩ = some (.int .i64 A[j].num) := hc j hlt 0 (by omega)
      have hI := HI.out
      rw [idx_drop hlt] at hI
      have hw2 : RowKit.wrap64 ((j : Int) + 1) = (j : Int) + 1 := w64_cnt (by omega) (by have := HAL.out; omega)
      by_cases he : A[j].num = k
      · rw [if_pos he] at hI
        have heq : (k == k) = true := by simp
        rw [he] at q0
        have HJ := Lib.hid hI
        clear hc hb hI he
        go_wp2
        go_ret
        exact ⟨congrArg (fun z => Ending.returned (.int .i64 z)) HJ.out, Below.refl _ _⟩
      · rw [if_neg he] at hI
        have heq : (A[j].num == k) = false := by simp [he]
        have HJ := Lib.hid hI
        generalize A[j].num = z at *
        clear hc hb hI he
        go_wp2
        go_roundw
        case rel => exact ⟨j + 1, hlt, (by first | exact num_up hw2 | rfl), HJ, trivial⟩
        case measure => first | exact meas_v hlt hw2 rfl rfl | exact meas_u hlt rfl rfl
    · have hji : ¬ (j : Int) < (A.length : Int) := by omega
      have hI := HI.out
      rw [List.drop_of_length_le (by omega)] at hI
      have HJ := Lib.hid (show Z = -1 from hI.symm)
      clear hI
      go_wp2
      go_ret
      exact ⟨congrArg (fun z => Ending.returned (.int .i64 z)) HJ.out.symm, Below.refl _ _⟩
set_option maxRecDepth 100000 in
set_option maxHeartbeats 4000000 in
theorem rentries_any {x : Nde} {l : List Ent} (hx : IsL kE x.data.data.toList l) (hs : x.data.size ≤ 281474976710656) (w : World) :
    Calls Tryz.prog 47 #[ndeV x] w fun e w' => ∃ v, e = .returned v ∧ w'.ownsRow w.heap.size 88 2 v l.length (l.flatMap entC) ∧ Below w.heap.size w w' := by
  obtain ⟨w1, hw1⟩ : ∃ w1, w.alloc (NdeObj x) = w1 := ⟨_, rfl⟩
  have hB1 : Below w.heap.size w w1 := by rw [← hw1]; exact (Below.refl _ w).alloc (Nat.le_refl _) _
  have z1 : NdeAt x w.heap.size w1 := by rw [← hw1]; exact .new _ _
  have d3 := z1.cells.2.2.2
  have CP := WT.entRParse_any x.data hs w1
  have HX := Lib.hid hx
  have HB1 := Lib.hid hB1
  unfold NdeObj at hw1
  clear hB1 z1 hx
  unfold ndeV
  go_enter Tryz.func47, Tryz.ntmps47
  go_wp2_with fail
  refine CP.mono ?_
  rintro e w2 ⟨hP, hB2⟩
  rcases hP with ⟨m, v, hm, rfl, hr⟩ | ⟨hno, _⟩
  · have := hm.uniq (readsE (a := 65535) (by omega)) HX.out
    subst this
    have HR := Lib.hid (Joins.ownsRow_le hr HB1.out.size)
    have HB2 := Lib.hid (HB1.out.trans (hB2.mono HB1.out.size))
    clear CP hB2 hm hr
    go_wp2
    go_ret
    exact ⟨_, rfl, HR.out, HB2.out⟩
  · exact absurd HX.out (hno _)
end

/-! ### One that goes through a tree -/
section
variable {w w' : World} {mb tb p n : Nat} {ok : Bool}
end
/-- nodes that were parsed -/
structure RawR (T : List Nod) : Prop where
  rise : RiseN T
  len : T.length ≤ 60
  dir : ∀ x ∈ T, x.dir = true → IsL kE (told x).data.data.toList x.names ∧ x.names.length ≤ 60
  size : ∀ x ∈ T, (told x).data.size ≤ 16384
  file : ∀ x ∈ T, x.dir = false → x.names = []
end Go.Proofs.YtfokdmijkniomaaGreatDoor

namespace Go.Proofs.YtfokdmijkniomaaGreatDoor
open Go.RowKit Go Go.Maps

section
variable {w w' : World} {mb tb p : Nat} {lv : Value} {T : List Nod} {ok : Bool} {c : Int → Nat}
end
end Go.Proofs.YtfokdmijkniomaaGreatDoor

namespace Go.Proofs.YtfokdmijkniomaaGreatDoor
open Go.RowKit Go Go.Maps

theorem w64_big {z : Int} (h0 : 0 ≤ z) (h1 : z ≤ 2000000000000000000) : RowKit.wrap64 (1 + z) = 1 + z := by
  simp [RowKit.wrap64]; omega
section
variable {mb tb p : Nat} {lv : Value} {T : List Nod}
theorem RawR.names (hR : RawR T) (k : Int) : (namesAt T k).length ≤ 60 := by
  unfold namesAt
  split
  · rename_i x hx
    cases hd : x.dir with
    | true => exact (hR.dir x (at_mem hx).1 hd).2
    | false => rw [hR.file x (at_mem hx).1 hd]; simp
  · simp
theorem own_low {w : World} {base n : Nat} {e : TypeId} {k : Nat} {v : Value} {xs : List Value} (h : w.ownsRow base e k v n xs) {b off m cap : Nat} (hv : v = .slice (some ⟨b, off, none⟩) m cap) : base ≤ b := by
  subst hv
  rcases h.2 with ⟨e, _⟩ | ⟨g, cap', cur, e, h2, _⟩
  · cases e
  · cases e; exact h2
end
end Go.Proofs.YtfokdmijkniomaaGreatDoor

