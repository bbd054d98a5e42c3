/-
  FilRn / FilRm / FilRb.
-/
import Derived.Test.YtfncoojpommfcaaGreatDoorFilNm
import Derived.Test.YtfncoojpommfcaaGreatDoorFilEq
import Derived.Test.YtfncoojpommfcaaGreatDoorT4
import Derived.Deep.RegionHeld3
import Derived.OwnWalk
import Derived.Deep.CutRange
namespace Go.Proofs.YtfncoojpommfcaaGreatDoor
open Go.RowKit Go Go.Maps

def RTObj (v : Value) : Obj := .cells #[v] 36 (0, 0)
theorem RTObj.c0 {w : World} {b : Nat} {v : Value} (h : w.heap[b]? = some (RTObj v)) : w.cell? ⟨b, 0, none⟩ = some v := by simp [World.cell?, h, RTObj]
theorem RTObj.fr {w : World} {b : Nat} {v : Value} (h : w.heap[b]? = some (RTObj v)) : w.frozen? ⟨b, 0, none⟩ = false := by simp [World.frozen?, h, RTObj]
/-- a list's nodes, by their places -/
def idxF (k : Int) : List Nde → Nat → Int
  | [], _ => -1
  | r :: A, i => if r.num = k then i else idxF k A (i + 1)
theorem idx_drop {A : List Nde} {k : Int} {j : Nat} (h : j < A.length) : idxF k (A.drop j) j = if A[j].num = k then (j : Int) else idxF k (A.drop (j + 1)) (j + 1) := by
  rw [List.drop_eq_getElem_cons h, idxF]
/-- the place of a number's node, or -1 -/
def NodeIdx (T : List Nod) (k z : Int) : Prop := (nodeAt T k = none ∧ z = -1) ∨ ∃ (i : Nat) (h : i < T.length), nodeAt T k = some T[i] ∧ z = i
theorem idx_is : ∀ (T : List Nod) (k : Int) (i0 : Nat), (nodeAt T k = none ∧ idxF k (tolds T) i0 = -1) ∨ ∃ (i : Nat) (h : i < T.length), nodeAt T k = some T[i] ∧ idxF k (tolds T) i0 = (i0 + i : Nat)
  | [], k, i0 => .inl ⟨rfl, rfl⟩
  | x :: T, k, i0 => by
    show (nodeAt (x :: T) k = none ∧ idxF k (told x :: tolds T) i0 = -1) ∨ ∃ (i : Nat) (h : i < (x :: T).length), nodeAt (x :: T) k = some (x :: T)[i] ∧ idxF k (told x :: tolds T) i0 = (i0 + i : Nat)
    unfold idxF nodeAt
    rw [seekK]
    by_cases e : x.num = k
    · rw [if_pos e, if_pos (show (told x).num = k from e)]
      exact .inr ⟨0, by simp, by simp, by simp⟩
    · rw [if_neg e, if_neg (show ¬ (told x).num = k from e)]
      rcases idx_is T k (i0 + 1) with ⟨h1, h2⟩ | ⟨i, h, h1, h2⟩
      · exact .inl ⟨h1, h2⟩
      · exact .inr ⟨i + 1, by simp; omega, by simpa using (show seekK Nod.num T k = some T[i] from h1), by rw [h2]; congr 1; omega⟩
theorem node_idx (T : List Nod) (k : Int) : NodeIdx T k (idxF k (tolds T) 0) := by
  rcases idx_is T k 0 with h | ⟨i, h, h1, h2⟩
  · exact .inl h
  · exact .inr ⟨i, h, h1, by rw [h2]; simp⟩
section
variable {w w' : World}
set_option maxRecDepth 100000 in
set_option maxHeartbeats 4000000 in
theorem rnode_any {tb : Nat} {lv : Value} {A : List Nde} (ho : w.heap[tb]? = some (RTObj lv)) (hl : LstAt ndeC 4 w lv A) (hA : A.length ≤ 1000000) (k : Int) :
    Calls Tryz.prog 78 #[.pointer (some ⟨tb, 0, none⟩), .int .i64 k] w fun e w' => e = .returned (.int .i64 (idxF k A 0)) ∧ Below w.heap.size w w' := by
  have c0 := RTObj.c0 ho
  obtain ⟨Z, hZ⟩ : ∃ Z, idxF k A 0 = Z := ⟨_, rfl⟩
  have HZ := Lib.hid hZ
  rw [hZ]
  obtain ⟨a, cap, rfl, hc⟩ := hl
  have HC := Lib.hid hc
  have HAL := Lib.hid hA
  clear ho hZ hc hA
  go_enter Tryz.func78, Tryz.ntmps78
  go_wp2
  go_loopw [5] (fun i wr => ∃ j : Nat, j ≤ A.length ∧ i = .int .i64 j ∧ Hid (idxF k (A.drop j) j = Z) ∧ wr = w) (fun i _ => A.length - (intOf i).toNat)
  case atStart => exact ⟨0, Nat.zero_le _, rfl, Lib.hid (by rw [List.drop_zero]; exact HZ.out), rfl⟩
  case round =>
    obtain ⟨j, hj, rfl, HI, rfl⟩ := hrel
    by_cases hlt : j < A.length
    · have hji : (j : Int) < (A.length : Int) := by omega
      obtain ⟨b, off, rfl, hb, hc⟩ := HC.out (by rintro rfl; simp at hlt)
      have q0 : wr.cell? ⟨b, off + j * 4, none⟩ = some (.int .i64 A[j].num) := hc j hlt 0 (by omega)
      have hI := HI.out
      rw [idx_drop hlt] at hI
      have hw2 : RowKit.wrap64 ((j : Int) + 1) = (j : Int) + 1 := w64_cnt (by omega) (by have := HAL.out; omega)
      by_cases he : A[j].num = k
      · rw [if_pos he] at hI
        have heq : (k == k) = true := by simp
        rw [he] at q0
        have HJ := Lib.hid hI
        clear hc hb hI he
        go_wp2
        go_ret
        exact ⟨congrArg (fun z => Ending.returned (.int .i64 z)) HJ.out, Below.refl _ _⟩
      · rw [if_neg he] at hI
        have heq : (A[j].num == k) = false := by simp [he]
        have HJ := Lib.hid hI
        generalize A[j].num = z at *
        clear hc hb hI he
        go_wp2
        go_roundw
        case rel => exact ⟨j + 1, hlt, (by first | exact num_up hw2 | rfl), HJ, trivial⟩
        case measure => first | exact meas_v hlt hw2 rfl rfl | exact meas_u hlt rfl rfl
    · have hji : ¬ (j : Int) < (A.length : Int) := by omega
      have hI := HI.out
      rw [List.drop_of_length_le (by omega)] at hI
      have HJ := Lib.hid (show Z = -1 from hI.symm)
      clear hI
      go_wp2
      go_ret
      exact ⟨congrArg (fun z => Ending.returned (.int .i64 z)) HJ.out.symm, Below.refl _ _⟩
set_option maxRecDepth 100000 in
set_option maxHeartbeats 4000000 in
theorem rentries_any {x : Nde} {l : List Ent} (hx : IsL kE x.data.data.toList l) (hs : x.data.size ≤ 281474976710656) (w : World) :
    Calls Tryz.prog 57 #[ndeV x] w fun e w' => ∃ v, e = .returned v ∧ w'.ownsRow w.heap.size 98 2 v l.length (l.flatMap entC) ∧ Below w.heap.size w w' := by
  obtain ⟨w1, hw1⟩ : ∃ w1, w.alloc (NdeObj x) = w1 := ⟨_, rfl⟩
  have hB1 : Below w.heap.size w w1 := by rw [← hw1]; exact (Below.refl _ w).alloc (Nat.le_refl _) _
  have z1 : NdeAt x w.heap.size w1 := by rw [← hw1]; exact .new _ _
  have d3 := z1.cells.2.2.2
  have CP := WT.entRParse_any x.data hs w1
  have HX := Lib.hid hx
  have HB1 := Lib.hid hB1
  unfold NdeObj at hw1
  clear hB1 z1 hx
  unfold ndeV
  go_enter Tryz.func57, Tryz.ntmps57
  go_wp2_with fail
  refine CP.mono ?_
  rintro e w2 ⟨hP, hB2⟩
  rcases hP with ⟨m, v, hm, rfl, hr⟩ | ⟨hno, _⟩
  · have := hm.uniq (readsE (a := 65535) (by omega)) HX.out
    subst this
    have HR := Lib.hid (Joins.ownsRow_le hr HB1.out.size)
    have HB2 := Lib.hid (HB1.out.trans (hB2.mono HB1.out.size))
    clear CP hB2 hm hr
    go_wp2
    go_ret
    exact ⟨_, rfl, HR.out, HB2.out⟩
  · exact absurd HX.out (hno _)
end

/-! ### One that goes through a tree -/
def MObj (tb p n : Nat) (ok : Bool) : Obj := .cells #[.pointer (some ⟨tb, 0, none⟩), .slice (some ⟨p, 0, none⟩) n n, .bool ok] 105 (0, 0)
section
variable {w w' : World} {mb tb p n : Nat} {ok : Bool}
theorem MObj.c0 (h : w.heap[mb]? = some (MObj tb p n ok)) : w.cell? ⟨mb, 0, none⟩ = some (.pointer (some ⟨tb, 0, none⟩)) := by simp [World.cell?, h, MObj]
theorem MObj.c1 (h : w.heap[mb]? = some (MObj tb p n ok)) : w.cell? ⟨mb, 1, none⟩ = some (.slice (some ⟨p, 0, none⟩) n n) := by simp [World.cell?, h, MObj]
theorem MObj.c2 (h : w.heap[mb]? = some (MObj tb p n ok)) : w.cell? ⟨mb, 2, none⟩ = some (.bool ok) := by simp [World.cell?, h, MObj]
theorem MObj.fr (h : w.heap[mb]? = some (MObj tb p n ok)) (i : Nat) : w.frozen? ⟨mb, i, none⟩ = false := by simp [World.frozen?, h, MObj]
theorem MObj.set2 (h : w.heap[mb]? = some (MObj tb p n ok)) (b : Bool) : (w.setCell ⟨mb, 2, none⟩ (.bool b)).heap[mb]? = some (MObj tb p n b) := by rw [heap_set h]; rfl
end
/-- nodes that were parsed -/
structure RawR (T : List Nod) : Prop where
  rise : RiseN T
  len : T.length ≤ 60
  dir : ∀ x ∈ T, x.dir = true → IsL kE (told x).data.data.toList x.names ∧ x.names.length ≤ 60
  size : ∀ x ∈ T, (told x).data.size ≤ 16384
  file : ∀ x ∈ T, x.dir = false → x.names = []
/-- how many names are met at most -/
def meetB : Nat → Int
  | 0 => 0
  | f + 1 => 60 * (1 + meetB f)
theorem meetB_pos : ∀ f, 0 ≤ meetB f
  | 0 => Int.le_refl _
  | f + 1 => by have := meetB_pos f; rw [meetB]; omega
def incB : Nat → Nat → Int
  | 0, _ => 0
  | f + 1, n => n * (1 + meetB f)
theorem incB_le {f n : Nat} (h : n ≤ 60) : incB f n ≤ meetB f := by
  cases f with
  | zero => exact Int.le_refl _
  | succ f =>
    rw [incB, meetB]
    exact Int.mul_le_mul_of_nonneg_right (by omega) (by have := meetB_pos f; omega)
theorem incB_pos (f n : Nat) : 0 ≤ incB f n := by
  cases f with
  | zero => exact Int.le_refl _
  | succ f =>
    rw [incB]
    exact Int.mul_nonneg (by omega) (by have := meetB_pos f; omega)
theorem incB_step (f n : Nat) : incB (f + 1) (n + 1) = incB (f + 1) n + (1 + meetB f) := by
  rw [incB, incB, Int.natCast_add, Int.add_mul]; simp
theorem meet_le {T : List Nod} (hn : ∀ k, (namesAt T k).length ≤ 60) : ∀ {f : Nat} {l : List Ent} {c : Int → Nat} (k : Int), ((meetL T f l c).1 k : Int) ≤ c k + incB f l.length
  | f, [], c, k => by rw [meetL]; have := incB_pos f 0; show (c k : Int) ≤ c k + incB f 0; omega
  | 0, _ :: _, c, k => by rw [meetL]; show (c k : Int) ≤ c k + 0; omega
  | f + 1, e :: l, c, k => by
    have hp := meetB_pos f
    have hup : ((upc c e.num) k : Int) ≤ c k + 1 := by unfold upc; split <;> omega
    have hll := incB_pos (f + 1) l.length
    rw [List.length_cons, incB_step, meetL]
    split
    · show (c k : Int) ≤ _; omega
    · split
      · split
        · have ih1 := meet_le hn (f := f) (l := namesAt T e.num) (c := upc c e.num) k
          have hk := incB_le (f := f) (hn e.num)
          split
          · rename_i c2 h2
            rw [h2] at ih1
            show (c2 k : Int) ≤ _
            simp only at ih1
            omega
          · rename_i c2 h2
            rw [h2] at ih1
            simp only at ih1
            have ih2 := meet_le hn (f := f + 1) (l := l) (c := c2) k
            omega
        · show ((upc c e.num) k : Int) ≤ _; omega
      · have ih2 := meet_le hn (f := f + 1) (l := l) (c := upc c e.num) k
        omega
termination_by f l => (f, l.length)
end Go.Proofs.YtfncoojpommfcaaGreatDoor

namespace Go.Proofs.YtfncoojpommfcaaGreatDoor
open Go.RowKit Go Go.Maps

theorem numAt_get {T : List Nod} {i : Nat} (h : i < T.length) : numAt T i = T[i].num := by simp [numAt, List.getD, h]
theorem numAt_inj {T : List Nod} (hr : RiseN T) {i j : Nat} (hi : i < T.length) (hj : j < T.length) (e : numAt T i = numAt T j) : i = j := by
  rw [numAt_get hi, numAt_get hj] at e
  rcases Nat.lt_trichotomy i j with c | c | c
  · have := (List.pairwise_iff_getElem.1 hr) i j hi hj c
    rw [e, ordI.irr] at this; cases this
  · exact c
  · have := (List.pairwise_iff_getElem.1 hr) j i hj hi c
    rw [e, ordI.irr] at this; cases this
/-- one that goes through a tree, with what it has counted -/
structure MeetAt (w : World) (mb tb p : Nat) (lv : Value) (T : List Nod) (ok : Bool) (c : Int → Nat) : Prop where
  obj : w.heap[mb]? = some (MObj tb p T.length ok)
  tree : w.heap[tb]? = some (RTObj lv)
  list : LstAt ndeC 4 w lv (tolds T)
  row : w.heap[p]? = some (intsO T.length (fun i => (c (numAt T i) : Nat)))
  ne : tb ≠ mb ∧ tb ≠ p ∧ mb ≠ p
  far : ∀ b off n cap, lv = .slice (some ⟨b, off, none⟩) n cap → b ≠ mb ∧ b ≠ p
section
variable {w w' : World} {mb tb p : Nat} {lv : Value} {T : List Nod} {ok : Bool} {c : Int → Nat}
/-- what is neither the counter's nor its counts' is turned, or new -/
theorem MeetAt.stay {F : Nat → Prop} (h : MeetAt w mb tb p lv T ok c) (s : Stir F w w') (hF : ∀ i, F i → i ≠ mb ∧ i ≠ p ∧ i ≠ tb ∧ ∀ off n cap, lv ≠ .slice (some ⟨i, off, none⟩) n cap) : MeetAt w' mb tb p lv T ok c :=
  ⟨s.keep h.obj (fun f => (hF _ f).1 rfl), s.keep h.tree (fun f => (hF _ f).2.2.1 rfl), h.list.same s.size (fun b off cap e hlt => s.block b hlt (fun f => (hF _ f).2.2.2 off _ cap e)), s.keep h.row (fun f => (hF _ f).2.1 rfl), h.ne, h.far⟩
theorem MeetAt.later (h : MeetAt w mb tb p lv T ok c) (hB : Below w.heap.size w w') : MeetAt w' mb tb p lv T ok c := h.stay (Stir.of_below (F := fun _ => False) hB) (fun _ f => f.elim)
theorem MeetAt.drew (h : MeetAt w mb tb p lv T ok c) : MeetAt w.drew mb tb p lv T ok c := h.later ((Below.refl _ w).drew)
/-- all is right, or not -/
theorem MeetAt.setOk (h : MeetAt w mb tb p lv T ok c) (b : Bool) : MeetAt (w.setCell ⟨mb, 2, none⟩ (.bool b)) mb tb p lv T b c := by
  have s : Stir (fun i => i = mb) w (w.setCell ⟨mb, 2, none⟩ (.bool b)) := (Stir.refl (fun i => i = mb) w).set (.inl rfl) _
  exact ⟨MObj.set2 h.obj b, s.keep h.tree h.ne.1, h.list.same s.size (fun b off cap e hlt => s.block b hlt (h.far b off _ cap e).1), s.keep h.row (fun e => h.ne.2.2 e.symm), h.ne, h.far⟩
/-- one more -/
theorem MeetAt.up (hr : RiseN T) (h : MeetAt w mb tb p lv T ok c) {i : Nat} (hi : i < T.length) : MeetAt (w.setCell ⟨p, i, none⟩ (.int .i64 ((c T[i].num : Nat) + 1))) mb tb p lv T ok (upc c T[i].num) := by
  have s : Stir (fun i => i = p) w (w.setCell ⟨p, i, none⟩ (.int .i64 ((c T[i].num : Nat) + 1))) := (Stir.refl (fun i => i = p) w).set (.inl rfl) _
  refine ⟨s.keep h.obj h.ne.2.2, s.keep h.tree h.ne.2.1, h.list.same s.size (fun b off cap e hlt => s.block b hlt (h.far b off _ cap e).2), ?_, h.ne, h.far⟩
  rw [intsO.set h.row]
  refine congrArg some (intsO_congr (fun t ht => ?_))
  unfold updN upc
  by_cases e : t = i
  · subst e
    rw [if_pos rfl, if_pos (numAt_get ht), numAt_get ht]; simp
  · rw [if_neg e, if_neg (fun e2 => e (numAt_inj hr ht hi (e2.trans (numAt_get hi).symm)))]
theorem MeetAt.count (h : MeetAt w mb tb p lv T ok c) {i : Nat} (hi : i < T.length) : w.cell? ⟨p, i, none⟩ = some (.int .i64 (c T[i].num : Nat)) := by
  rw [intsO.cell h.row hi, numAt_get hi]
/-- a node of the list -/
theorem MeetAt.node (h : MeetAt w mb tb p lv T ok c) {i : Nat} (hi : i < T.length) : ∃ b off cap, lv = .slice (some ⟨b, off, none⟩) T.length cap ∧
    w.cell? ⟨b, off + i * 4, none⟩ = some (.int .i64 T[i].num) ∧ w.cell? ⟨b, off + i * 4 + 1, none⟩ = some (.bool T[i].dir) ∧ w.cell? ⟨b, off + i * 4 + 2, none⟩ = some (.int .i64 T[i].links) ∧ w.cell? ⟨b, off + i * 4 + 3, none⟩ = some (.string (told T[i]).data) := by
  obtain ⟨a, cap, e, hc⟩ := h.list
  have hl : i < (tolds T).length := by rw [tolds_len]; exact hi
  obtain ⟨b, off, rfl, _, hc⟩ := hc (by intro h; rw [h] at hl; simp at hl)
  have hg := fun k hk => hc i hl k hk
  rw [tolds_get] at hg
  rw [tolds_len] at e
  exact ⟨b, off, cap, e, hg 0 (by omega), hg 1 (by omega), hg 2 (by omega), hg 3 (by omega)⟩
theorem isDir_get (hr : RiseN T) {i : Nat} (hi : i < T.length) : nodeAt T T[i].num = some T[i] ∧ isDir T T[i].num = T[i].dir ∧ namesAt T T[i].num = T[i].names := by
  have h := hr.at (List.getElem_mem hi)
  exact ⟨h, (isDir_at h).1, (isDir_at h).2⟩
theorem MeetAt.up_y (hr : RiseN T) (h : MeetAt w mb tb p lv T ok c) {i : Nat} {y : Nod} (hy : T[i]? = some y) : MeetAt (w.setCell ⟨p, i, none⟩ (.int .i64 ((c y.num : Nat) + 1))) mb tb p lv T ok (upc c y.num) := by
  obtain ⟨hi, rfl⟩ := List.getElem?_eq_some_iff.1 hy
  exact h.up hr hi
theorem MeetAt.count_y (h : MeetAt w mb tb p lv T ok c) {i : Nat} {y : Nod} (hy : T[i]? = some y) : w.cell? ⟨p, i, none⟩ = some (.int .i64 (c y.num : Nat)) := by
  obtain ⟨hi, rfl⟩ := List.getElem?_eq_some_iff.1 hy
  exact h.count hi
theorem MeetAt.node_y (h : MeetAt w mb tb p lv T ok c) {i : Nat} {y : Nod} (hy : T[i]? = some y) : ∃ b off cap, lv = .slice (some ⟨b, off, none⟩) T.length cap ∧
    w.cell? ⟨b, off + i * 4, none⟩ = some (.int .i64 y.num) ∧ w.cell? ⟨b, off + i * 4 + 1, none⟩ = some (.bool y.dir) ∧ w.cell? ⟨b, off + i * 4 + 2, none⟩ = some (.int .i64 y.links) ∧ w.cell? ⟨b, off + i * 4 + 3, none⟩ = some (.string (toldB y)) := by
  obtain ⟨hi, rfl⟩ := List.getElem?_eq_some_iff.1 hy
  exact h.node hi
theorem isDir_y (hr : RiseN T) {i : Nat} {y : Nod} (hy : T[i]? = some y) : nodeAt T y.num = some y ∧ isDir T y.num = y.dir ∧ namesAt T y.num = y.names ∧ y ∈ T ∧ i < T.length := by
  obtain ⟨hi, rfl⟩ := List.getElem?_eq_some_iff.1 hy
  obtain ⟨a, b, c⟩ := isDir_get hr hi
  exact ⟨a, b, c, List.getElem_mem _, hi⟩
end
end Go.Proofs.YtfncoojpommfcaaGreatDoor

namespace Go.Proofs.YtfncoojpommfcaaGreatDoor
open Go.RowKit Go Go.Maps

theorem w64_big {z : Int} (h0 : 0 ≤ z) (h1 : z ≤ 2000000000000000000) : RowKit.wrap64 (1 + z) = 1 + z := by
  simp [RowKit.wrap64]; omega
theorem meetB8 {f : Nat} (h : f ≤ 8) : meetB f ≤ 200000000000000 := by
  have : ∀ n : Fin 9, meetB n.val ≤ 200000000000000 := by decide
  exact this ⟨f, by omega⟩
section
variable {mb tb p : Nat} {lv : Value} {T : List Nod}
theorem RawR.names (hR : RawR T) (k : Int) : (namesAt T k).length ≤ 60 := by
  unfold namesAt
  split
  · rename_i x hx
    cases hd : x.dir with
    | true => exact (hR.dir x (at_mem hx).1 hd).2
    | false => rw [hR.file x (at_mem hx).1 hd]; simp
  · simp
theorem own_low {w : World} {base n : Nat} {e : TypeId} {k : Nat} {v : Value} {xs : List Value} (h : w.ownsRow base e k v n xs) {b off m cap : Nat} (hv : v = .slice (some ⟨b, off, none⟩) m cap) : base ≤ b := by
  subst hv
  rcases h.2 with ⟨e, _⟩ | ⟨g, cap', cur, e, h2, _⟩
  · cases e
  · cases e; exact h2
theorem meet_bad {f : Nat} {e : Ent} {l : List Ent} {c : Int → Nat} (h : nodeAt T e.num = none ∨ e.num = 1 ∨ f = 0) : meetL T f (e :: l) c = (c, false) := by
  cases f with
  | zero => rw [meetL]
  | succ f => rw [meetL, if_pos (by rcases h with h | h | h; exact .inl h; exact .inr h; cases h)]
theorem meet_file {f : Nat} {e : Ent} {l : List Ent} {c : Int → Nat} (h : nodeAt T e.num ≠ none) (h1 : e.num ≠ 1) (hd : isDir T e.num = false) : meetL T (f + 1) (e :: l) c = meetL T (f + 1) l (upc c e.num) := by
  rw [meetL, if_neg (fun x => x.elim h h1), if_neg (by simp [hd])]
theorem meet_twice {f : Nat} {e : Ent} {l : List Ent} {c : Int → Nat} (h : nodeAt T e.num ≠ none) (h1 : e.num ≠ 1) (hd : isDir T e.num = true) (hc : c e.num ≠ 0) : meetL T (f + 1) (e :: l) c = (upc c e.num, false) := by
  rw [meetL, if_neg (fun x => x.elim h h1), if_pos hd, if_neg (by rw [upc_self]; omega)]
theorem meet_dir {f : Nat} {e : Ent} {l : List Ent} {c : Int → Nat} (h : nodeAt T e.num ≠ none) (h1 : e.num ≠ 1) (hd : isDir T e.num = true) (hc : c e.num = 0) :
    meetL T (f + 1) (e :: l) c = if (meetL T f (namesAt T e.num) (upc c e.num)).2 = true then meetL T (f + 1) l (meetL T f (namesAt T e.num) (upc c e.num)).1 else ((meetL T f (namesAt T e.num) (upc c e.num)).1, false) := by
  rw [meetL, if_neg (fun x => x.elim h h1), if_pos hd, if_pos (by rw [upc_self, hc])]
  cases hm : meetL T f (namesAt T e.num) (upc c e.num) with
  | mk c2 b => cases b <;> simp
set_option maxRecDepth 100000 in
set_option maxHeartbeats 16000000 in
theorem rbelow_any (hR : RawR T) : ∀ (f : Nat) {w : World} {x : Nde} {l : List Ent} {c : Int → Nat}, MeetAt w mb tb p lv T true c → IsL kE x.data.data.toList l → x.data.size ≤ 16384 → l.length ≤ 60 → f ≤ 8 →
    (∀ k, (c k : Int) + incB f l.length ≤ 1000000000000000) →
    Calls Tryz.prog 62 #[.pointer (some ⟨mb, 0, none⟩), ndeV x, .int .i64 f] w fun e w' =>
      e = .returned (.tuple #[]) ∧ Stir (fun i => i = mb ∨ i = p) w w' ∧ MeetAt w' mb tb p lv T (meetL T f l c).2 (meetL T f l c).1 := by
  intro f
  induction f using Nat.strongRecOn with
  | ind f ih =>
  intro w x l c h hx hxs hl60 hf8 hct
  have hn60 : ∀ k, (namesAt T k).length ≤ 60 := fun k => hR.names k
  obtain ⟨R, hRR⟩ : ∃ R, meetL T f l c = R := ⟨_, rfl⟩
  have HRR := Lib.hid hRR
  rw [hRR]
  obtain ⟨w1, hw1⟩ : ∃ w1, w.alloc (NdeObj x) = w1 := ⟨_, rfl⟩
  have hB1 : Below w.heap.size w w1 := by rw [← hw1]; exact (Below.refl _ w).alloc (Nat.le_refl _) _
  have z1 : NdeAt x w.heap.size w1 := by rw [← hw1]; exact .new _ _
  obtain ⟨d0, d1, d2, d3⟩ := z1.cells
  have CE := rentries_any hx (by omega) w1
  have HH := Lib.hid (h.later hB1)
  have HB1 := Lib.hid hB1
  have HL60 := Lib.hid hl60
  have HF8 := Lib.hid hf8
  have HCT := Lib.hid hct
  have HIH := Lib.hid ih
  have HR := Lib.hid hR
  have HN60 := Lib.hid hn60
  unfold NdeObj at hw1
  unfold ndeV at CE ⊢
  clear h hx hxs hl60 hf8 hct ih hR hn60 hRR hB1 z1
  go_enter Tryz.func62, Tryz.ntmps62
  go_wp2_with fail
  refine CE.mono ?_
  rintro e w2 ⟨v, rfl, hrow, hB2⟩
  have HH2 := Lib.hid (HH.out.later hB2)
  have HB2 := Lib.hid (HB1.out.trans (hB2.mono HB1.out.size))
  have hls := WT.lst_of_owns (C := entC) (fun _ => rfl) (by have := HL60.out; omega) hrow
  have HLOW := Lib.hid (fun b off m cap e => own_low hrow (b := b) (off := off) (m := m) (cap := cap) e)
  have HMP := Lib.hid (show mb < w1.heap.size ∧ p < w1.heap.size from ⟨lt_of_heap HH.out.obj, lt_of_heap HH.out.row⟩)
  have HLS := Lib.hid (fun (W : World) (hS : Stir (fun i => i = mb ∨ i = p) w2 W) => show LstAt entC 2 W v l from hls.same hS.size (fun b off cap e hlt => hS.block b hlt (fun f => by
    have := HLOW.out b off _ cap e
    have := HMP.out
    rcases f with rfl | rfl <;> omega)))
  obtain ⟨a, cap, rfl, hla⟩ := hls
  clear CE hrow hB2 hla d0 d1 d2 d3
  go_wp2
  go_loopw [7] (fun i wr => ∃ (j : Nat) (ok : Bool) (cj : Int → Nat), j ≤ l.length ∧ i = .int .i64 j ∧ Hid (Stir (fun i => i = mb ∨ i = p) w2 wr ∧ MeetAt wr mb tb p lv T ok cj) ∧
    Hid ((ok = true → meetL T f (l.drop j) cj = R ∧ ∀ k, (cj k : Int) + incB f (l.length - j) ≤ 1000000000000000) ∧ (ok = false → R = (cj, false)))) (fun i _ => l.length - (intOf i).toNat)
  case atStart =>
    exact ⟨0, true, c, Nat.zero_le _, rfl, Lib.hid ⟨Stir.refl _ _, HH2.out⟩, Lib.hid ⟨fun _ => ⟨by rw [List.drop_zero]; exact HRR.out, fun k => by rw [Nat.sub_zero]; exact HCT.out k⟩, fun h => by cases h⟩⟩
  case round =>
    obtain ⟨j, ok, cj, hj, rfl, HI, HC⟩ := hrel
    have HST := Lib.hid (show Stir (fun i => i = mb ∨ i = p) w wr from (Stir.of_below HB2.out).trans HI.out.1 (fun i hi => .inl hi))
    have m0 := MObj.c0 HI.out.2.obj
    have m1 := MObj.c1 HI.out.2.obj
    have m2 := MObj.c2 HI.out.2.obj
    by_cases hlt : j < l.length
    · have hji : (j : Int) < (l.length : Int) := by omega
      cases ok with
      | false =>
        have hR := HC.out.2 rfl
        have HFin := Lib.hid (show MeetAt wr mb tb p lv T R.2 R.1 from by rw [hR]; exact HI.out.2)
        clear hR
        go_wp2
        go_end0
        exact ⟨rfl, HST.out, HFin.out⟩
      | true =>
        obtain ⟨hR, hcj⟩ := HC.out.1 rfl
        obtain ⟨a', cap', eA, hcell⟩ := HLS.out wr HI.out.1
        cases eA
        obtain ⟨b, off, rfl, hb, hcell2⟩ := hcell (by intro h; rw [h] at hlt; simp at hlt)
        obtain ⟨e, he⟩ : ∃ e, l[j] = e := ⟨_, rfl⟩
        rw [List.drop_eq_getElem_cons hlt, he] at hR
        have q1 : wr.cell? ⟨b, off + j * 2 + 1, none⟩ = some (.int .i64 e.num) := by have h := hcell2 j hlt 1 (by omega); rw [he] at h; exact h
        have q1d : wr.drew.cell? ⟨b, off + j * 2 + 1, none⟩ = some (.int .i64 e.num) := q1
        have m0d : wr.drew.cell? ⟨mb, 0, none⟩ = some (.pointer (some ⟨tb, 0, none⟩)) := m0
        have CN := rnode_any (w := wr.drew) HI.out.2.drew.tree HI.out.2.drew.list (by rw [tolds_len]; have := HR.out.len; omega) e.num
        have HRJ := Lib.hid hR
        have HCJ := Lib.hid hcj
        have hidx := node_idx T e.num
        obtain ⟨z, hz⟩ : ∃ z, idxF e.num (tolds T) 0 = z := ⟨_, rfl⟩
        rw [hz] at hidx CN
        have HIDX := Lib.hid hidx
        obtain ⟨k, hk⟩ : ∃ k, e.num = k := ⟨_, rfl⟩
        have HK := Lib.hid hk
        rw [hk] at q1 q1d CN
        clear hR hcj hcell hcell2 hb he hz hidx hk m1
        have hlen : (l.length : Int) = (l.length : Int) := rfl
        clear hlen
        go_wp2
        go_region_held3 (fun w' => w'.cell? ⟨b, off + j * 2 + 1, none⟩ = some (.int .i64 k) ∧ w'.cell? ⟨mb, 0, none⟩ = some (.pointer (some ⟨tb, 0, none⟩)))
          (first | exact ⟨q1d, m0d⟩ | exact ⟨r1, r0⟩)
          (first
            | (go_at_call 78; refine CN.mono ?_; rintro r w3 ⟨rfl, hB3⟩; have H3 := Lib.hid (HI.out.2.drew.later hB3); have S3 := Lib.hid ((HI.out.1.drew).and_below hB3); have r0 := MObj.c0 H3.out.obj; have r1 : w3.cell? ⟨b, off + j * 2 + 1, none⟩ = some (.int .i64 k) := (hB3.cell (p := ⟨b, _, none⟩) (lt_of_cell q1d)).trans q1d; clear hB3))
        clear q1 q1d m0d CN m0 m2
        have n1 := MObj.c1 H3.out.obj
        rcases HIDX.out with ⟨hn, rfl⟩ | ⟨i, hi, hat, rfl⟩
        · as_aux_lemma =>
            have hRB : R = (cj, false) := by rw [← HRJ.out]; exact meet_bad (.inl hn)
            have m2 := MObj.c2 H3.out.obj
            have mf := MObj.fr H3.out.obj 2
            obtain ⟨w4, hw4⟩ : ∃ w4, w3.setCell ⟨mb, 2, none⟩ (.bool false) = w4 := ⟨_, rfl⟩
            have S4 : Stir (fun i => i = mb ∨ i = p) w3 w4 := by rw [← hw4]; exact (Stir.refl (fun i => i = mb ∨ i = p) w3).set (.inl (.inl rfl)) _
            have HFin := Lib.hid (show Stir (fun i => i = mb ∨ i = p) w w4 ∧ MeetAt w4 mb tb p lv T R.2 R.1 from ⟨((Stir.of_below HB2.out).trans S3.out (fun i hi => .inl hi)).trans S4 (fun i hi => .inl hi), by rw [hRB, ← hw4]; exact H3.out.setOk false⟩)
            clear S4 hRB
            go_wp2
            (try simp only [Exit.inBlock, Exit.then]); refine bodyPost_ret (results_none rfl _ _ _) rfl ?_
            exact ⟨rfl, HFin.out.1, HFin.out.2⟩
        · obtain ⟨y, hy⟩ : ∃ y, T[i]? = some y := ⟨_, List.getElem?_eq_getElem hi⟩
          have hTk : y.num = k := by
            have h1 := (at_mem hat).2
            obtain ⟨_, e1⟩ := List.getElem?_eq_some_iff.1 hy
            rw [e1] at h1
            exact h1.trans HK.out
          clear hat
          have hi0 : ¬ (i : Int) < 0 := by omega
          by_cases hbad : k = 1 ∨ f = 0
          · as_aux_lemma =>
            have hRB : R = (cj, false) := by rw [← HRJ.out]; exact meet_bad (.inr (hbad.imp (fun h => HK.out.trans h) id))
            have hkb : (k == 1) = false → ((f : Int) == 0) = true := fun h => by
              rcases hbad with h1 | h1
              · rw [h1] at h; cases h
              · rw [h1]; rfl
            obtain ⟨b1, hb1⟩ : ∃ b, (k == 1) = b := ⟨_, rfl⟩
            obtain ⟨b2, hb2⟩ : ∃ b, ((f : Int) == 0) = b := ⟨_, rfl⟩
            rw [hb1, hb2] at hkb
            cases b1 with
            | true =>
              clear hkb hbad hTk hy hb2
              have m2 := MObj.c2 H3.out.obj
              have mf := MObj.fr H3.out.obj 2
              obtain ⟨w4, hw4⟩ : ∃ w4, w3.setCell ⟨mb, 2, none⟩ (.bool false) = w4 := ⟨_, rfl⟩
              have S4 : Stir (fun i => i = mb ∨ i = p) w3 w4 := by rw [← hw4]; exact (Stir.refl (fun i => i = mb ∨ i = p) w3).set (.inl (.inl rfl)) _
              have HFin := Lib.hid (show Stir (fun i => i = mb ∨ i = p) w w4 ∧ MeetAt w4 mb tb p lv T R.2 R.1 from ⟨((Stir.of_below HB2.out).trans S3.out (fun i hi => .inl hi)).trans S4 (fun i hi => .inl hi), by rw [hRB, ← hw4]; exact H3.out.setOk false⟩)
              clear S4 hRB
              go_wp2
              (try simp only [Exit.inBlock, Exit.then]); refine bodyPost_ret (results_none rfl _ _ _) rfl ?_
              exact ⟨rfl, HFin.out.1, HFin.out.2⟩
            | false =>
              obtain rfl := hkb rfl
              clear hkb hbad hTk hy
              have m2 := MObj.c2 H3.out.obj
              have mf := MObj.fr H3.out.obj 2
              obtain ⟨w4, hw4⟩ : ∃ w4, w3.setCell ⟨mb, 2, none⟩ (.bool false) = w4 := ⟨_, rfl⟩
              have S4 : Stir (fun i => i = mb ∨ i = p) w3 w4 := by rw [← hw4]; exact (Stir.refl (fun i => i = mb ∨ i = p) w3).set (.inl (.inl rfl)) _
              have HFin := Lib.hid (show Stir (fun i => i = mb ∨ i = p) w w4 ∧ MeetAt w4 mb tb p lv T R.2 R.1 from ⟨((Stir.of_below HB2.out).trans S3.out (fun i hi => .inl hi)).trans S4 (fun i hi => .inl hi), by rw [hRB, ← hw4]; exact H3.out.setOk false⟩)
              clear S4 hRB
              go_wp2
              (try simp only [Exit.inBlock, Exit.then]); refine bodyPost_ret (results_none rfl _ _ _) rfl ?_
              exact ⟨rfl, HFin.out.1, HFin.out.2⟩
          · have hk1 : k ≠ 1 := fun h => hbad (.inl h)
            have hf0 : f ≠ 0 := fun h => hbad (.inr h)
            obtain ⟨f', hfe⟩ : ∃ f', f = f' + 1 := ⟨f - 1, by omega⟩
            have HFE := Lib.hid hfe
            have hb1 : (k == 1) = false := by simp [hk1]
            have hb2 : ((f : Int) == 0) = false := by simp [hf0]
            obtain ⟨G1, G2, G3, G4, -⟩ := isDir_y HR.out.rise hy
            rw [hTk] at G1 G2 G3
            have hnn : nodeAt T e.num ≠ none := by rw [HK.out, G1]; exact Option.some_ne_none _
            have hc0 := H3.out.count_y hy
            have hpf := intsO.fr H3.out.row i
            have H4x := H3.out.up_y HR.out.rise hy
            rw [hTk] at hc0 H4x
            have hbound : (cj k : Int) ≤ 1000000000000000 := by have := HCJ.out k; have := incB_pos f (l.length - j); omega
            have hwz : RowKit.wrap64 ((cj k : Int) + 1) = (cj k : Int) + 1 := w64_cnt (by omega) (by omega)
            obtain ⟨w4, hw4⟩ : ∃ w4, w3.setCell ⟨p, i, none⟩ (.int .i64 ((cj k : Int) + 1)) = w4 := ⟨_, rfl⟩
            rw [hw4] at H4x
            have S4 : Stir (fun i => i = mb ∨ i = p) w3 w4 := by rw [← hw4]; exact (Stir.refl (fun i => i = mb ∨ i = p) w3).set (.inl (.inr rfl)) _
            have S24 := Lib.hid (S3.out.trans S4 (fun i hi => .inl hi))
            have H4 := Lib.hid H4x
            obtain ⟨bl, ol, capl, rfl, v0, v1, v2, v3⟩ := H4x.node_y hy
            have t0 := RTObj.c0 H4x.tree
            have o0 := MObj.c0 H4x.obj
            have o1 := MObj.c1 H4x.obj
            have hstep : incB f (l.length - j) = incB f (l.length - (j + 1)) + (1 + meetB f') := by
              rw [hfe, show l.length - j = (l.length - (j + 1)) + 1 by omega, incB_step]
            have HBD := Lib.hid (fun q => show ((upc cj k) q : Int) + meetB f' + incB f (l.length - (j + 1)) ≤ 1000000000000000 from by
              have h1 := HCJ.out q
              have h2 : ((upc cj k) q : Int) ≤ cj q + 1 := by unfold upc; split <;> omega
              rw [hstep] at h1
              omega)
            have hj1 : RowKit.wrap64 ((j : Int) + 1) = (j : Int) + 1 := w64_cnt (by omega) (by have := HL60.out; omega)
            have HK1 := Lib.hid hk1
            have HNN := Lib.hid hnn
            have HG2 := Lib.hid G2
            have HG3 := Lib.hid G3
            have HJ1 := Lib.hid hj1
            have HHY := Lib.hid hy
            have HMEM := Lib.hid G4
            obtain ⟨dd, hdd⟩ : ∃ dd, y.dir = dd := ⟨_, rfl⟩
            rw [hdd] at v1
            have HYD := Lib.hid hdd
            have HDD := Lib.hid (G2.trans hdd)
            have HTK := Lib.hid hTk
            clear hbad hk1 hf0 hfe G1 G2 G3 G4 hnn H4x hbound S4 hstep hj1 hdd hTk hy v0 v2 v3
            cases dd with
            | false => as_aux_lemma =>
              have HRN := Lib.hid (show meetL T f (l.drop (j + 1)) (upc cj k) = R from by
                rw [← HRJ.out, ← HK.out, HFE.out]; exact (meet_file HNN.out (by rw [HK.out]; exact HK1.out) (by rw [HK.out]; exact HDD.out)).symm)
              have hj1 := HJ1.out
              go_wp2
              go_roundw
              case rel => exact ⟨j + 1, true, upc cj k, hlt, (by first | exact num_up hj1 | rfl), Lib.hid ⟨S24.out, H4.out⟩, Lib.hid ⟨fun _ => ⟨HRN.out, fun q => by have := HBD.out q; have := meetB_pos f'; omega⟩, fun h => by cases h⟩⟩
              case measure => first | exact meas_v hlt hj1 rfl rfl | exact meas_u hlt rfl rfl
            | true =>
              have hcc := H4.out.count_y HHY.out
              rw [HTK.out, upc_self] at hcc
              have mf := MObj.fr H4.out.obj 2
              have m2 := MObj.c2 H4.out.obj
              by_cases hone : cj k = 0
              · as_aux_lemma =>
                rw [hone] at hcc
                obtain ⟨w5, hw5⟩ : ∃ w5, w4.setCell ⟨mb, 2, none⟩ (.bool true) = w5 := ⟨_, rfl⟩
                have S5 : Stir (fun i => i = mb ∨ i = p) w4 w5 := by rw [← hw5]; exact (Stir.refl (fun i => i = mb ∨ i = p) w4).set (.inl (.inl rfl)) _
                have S25 := Lib.hid (S24.out.trans S5 (fun i hi => .inl hi))
                have H5 := Lib.hid (show MeetAt w5 mb tb p _ T true (upc cj k) from by rw [← hw5]; exact H4.out.setOk true)
                have u2 := MObj.c2 H5.out.obj
                have u0 := MObj.c0 H5.out.obj
                have u3 := RTObj.c0 H5.out.tree
                obtain ⟨bl2, ol2, capl2, eL, x0, x1, x2, x3⟩ := H5.out.node_y HHY.out
                cases eL
                have hmem := HMEM.out
                have hdT : y.dir = true := HYD.out
                have CB := HIH.out f' (by have := HFE.out; omega) (x := told y) (l := y.names) H5.out (HR.out.dir _ hmem hdT).1 (HR.out.size _ hmem) (HR.out.dir _ hmem hdT).2 (by have := HF8.out; have := HFE.out; omega)
                  (fun q => by have h1 := HBD.out q; have h2 := incB_le (f := f') (HR.out.dir _ hmem hdT).2; have h3 := incB_pos f (l.length - (j + 1)); omega)
                have HMR := Lib.hid (show meetL T f' (namesAt T e.num) (upc cj e.num) = meetL T f' y.names (upc cj k) from by rw [HK.out, HG3.out])
                have HML := Lib.hid (fun q => show ((meetL T f' y.names (upc cj k)).1 q : Int) ≤ (upc cj k) q + meetB f' from by
                  have h1 := meet_le (T := T) HN60.out (f := f') (l := y.names) (c := upc cj k) q
                  have h2 := incB_le (f := f') (HR.out.dir _ hmem hdT).2
                  omega)
                have HRN := Lib.hid (show (if (meetL T f' y.names (upc cj k)).2 = true then meetL T f (l.drop (j + 1)) (meetL T f' y.names (upc cj k)).1 else ((meetL T f' y.names (upc cj k)).1, false)) = R from by
                  rw [← HMR.out, ← HRJ.out, HFE.out]
                  exact (meet_dir HNN.out (by rw [HK.out]; exact HK1.out) (by rw [HK.out]; exact HDD.out) (by rw [HK.out]; exact hone)).symm)
                unfold ndeV told at CB
                simp only at CB
                have y1 : w5.cell? ⟨bl, ol + i * 4 + 1, none⟩ = some (.bool y.dir) := x1
                obtain ⟨RR, hRR⟩ : ∃ RR, meetL T f' y.names (upc cj k) = RR := ⟨_, rfl⟩
                rw [hRR] at CB HRN HML
                have x3' : w5.cell? ⟨bl, ol + i * 4 + 3, none⟩ = some (.string (toldB y)) := x3
                generalize toldB y = td at *
                generalize y.num = tn at *
                generalize y.links = tl at *
                generalize y.dir = tdir at *
                have hj1 := HJ1.out
                have hff : RowKit.wrap64 ((f : Int) - 1) = (f' : Int) := by
                  have := HF8.out
                  have h2 := HFE.out
                  rw [show ((f : Int) - 1) = (f' : Int) by omega]
                  clear hj1 hwz
                  simp [RowKit.wrap64]; omega
                clear hone S5 hmem hdT x1 x3 hRR
                go_wp2_with fail
                refine CB.mono ?_
                rintro r w6 ⟨rfl, hs6, h6⟩
                have H6 := Lib.hid (show Stir (fun i => i = mb ∨ i = p) w2 w6 ∧ MeetAt w6 mb tb p _ T RR.2 RR.1 from ⟨S25.out.trans hs6 (fun i hi => .inl hi), h6⟩)
                clear CB hs6 h6
                go_wp2
                go_roundw
                case rel =>
                  refine ⟨j + 1, RR.2, RR.1, hlt, (by first | exact num_up hj1 | rfl), H6, Lib.hid ⟨fun h => ?_, fun h => ?_⟩⟩
                  · have h1 := HRN.out
                    rw [if_pos h] at h1
                    exact ⟨h1, fun q => by have h2 := HML.out q; have h3 := HBD.out q; omega⟩
                  · have h1 := HRN.out
                    rw [if_neg (by simp [h])] at h1
                    exact h1.symm
                case measure => first | exact meas_v hlt hj1 rfl rfl | exact meas_u hlt rfl rfl
              · as_aux_lemma =>
                have hq1 : (((cj k + 1 : Nat) : Int) == 1) = false := by simp; omega
                obtain ⟨w5, hw5⟩ : ∃ w5, w4.setCell ⟨mb, 2, none⟩ (.bool false) = w5 := ⟨_, rfl⟩
                have S5 : Stir (fun i => i = mb ∨ i = p) w4 w5 := by rw [← hw5]; exact (Stir.refl (fun i => i = mb ∨ i = p) w4).set (.inl (.inl rfl)) _
                have H5 := Lib.hid (show Stir (fun i => i = mb ∨ i = p) w2 w5 ∧ MeetAt w5 mb tb p _ T false (upc cj k) from ⟨S24.out.trans S5 (fun i hi => .inl hi), by rw [← hw5]; exact H4.out.setOk false⟩)
                have u2 := MObj.c2 H5.out.2.obj
                have HRN := Lib.hid (show R = (upc cj k, false) from by
                  rw [← HRJ.out, ← HK.out, HFE.out]; exact meet_twice HNN.out (by rw [HK.out]; exact HK1.out) (by rw [HK.out]; exact HDD.out) (by rw [HK.out]; exact hone))
                have hj1 := HJ1.out
                clear hone S5
                go_wp2
                go_roundw
                case rel => exact ⟨j + 1, false, upc cj k, hlt, (by first | exact num_up hj1 | rfl), H5, Lib.hid ⟨(fun h => by cases h), fun _ => HRN.out⟩⟩
                case measure => first | exact meas_v hlt hj1 rfl rfl | exact meas_u hlt rfl rfl
    · have hji : ¬ (j : Int) < (l.length : Int) := by omega
      have HFin := Lib.hid (show MeetAt wr mb tb p lv T R.2 R.1 from by
        cases ok with
        | true =>
          obtain ⟨hR, _⟩ := HC.out.1 rfl
          rw [List.drop_of_length_le (by omega), meetL] at hR
          rw [← hR]; exact HI.out.2
        | false => rw [HC.out.2 rfl]; exact HI.out.2)
      go_wp2
      go_end0
      exact ⟨rfl, HST.out, HFin.out⟩
end
end Go.Proofs.YtfncoojpommfcaaGreatDoor

