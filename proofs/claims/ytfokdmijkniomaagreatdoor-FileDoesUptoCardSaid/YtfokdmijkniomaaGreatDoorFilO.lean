/-
  A tree: below, at any node; rename.
-/
import Derived.Test.YtfokdmijkniomaaGreatDoorF3
import Derived.Test.YtfokdmijkniomaaGreatDoorC4
namespace Go.Proofs.YtfokdmijkniomaaGreatDoor
open Go.RowKit Go Go.Maps

section
variable {T : List Nod}
theorem Formed.dirs_nodup_at (h : Formed T) {q : List ByteArray} {k : Int} (hq : walkE T 1 q = .ok k) (f : Nat) : (dirsN T f k).Nodup := by
  rw [dirsN_is h.riseAll]
  refine List.pairwise_map.2 (List.Pairwise.imp_of_mem (fun {a b} ha hb hne e => ?_) (dirsP_nodup h.riseAll f k))
  obtain ⟨i, h1, h2⟩ := dirsP_mem h.riseAll ha
  obtain ⟨j, h3, _⟩ := dirsP_mem h.riseAll hb
  unfold endOf at e
  rw [h1, h3] at e
  simp only at e
  subst e
  obtain ⟨z, hz, hd⟩ := isDir_iff.1 h2
  have e1 : walkE T 1 (q ++ a) = .ok i := by rw [walk_to hq]; exact h1
  have e2 : walkE T 1 (q ++ b) = .ok i := by rw [walk_to hq]; exact h3
  exact hne (List.append_cancel_left (h.path_uniq e1 e2 hz hd))
theorem Formed.dirs_len (h : Formed T) {q : List ByteArray} {k : Int} (hq : walkE T 1 q = .ok k) (f : Nat) : (dirsN T f k).length ≤ 60 := by
  have := sub_len (h.dirs_nodup_at hq f) fun j hj => (allDirs_mem h.rise).2 (dirsN_mem h.riseAll hj).choose_spec.2
  have := allDirs_len T
  have := h.len
  omega
theorem deep_le {f : Nat} {k : Int} (hr : RiseAll T) (hf : Fits T f k) : deepF T f k ≤ f := by
  obtain ⟨l, j, h1, h2⟩ := deep_wit hr f k
  have := hf l j h1
  omega
theorem length_flat_sum {α β : Type} (g : α → List β) (l : List α) : (l.flatMap g).length = sumK (fun e => (g e).length) l := by
  induction l with
  | nil => rfl
  | cons x l ih => rw [List.flatMap_cons, List.length_append, sum_cons, ih]
end
section
variable {w w' w2 : World} {c m : Nat} {P : Int → Nat} {G : Int → Option Nat} {T : List Nod} {D : DataW Unit}
set_option maxRecDepth 100000 in
set_option maxHeartbeats 1000000 in
theorem below_file (h : TreeAt c m P G T D w) {k : Int} {x : Nod} (hx : nodeAt T k = some x) (hd : x.dir = false) :
    Calls Tryz.prog 56 #[.pointer (some ⟨c, 0, none⟩), .pointer (some ⟨P k, 0, none⟩)] w fun r w' => r = .returned (.tuple #[.int .i64 0, .int .i64 0]) ∧ Below w.heap.size w w' := by
  have d1 := NObj.c1 (h.node k x hx).obj
  rw [hd] at d1
  clear h hx hd
  go_enter Tryz.func56, Tryz.ntmps56
  go_wp2
  go_ret2
  exact ⟨rfl, Below.refl _ _⟩
theorem below_any (hF : Formed T) : ∀ (f : Nat) {k : Int} {x : Nod} {q : List ByteArray}, nodeAt T k = some x → walkE T 1 q = .ok k → Fits T f k → f ≤ 100 → ∀ w, TreeAt c m P G T D w →
    Calls Tryz.prog 56 #[.pointer (some ⟨c, 0, none⟩), .pointer (some ⟨P k, 0, none⟩)] w fun r w' => r = .returned (.tuple #[.int .i64 (dirsN T f k).length, .int .i64 (deepF T f k)]) ∧ Below w.heap.size w w' := by
  intro f
  induction f with
  | zero =>
    intro k x q hx hq hf _ w h
    have hxd := (isDir_at hx).1
    cases hd : x.dir with
    | false =>
      rw [hd] at hxd
      have e1 : dirsN T 0 k = [] := by rw [dirsN, hxd]; rfl
      rw [e1]
      exact below_file h hx hd
    | true =>
      rw [hd] at hxd
      have hn : x.names = [] := by
        cases hn : x.names with
        | nil => rfl
        | cons e l =>
          have hs : stepE T k e.name = .ok e.num := step_ok.2 ⟨x, hx, hd, (hF.riseE (at_mem hx).1).look (by rw [hn]; simp)⟩
          have := hf [e.name] e.num (by rw [walk_one]; exact hs)
          simp at this
      have e1 : dirsN T 0 k = [k] := by rw [dirsN, hxd]; rfl
      rw [e1]
      have := below_step h hF hx hd (fun _ => 0) (fun _ => 0) (fun e he => by rw [hn] at he; cases he) (fun e he => by rw [hn] at he; cases he) (fun e he => by rw [hn] at he; cases he)
      rw [hn] at this
      exact this
  | succ f ih =>
    intro k x q hx hq hf hfb w h
    have hxd := isDir_at hx
    cases hd : x.dir with
    | false =>
      rw [hd] at hxd
      have e1 : dirsN T (f + 1) k = [] := by rw [dirsN, hxd.1]; rfl
      have e2 : deepF T (f + 1) k = 0 := by rw [deepF, hx]; simp [hd]
      rw [e1, e2]
      exact below_file h hx hd
    | true =>
      rw [hd] at hxd
      have st : ∀ e ∈ x.names, stepE T k e.name = .ok e.num := fun e he => step_ok.2 ⟨x, hx, hd, (hF.riseE (at_mem hx).1).look he⟩
      have e1 : (dirsN T (f + 1) k).length = 1 + sumK (fun e => (dirsN T f e.num).length) x.names := by
        rw [dirsN, hxd.1, hxd.2]
        simp only [if_true, List.length_cons]
        rw [length_flat_sum]; omega
      have e2 : deepF T (f + 1) k = deepL (deepF T f) x.names := by rw [deepF, hx]; simp [hd]
      rw [e1, e2]
      refine below_step h hF hx hd (fun j => (dirsN T f j).length) (deepF T f) (fun e he => ?_) (fun e he => ?_) (fun e he w1 h1 => ?_)
      · have := hF.dirs_len (walk_snoc.2 ⟨k, hq, st e he⟩) f
        omega
      · have := deep_le hF.riseAll (hf.step (st e he))
        omega
      · obtain ⟨_, y, hy⟩ := hF.kids x (at_mem hx).1 e he
        exact ih hy (walk_snoc.2 ⟨k, hq, st e he⟩) (hf.step (st e he)) (by omega) w1 h1
/-- does a text begin with another one? -/
def begins (s p : ByteArray) : Bool := decide (p.data.toList <+: s.data.toList)
theorem begins_is (s p : ByteArray) (_ : p.size ≤ s.size) : begins s p = ((s.extract 0 p.size).toList == p.toList) := by
  have e1 : (s.extract 0 p.size).data.toList = s.data.toList.take p.size := Lib.extract_from_zero s p.size
  have e2 : p.data.toList.length = p.size := Array.length_toList (xs := p.data)
  unfold begins
  rw [toList_eq, toList_eq, e1]
  by_cases hp : p.data.toList <+: s.data.toList
  · rw [decide_eq_true hp]
    have := List.prefix_iff_eq_take.1 hp
    rw [e2] at this
    rw [← this]; simp
  · rw [decide_eq_false hp]
    refine (beq_eq_false_iff_ne.2 fun e => hp ?_).symm
    rw [← e]; exact List.take_prefix _ _
theorem begins_long {s p : ByteArray} (h : s.size < p.size) : begins s p = false := by
  have e2 : p.data.toList.length = p.size := Array.length_toList (xs := p.data)
  have e3 : s.data.toList.length = s.size := Array.length_toList (xs := s.data)
  refine decide_eq_false fun hp => ?_
  have := hp.length_le
  omega
set_option maxRecDepth 100000 in
set_option maxHeartbeats 1000000 in
theorem prefix_any (s p : ByteArray) (w : World) :
    Calls Tryz.prog 55 #[.string s, .string p] w fun r w' => r = .returned (.bool (begins s p)) ∧ Below w.heap.size w w' := by
  have C : ∀ w, Calls Tryz.prog 87 #[.string s, .string p] w fun r w' => r = .returned (.bool (begins s p)) ∧ Below w.heap.size w w' := fun w => by
    by_cases h : p.size ≤ s.size
    · have hz : (p.size : Int) ≤ (s.size : Int) := by omega
      have he := begins_is s p h
      generalize begins s p = B at *
      have he2 := he.symm
      clear he
      go_enter Tryz.func87, Tryz.ntmps87
      go_wp2
      go_ret
      exact ⟨rfl, Below.refl _ _⟩
    · have hz : ¬ (p.size : Int) ≤ (s.size : Int) := by omega
      have hz2 : (s.size : Int) < (p.size : Int) := by omega
      rw [begins_long (by omega)]
      clear h
      go_enter Tryz.func87, Tryz.ntmps87
      go_wp2
      go_ret
      exact ⟨rfl, Below.refl _ _⟩
  go_enter Tryz.func55, Tryz.ntmps55
  go_wp2_with fail
  refine (C _).mono ?_
  rintro e w' ⟨rfl, hB⟩
  go_wp2
  go_ret
  exact ⟨rfl, hB⟩
end
theorem joinB_app {c : UInt8} : ∀ {l m : List ByteArray}, l ≠ [] → m ≠ [] → joinB c (l ++ m) = joinB c l ++ c :: joinB c m
  | [], _, h, _ => absurd rfl h
  | [p], m, _, hm => by
    show joinB c (p :: m) = _
    rw [joinB_cons hm]; rfl
  | p :: q :: r, m, _, hm => by
    have ih := joinB_app (c := c) (l := q :: r) (m := m) (by simp) hm
    show p.data.toList ++ c :: joinB c ((q :: r) ++ m) = (p.data.toList ++ c :: joinB c (q :: r)) ++ c :: joinB c m
    rw [ih]; simp
/-- a path with further names begins with the path's bytes, and a slash -/
theorem begins_under {s u : ByteArray} {l m : List ByteArray} (hl : IsPath s l) (hm : IsPath u m) (h0 : l ≠ []) : begins u (s ++ ⟨#[47]⟩) = decide (under l m) := by
  have e1 : s.data.toList = 47 :: joinB 47 l := by
    rcases hl.2.2 with ⟨h, _⟩ | ⟨_, h⟩
    · exact absurd h h0
    · exact h
  have e3 : (s ++ (⟨#[47]⟩ : ByteArray)).data.toList = 47 :: (joinB 47 l ++ [47]) := by
    rw [ByteArray.data_append, Array.toList_append, e1]; rfl
  have hn1 : ∀ p ∈ l, NoB 47 p := fun p hp => (hl.1 p hp).noB.1
  have hn2 : ∀ p ∈ m, NoB 47 p := fun p hp => (hm.1 p hp).noB.1
  unfold begins
  rw [e3]
  by_cases hu : under l m
  · rw [decide_eq_true hu]
    obtain ⟨⟨k, hk⟩, hne⟩ := hu
    have hk0 : k ≠ [] := fun e => hne (by rw [← hk, e]; simp)
    have hm0 : m ≠ [] := fun e => by rw [e] at hk; simp at hk; exact h0 hk.1
    have e2 : u.data.toList = 47 :: joinB 47 m := by
      rcases hm.2.2 with ⟨h, _⟩ | ⟨_, h⟩
      · exact absurd h hm0
      · exact h
    refine decide_eq_true ?_
    rw [e2, ← hk, joinB_app h0 hk0]
    exact ⟨joinB 47 k, by simp⟩
  · rw [decide_eq_false hu]
    refine decide_eq_false ?_
    rintro ⟨R, hR⟩
    by_cases hm0 : m = []
    · rcases hm.2.2 with ⟨_, h⟩ | ⟨h, _⟩
      · rw [h] at hR
        have := congrArg List.length hR
        simp at this
      · exact h hm0
    · have e2 : u.data.toList = 47 :: joinB 47 m := by
        rcases hm.2.2 with ⟨h, _⟩ | ⟨_, h⟩
        · exact absurd h hm0
        · exact h
      rw [e2] at hR
      have e4 : joinB 47 m = joinB 47 l ++ 47 :: R := by
        have := (List.cons.inj hR).2
        rw [← this]; simp
      obtain ⟨k, hk, hk0⟩ := join_prefix h0 hm0 hn1 hn2 e4
      exact hu ⟨⟨k, hk.symm⟩, fun e => hk0 (by rw [← e] at hk; simpa using hk)⟩
end Go.Proofs.YtfokdmijkniomaaGreatDoor

