/-
  FilNo / FilRf / FilRg.
-/
import Derived.Test.YtfokdmijkniomaaGreatDoorFilFr
import Derived.Test.YtfokdmijkniomaaGreatDoorKS
import Derived.Test.YtfokdmijkniomaaGreatDoorT1
import Derived.Test.YtfokdmijkniomaaGreatDoorRA
import Derived.OwnWalk
import Derived.Deep.CutRange
import Derived.Laws.AppendOwnNone
import Derived.Test.YtfokdmijkniomaaGreatDoorKG
namespace Go.Proofs.YtfokdmijkniomaaGreatDoor
open Go.ChangeShapes Go.WideShapes Go.ChangeAt Go.RowKit Go

section
variable {H : Type} {enc : TypeId × Value → H} {W : World} {base : Nat} {v : Value} {d : DataW H} {p : List MemPlace} {ts : List TypeId} {ds : List (DataW H)} {j : Nat}
end
end Go.Proofs.YtfokdmijkniomaaGreatDoor

namespace Go.Proofs.YtfokdmijkniomaaGreatDoor
open Go.RowKit Go Go.Maps

section
variable {T : List Nod}
theorem rise_snoc (hr : RiseN T) {y : Nod} (h : ∀ x ∈ T, x.num < y.num) : RiseN (T ++ [y]) := by
  refine List.pairwise_append.2 ⟨hr, List.pairwise_singleton _ _, fun a ha b hb => ?_⟩
  rw [List.mem_singleton.1 hb]
  exact decide_eq_true (h a ha)
/-- nodes that were looked at, so far -/
structure Looked (l : List Nde) (T : List Nod) (last : Int) : Prop where
  taken : Taken l T last
  rise : RiseN T
  num : ∀ x ∈ T, x.num ≤ 65535
  prev : (T = [] ∧ last = 0) ∨ ∃ (j : Nat) (h : j < l.length), T.length = j + 1 ∧ last = l[j].num
theorem Looked.none (l : List Nde) : Looked l [] 0 := ⟨.none l, List.Pairwise.nil, (fun x hx => by cases hx), .inl ⟨rfl, rfl⟩⟩
theorem Looked.more {l : List Nde} {last : Int} (h : Looked l T last) (hl : T.length < l.length) {y : Nod} (hy : NodOf l[T.length] y) (h1 : ¬ y.num ≤ last) (h2 : y.num ≤ 65535) : Looked l (T ++ [y]) y.num := by
  refine ⟨h.taken.more hl hy h1, rise_snoc h.rise fun x hx => ?_, fun x hx => ?_, .inr ⟨T.length, hl, by simp, hy.1⟩⟩
  · have := (h.taken.num x hx).2; omega
  · rcases List.mem_append.1 hx with hx | hx
    · exact h.num x hx
    · rw [List.mem_singleton.1 hx]; exact h2
theorem Looked.no {l : List Nde} {last : Int} (h : Looked l T last) (hl : T.length < l.length) (hn : (∀ x, ¬ NodOf l[T.length] x) ∨ l[T.length].num ≤ last ∨ 65535 < l[T.length].num) : ∀ U, Good U → tolds U ≠ l := by
  intro U hU e
  rcases hn with hn | hn | hn
  · exact h.taken.no hl (.inl hn) U hU.formed e
  · exact h.taken.no hl (.inr hn) U hU.formed e
  · subst e
    have hul : (tolds U).length = U.length := by unfold tolds; simp
    have := (hU.formed.num U[T.length] (List.getElem_mem (by omega))).2
    rw [tolds_get] at hn
    exact absurd this (by show ¬ U[T.length].num ≤ 65535; simpa [told] using hn)
/-- the nodes of a list that was looked at -/
theorem Looked.parts {l : List Nde} {last : Int} (h : Looked l T last) (hl : T.length = l.length) (h60 : l.length ≤ 60) : RawR T ∧
    (∀ k x, nodeAt T k = some x → (1 ≤ x.num ∧ x.num ≤ 65535) ∧ (x.dir = false → x.names = [] ∧ x.data.size ≤ 16384) ∧ (x.dir = true → x.data = ⟨#[]⟩ ∧ RiseE x.names ∧ x.names.length ≤ 60 ∧ ∀ e ∈ x.names, NameOk e.name)) := by
  have each : ∀ x ∈ T, ∃ r, NodOf r x ∧ told x = r := fun x hx => by
    obtain ⟨i, hi, rfl⟩ := List.mem_iff_getElem.1 hx
    have := h.taken.each i hi (by omega)
    exact ⟨_, this, this.told⟩
  refine ⟨⟨h.rise, by omega, fun x hx hd => ?_, fun x hx => ?_, fun x hx hd => ?_⟩, fun k x hx => ⟨⟨(h.taken.num x (at_mem hx).1).1, h.num x (at_mem hx).1⟩, fun hd => ?_, fun hd => ?_⟩⟩
  · obtain ⟨r, hr, e⟩ := each x hx
    obtain ⟨_, e2, _, _, ⟨a, _⟩ | ⟨_, _, c, d⟩⟩ := hr
    · rw [← e2, hd] at a; cases a
    · rw [e]; exact ⟨c, d⟩
  · obtain ⟨r, hr, e⟩ := each x hx
    rw [e]; exact hr.2.2.2.1
  · obtain ⟨r, hr, e⟩ := each x hx
    obtain ⟨_, e2, _, _, ⟨_, _, c⟩ | ⟨a, _⟩⟩ := hr
    · exact c
    · rw [← e2, hd] at a; cases a
  · obtain ⟨r, hr, e⟩ := each x (at_mem hx).1
    obtain ⟨_, e2, _, s, ⟨_, b, c⟩ | ⟨a, _⟩⟩ := hr
    · exact ⟨c, by rw [b]; exact s⟩
    · rw [← e2, hd] at a; cases a
  · obtain ⟨r, hr, e⟩ := each x (at_mem hx).1
    obtain ⟨_, e2, _, _, ⟨a, _⟩ | ⟨_, b, c, d⟩⟩ := hr
    · rw [← e2, hd] at a; cases a
    · exact ⟨b, rise_of_may c.1, d, fun e he => by
        obtain ⟨i, hi, rfl⟩ := List.mem_iff_getElem.1 he
        exact (c.1.2 i hi hi).1.1⟩
end
end Go.Proofs.YtfokdmijkniomaaGreatDoor

namespace Go.Proofs.YtfokdmijkniomaaGreatDoor
open Go.RowKit Go Go.Maps

end Go.Proofs.YtfokdmijkniomaaGreatDoor

