/-
  A list of numbers put behind another one, under a guard; the sets of what was picked.
-/
import Derived.Test.YtknfakaklmpboaaDoorAlcG
import Derived.Laws.AppendOwnNone
namespace Go.Proofs.YtknfakaklmpboaaDoor
open Go.ChangeShapes Go.WideShapes Go.ChangeAt Go.RowKit Go.Shelf Go SM PL AL

theorem row_orN {W : World} {B K cap : Nat} {a : Option Addr} {xs : List Value} (h : W.ownsRow B 3 1 (.slice a K cap) K xs) :
    (a = none ∧ K = 0 ∧ cap = 0) ∨ ∃ g, a = some ⟨g, 0, none⟩ ∧ B ≤ g ∧ g < W.heap.size ∧ K ≤ cap := by
  rcases h.2 with ⟨e, h0⟩ | ⟨g, cp, cur, e, h2, h3, h4, _⟩
  · simp only [Value.slice.injEq] at e
    exact .inl ⟨e.1, h0, e.2.2⟩
  · simp only [Value.slice.injEq] at e
    obtain ⟨rfl, -, rfl⟩ := e
    exact .inr ⟨g, rfl, h2, lt_of_heap h3, h4⟩
theorem step_ints {ops : Array Oper} {rest : List Oper} {o : Oper} {a : Act} {w : World} {Q : Exit → Act → World → Prop} (hw : Region.wanted o (yielded ops a.tmps) = true) (s x : Operand)
    (ho : o.op = .call { callee := .builtin .append, args := #[s, x], argTypes := #[25, 25] })
    (B : Nat) (v : Value) (l : List Nat) (hs : a.eval s = v) (hown : w.ownsRow B 3 1 v l.length (ints l)) (u : Value) (L : List Nat) (hx : a.eval x = u) {ub : Nat} (hu : w.ownsRow ub 3 1 u L.length (ints L)) (hL : l.length + L.length ≤ 1000000) (hB : B ≤ w.heap.size)
    (h : ∀ v' w', w'.ownsRow B 3 1 v' (l ++ L).length (ints (l ++ L)) → w.grownBy w' v.ownBlock → wpList Tryd.prog ops Q rest (a.put o.dst v') w') : wpList Tryd.prog ops Q (o :: rest) a w := by
  obtain ⟨i, hi, hz0, hz1, hz2⟩ := info_parts info3
  refine wpList_step fun K hK => ?_
  rw [if_pos hw]
  rcases hu.2 with ⟨rfl, h0⟩ | ⟨g, cap, cur, rfl, _, hg, h4, h5, h6, h7⟩
  · have hl : L = [] := List.eq_nil_of_length_eq_zero h0
    subst hl
    have hrun := run_append_owned_none (P := Tryd.prog) (w := w) B 25 o.type 3 i 1 Tryd.underlying25 hi v l.length _ hown
    unfold Oper.wp
    simp [execOp, ho, resolve, invoke, builtin, hs, hx, hrun, Result.andThen]
    exact hK _ _ (h v w (by simpa using hown) (World.grownBy.refl _ _))
  · refine wp_append_own w s x _ ho B _ i (.int .i64 0) 1 8 Tryd.underlying25 hi hz0 hz1 hz2 rfl (by decide) v l.length _ hs hown ⟨g, 0, none⟩ L.length cap (ints L) hx (by simp [ints]) (fun j y hj => ?_) (fun y hy => ?_) (by unfold maxLen; omega) (by omega) hB ?_
    · obtain ⟨h1, h2⟩ := List.getElem?_eq_some_iff.1 hj
      have hjl : j < L.length := by simpa [ints] using h1
      have := hu.cellAt (g := g) (cap := cap) j (by omega)
      rw [Addr.add_lit, Nat.zero_add, this, hj]
    · simp only [ints, List.mem_map] at hy
      obtain ⟨b, _, rfl⟩ := hy
      rfl
    · intro v' w' h1 h2 h3
      refine hK _ _ (h v' w' ?_ h2)
      rw [List.length_append]
      simpa [ints] using h1
/-- the set of what was picked, with what was used -/
theorem bits_or (u : ByteArray) {x : List Nat} (hx : ∀ m ∈ x, m ≤ 65535) (m : Nat) : bit (orB u (bs (ofL (intsN x)))).data.toList m = (bit u.data.toList m || decide (m ∈ x)) := by
  rw [list_orB, bit_mk_or, bs_list, bit_ofL (okI_nats hx)]
  simp only [mem_intsN]
theorem ofL_ord (u : List UInt8) {n f : Nat} (hn : n ≤ 65536) : ofL (intsN (ord u n f)) = freeT u n := by
  have hx : ∀ m ∈ ord u n f, m ≤ 65535 := fun m hm => by have := (mem_frees.1 (mem_ord.1 hm)).1; omega
  rw [← ofL_eq (okI_nats hx) (l := freeT u n) (fun m => by rw [bit_freeT hn]; simp only [mem_intsN, mem_ord])]
  exact least_ofL (okI_frees hn)
theorem freeT_and (u : ByteArray) {n : Nat} (hn : n ≤ 65536) : andB (bs (freeT u.data.toList n)) u = bs [] := by
  unfold andB
  congr 1
  refine eq_of_bits (mk_least _ _ _) rfl fun m => ?_
  rw [bit_mk_and, bs_list, bit_freeT hn, bit_nil]
  by_cases h : m ∈ frees u.data.toList n
  · have := (mem_frees.1 h).2.2
    simp [this]
  · simp [h]
theorem bit_freeT_in (u : List UInt8) {n m : Nat} (hn : n ≤ 65536) (h1 : 1 ≤ m) (h2 : m < n) : bit (freeT u n) m = !bit u m := by
  rw [bit_freeT hn]
  cases h : bit u m with
  | true => simp [mem_frees, h]
  | false => simp [mem_frees, h, h1, h2]
end Go.Proofs.YtknfakaklmpboaaDoor

