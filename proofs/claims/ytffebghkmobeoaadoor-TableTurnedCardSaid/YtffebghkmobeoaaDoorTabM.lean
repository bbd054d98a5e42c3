/-
  A list's row in memory with one thing put in another's place; two neighbours that stand the other way round, and one that stands twice.
-/
import Derived.Test.YtffebghkmobeoaaDoorTabP
import Derived.Test.YtffebghkmobeoaaDoorTabL
namespace Go.Proofs.YtffebghkmobeoaaDoor
open Go.RowKit Go

theorem flat_length {T : Type} {C : T → List Value} {k : Nat} (hC : ∀ x, (C x).length = k) : ∀ l : List T, (l.flatMap C).length = l.length * k
  | [] => by simp
  | x :: l => by rw [List.flatMap_cons, List.length_append, hC, flat_length hC l, List.length_cons, Nat.succ_mul]; omega
theorem flat_ext {T : Type} {C : T → List Value} {k : Nat} (hC : ∀ x, (C x).length = k) (hk : 0 < k) {xs : List Value} {l : List T} (hl : xs.length = l.length * k)
    (h : ∀ j (hj : j < l.length) (i : Nat) (_ : i < k), xs[j * k + i]? = (C l[j])[i]?) : xs = l.flatMap C := by
  apply List.ext_getElem?
  intro q
  by_cases hq : q < l.length * k
  · have hj : q / k < l.length := by rw [Nat.div_lt_iff_lt_mul hk]; exact hq
    have hi : q % k < k := Nat.mod_lt _ hk
    have e : q / k * k + q % k = q := by rw [Nat.mul_comm]; exact Nat.div_add_mod q k
    have h1 := h (q / k) hj (q % k) hi
    have h2 := flat_at hC l (q / k) hj (q % k) hi
    rw [e] at h1 h2
    rw [h1, h2]
  · rw [List.getElem?_eq_none (by omega), List.getElem?_eq_none (by rw [flat_length hC]; omega)]
def putAt : List Value → Nat → List Value → List Value
  | xs, _, [] => xs
  | xs, b, c :: cs => putAt (xs.set b c) (b + 1) cs
theorem putAt_length : ∀ (cs xs : List Value) (b : Nat), (putAt xs b cs).length = xs.length
  | [], _, _ => rfl
  | c :: cs, xs, b => by rw [putAt, putAt_length cs, List.length_set]
theorem putAt_get : ∀ (cs xs : List Value) (b q : Nat), b + cs.length ≤ xs.length → (putAt xs b cs)[q]? = if b ≤ q ∧ q < b + cs.length then cs[q - b]? else xs[q]?
  | [], xs, b, q, _ => by rw [putAt, if_neg (by rw [List.length_nil]; omega)]
  | c :: cs, xs, b, q, h => by
    rw [List.length_cons] at h
    rw [putAt, putAt_get cs _ (b + 1) q (by rw [List.length_set]; omega), List.length_cons]
    by_cases h1 : b + 1 ≤ q ∧ q < b + 1 + cs.length
    · rw [if_pos h1, if_pos (by omega), show q - b = (q - (b + 1)) + 1 by omega, List.getElem?_cons_succ]
    · rw [if_neg h1]
      by_cases h2 : q = b
      · subst h2
        rw [if_pos (by omega), List.getElem?_set_self (by omega), Nat.sub_self]; rfl
      · rw [if_neg (by omega), List.getElem?_set_ne (by omega)]
theorem flat_put {T : Type} {C : T → List Value} {k : Nat} (hC : ∀ x, (C x).length = k) (hk : 0 < k) {l : List T} {q : Nat} (hq : q < l.length) (y : T) : putAt (l.flatMap C) (q * k) (C y) = (l.set q y).flatMap C := by
  have hqk : q * k + k ≤ l.length * k := by
    have : (q + 1) * k ≤ l.length * k := Nat.mul_le_mul_right _ hq
    rw [Nat.succ_mul] at this; exact this
  refine flat_ext hC hk (by rw [putAt_length, flat_length hC, List.length_set]) fun j hj i hi => ?_
  rw [List.length_set] at hj
  rw [putAt_get _ _ _ _ (by rw [hC, flat_length hC]; exact hqk), hC]
  by_cases e : q = j
  · subst e
    rw [if_pos ⟨by omega, by omega⟩, Nat.add_sub_cancel_left, List.getElem_set_self]
  · rw [if_neg, flat_at hC l j hj i hi, List.getElem_set_ne e]
    rintro ⟨h1, h2⟩
    rcases Nat.lt_or_gt_of_ne e with h | h
    · have : (q + 1) * k ≤ j * k := Nat.mul_le_mul_right _ h
      rw [Nat.succ_mul] at this; omega
    · have : (j + 1) * k ≤ q * k := Nat.mul_le_mul_right _ h
      rw [Nat.succ_mul] at this; omega
theorem lst_news {T : Type} {C : T → List Value} {k b off : Nat} (hC : ∀ x, (C x).length = k) (hk : 0 < k) {W : World} {l : List T}
    (h : ∀ j (_ : j < l.length) (i : Nat) (_ : i < k), W.cell? ⟨b, off + j * k + i, none⟩ = (C l[j])[i]?) : ∀ q u, (l.flatMap C)[q]? = some u → W.cell? ((⟨b, off, none⟩ : Addr).add q) = some u := by
  intro q u hu
  have hq : q < l.length * k := by rw [← flat_length hC]; exact (List.getElem?_eq_some_iff.1 hu).1
  have hj : q / k < l.length := by rw [Nat.div_lt_iff_lt_mul hk]; exact hq
  have hi : q % k < k := Nat.mod_lt _ hk
  have e : q / k * k + q % k = q := by rw [Nat.mul_comm]; exact Nat.div_add_mod q k
  have h1 := h (q / k) hj (q % k) hi
  have h2 := flat_at hC l (q / k) hj (q % k) hi
  rw [e] at h2
  rw [Addr.add_lit, ← hu, h2, ← h1, Nat.add_assoc, e]
theorem entC_ones : ∀ l : List Ent, ∀ u ∈ l.flatMap entC, u.oneCell' = true := by
  intro l u hu
  obtain ⟨x, _, hx⟩ := List.mem_flatMap.1 hu
  simp only [entC, List.mem_cons, List.not_mem_nil, or_false] at hx
  rcases hx with rfl | rfl <;> rfl
theorem inoC_ones : ∀ l : List Ino, ∀ u ∈ l.flatMap inoC, u.oneCell' = true := by
  intro l u hu
  obtain ⟨x, _, hx⟩ := List.mem_flatMap.1 hu
  simp only [inoC, List.mem_cons, List.not_mem_nil, or_false] at hx
  rcases hx with rfl | rfl | rfl | rfl | rfl <;> rfl
/-- a thing of a row of the call's own -/
theorem own_cell {T : Type} {C : T → List Value} {k base g cap N : Nat} {e : TypeId} {W : World} {l : List T} (hC : ∀ x, (C x).length = k) (hN : l.length = N) (h : W.ownsRow base e k (.slice (some ⟨g, 0, none⟩) N cap) N (l.flatMap C)) {j : Nat} (hj : j < l.length) {y : T} (hy : l[j] = y) (i : Nat) (hi : i < k) : W.cell? ⟨g, j * k + i, none⟩ = (C y)[i]? := by
  subst hy
  have hlt : j * k + i < N * k := by
    have : (j + 1) * k ≤ N * k := Nat.mul_le_mul_right _ (by omega)
    rw [Nat.succ_mul] at this; omega
  rw [h.cellAt (j * k + i) hlt]
  exact flat_at hC l j hj i hi
theorem own_put2 {base g cap N : Nat} {e : TypeId} {W : World} {l : List Ent} (_ : l.length = N) (h : W.ownsRow base e 2 (.slice (some ⟨g, 0, none⟩) N cap) N (l.flatMap entC)) {q : Nat} (hq : q < l.length) (y : Ent) :
    ((W.setCell ⟨g, q * 2, none⟩ (.string y.name)).setCell ⟨g, q * 2 + 1, none⟩ (.int .i64 y.num)).ownsRow base e 2 (.slice (some ⟨g, 0, none⟩) N cap) N ((l.set q y).flatMap entC) := by
  rw [← flat_put (C := entC) (k := 2) (fun _ => rfl) (by decide) hq y]
  exact ((h.stored (q * 2) (.string y.name)).1.stored (q * 2 + 1) (.int .i64 y.num)).1
theorem own_put5 {base g cap N : Nat} {e : TypeId} {W : World} {l : List Ino} (_ : l.length = N) (h : W.ownsRow base e 5 (.slice (some ⟨g, 0, none⟩) N cap) N (l.flatMap inoC)) {q : Nat} (hq : q < l.length) (y : Ino) :
    (((((W.setCell ⟨g, q * 5, none⟩ (.int .i64 y.num)).setCell ⟨g, q * 5 + 1, none⟩ (.bool y.dir)).setCell ⟨g, q * 5 + 2, none⟩ (.int .i64 y.links)).setCell ⟨g, q * 5 + 3, none⟩ (.int .i64 y.root)).setCell ⟨g, q * 5 + 4, none⟩ (.int .i64 y.size)).ownsRow base e 5 (.slice (some ⟨g, 0, none⟩) N cap) N ((l.set q y).flatMap inoC) := by
  rw [← flat_put (C := inoC) (k := 5) (fun _ => rfl) (by decide) hq y]
  exact (((((h.stored (q * 5) (.int .i64 y.num)).1.stored (q * 5 + 1) (.bool y.dir)).1.stored (q * 5 + 2) (.int .i64 y.links)).1.stored (q * 5 + 3) (.int .i64 y.root)).1.stored (q * 5 + 4) (.int .i64 y.size)).1
/-- two neighbours that stand the other way round -/
theorem turned_no {T : Type} {K : Kd T} {l : List T} {q : Nat} (hq : q + 1 < l.length) (h : May K l) (hA : ∀ x y, K.lt x y → ¬ K.lt y x) : ¬ May K ((l.set q l[q + 1]).set (q + 1) l[q]) := by
  intro h2
  have h1 := (h.2 (q + 1) hq hq).2 (by omega)
  have h3 := (h2.2 (q + 1) (by simpa using hq) (by simpa using hq)).2 (by omega)
  have e1 : ((l.set q l[q + 1]).set (q + 1) l[q])[q + 1]'(by simpa using hq) = l[q] := by rw [List.getElem_set_self]
  have e2 : ((l.set q l[q + 1]).set (q + 1) l[q])[q + 1 - 1]'(by simp; omega) = l[q + 1] := by
    rw [List.getElem_set_ne (by omega)]
    simp
  rw [e1, e2] at h3
  exact hA _ _ h1 h3
/-- one that stands twice -/
theorem twice_no {T : Type} {K : Kd T} {l : List T} {q : Nat} (hq : q + 1 < l.length) (hI : ∀ x, ¬ K.lt x x) {y z : T} : ¬ May K (((l.set q z).set (q + 1) y).set q y) := by
  intro h2
  have h3 := (h2.2 (q + 1) (by simpa using hq) (by simpa using hq)).2 (by omega)
  have e1 : (((l.set q z).set (q + 1) y).set q y)[q + 1]'(by simpa using hq) = y := by
    rw [List.getElem_set_ne (by omega), List.getElem_set_self]
  have e2 : (((l.set q z).set (q + 1) y).set q y)[q + 1 - 1]'(by simp; omega) = y := by simp
  rw [e1, e2] at h3
  exact hI _ h3
theorem kE_asymm : ∀ x y, kE.lt x y → ¬ kE.lt y x := fun x y h e => by
  have := bl_asymm _ _ h
  exact absurd (e.symm.trans this) (by decide)
theorem kE_irrefl : ∀ x, ¬ kE.lt x x := fun x e => absurd (e.symm.trans (bl_irrefl _)) (by decide)
theorem kI_asymm : ∀ x y, kI.lt x y → ¬ kI.lt y x := fun x y h e => by
  have h1 : x.num < y.num := h
  have h2 : y.num < x.num := e
  omega
end Go.Proofs.YtffebghkmobeoaaDoor

