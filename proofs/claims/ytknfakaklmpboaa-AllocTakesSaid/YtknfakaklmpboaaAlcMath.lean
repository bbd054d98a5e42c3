/-
  Plain facts on free blocks: their list, their order from a place on, what is next. No program in it.
-/
import Derived.Test.YtknfakaklmpboaaPlnMath
namespace Go.Proofs.Ytknfakaklmpboaa.AL
open SM PL

/-- the free ones among the numbers below k -/
def frees (u : List UInt8) (k : Nat) : List Nat := (List.range k).filter fun b => decide (1 ≤ b) && !bit u b
theorem frees_succ (u : List UInt8) (k : Nat) : frees u (k + 1) = frees u k ++ (if 1 ≤ k ∧ bit u k = false then [k] else []) := by
  unfold frees
  rw [List.range_succ, List.filter_append]
  congr 1
  by_cases h : 1 ≤ k ∧ bit u k = false
  · rw [if_pos h]; simp [h.1, h.2]
  · rw [if_neg h]
    simp only [List.filter_cons, List.filter_nil]
    rw [if_neg]
    intro hc
    simp only [Bool.and_eq_true, decide_eq_true_eq, Bool.not_eq_true'] at hc
    exact h hc
theorem mem_frees {u : List UInt8} {k m : Nat} : m ∈ frees u k ↔ m < k ∧ 1 ≤ m ∧ bit u m = false := by simp [frees]
theorem sorted_frees (u : List UInt8) (k : Nat) : (frees u k).Pairwise (· < ·) := List.Pairwise.filter _ List.pairwise_lt_range
theorem length_frees (u : List UInt8) (k : Nat) : (frees u k).length ≤ k := by
  have := List.length_filter_le (fun b => decide (1 ≤ b) && !bit u b) (List.range k)
  simpa [frees] using this
theorem frees_one (u : List UInt8) : frees u 1 = [] := by simp [frees, List.range_succ]
theorem okI_frees {u : List UInt8} {k : Nat} (h : k ≤ 65536) : okI (intsN (frees u k)) = true := okI_nats fun m hm => by have := (mem_frees.1 hm).1; omega
/-- the set of the free ones -/
def freeT (u : List UInt8) (n : Nat) : List UInt8 := ofL (intsN (frees u n))
theorem bit_freeT {u : List UInt8} {n : Nat} (h : n ≤ 65536) (m : Nat) : bit (freeT u n) m = decide (m ∈ frees u n) := by
  unfold freeT
  rw [bit_ofL (okI_frees h)]
  simp only [mem_intsN]
theorem nums_freeT {u : List UInt8} {n : Nat} (h : n ≤ 65536) (p : Nat) : nums (freeT u n) p = (frees u n).filter fun b => decide (p ≤ b) := by
  refine sorted_ext _ _ (sorted_nums _ _) ((sorted_frees u n).filter _) fun m => ?_
  rw [mem_nums, bit_freeT h]
  simp [and_comm]
theorem nums_freeT0 {u : List UInt8} {n : Nat} (h : n ≤ 65536) : nums (freeT u n) 0 = frees u n := by
  rw [nums_freeT h]; simp
theorem cnt_freeT {u : List UInt8} {n : Nat} (h : n ≤ 65536) : cnt (freeT u n) = (frees u n).length := by rw [← length_nums_zero, nums_freeT0 h]
theorem length_freeT {u : List UInt8} {n : Nat} (h : n ≤ 65536) : (freeT u n).length ≤ 8192 := by
  unfold freeT; rw [length_ofL]; exact lenI_le (okI_frees h)

/-- their order from a place on -/
def ord (u : List UInt8) (n f : Nat) : List Nat := ((frees u n).filter fun b => decide (f ≤ b)) ++ ((frees u n).filter fun b => decide (b < f))
theorem mem_ord {u : List UInt8} {n f m : Nat} : m ∈ ord u n f ↔ m ∈ frees u n := by
  simp only [ord, List.mem_append, List.mem_filter, decide_eq_true_eq]
  constructor
  · rintro (h | h) <;> exact h.1
  · intro h
    by_cases k : f ≤ m
    · exact .inl ⟨h, k⟩
    · exact .inr ⟨h, by omega⟩
theorem length_two (f : Nat) (l : List Nat) : (l.filter fun b => decide (f ≤ b)).length + (l.filter fun b => decide (b < f)).length = l.length := by
  induction l with
  | nil => rfl
  | cons x l ih =>
    simp only [List.filter_cons]
    by_cases h : f ≤ x
    · have h2 : ¬ x < f := by omega
      simp only [h, h2, decide_true, decide_false, if_true, Bool.false_eq_true, if_false, List.length_cons]; omega
    · have h2 : x < f := by omega
      simp only [h, h2, decide_true, decide_false, if_true, Bool.false_eq_true, if_false, List.length_cons]; omega
theorem length_ord (u : List UInt8) (n f : Nat) : (ord u n f).length = (frees u n).length := by
  rw [ord, List.length_append, length_two]
theorem length_ord_lt (u : List UInt8) {n : Nat} (f : Nat) (hn : 1 ≤ n) : (ord u n f).length + 1 ≤ n := by
  rw [length_ord]
  have : ∀ k, (frees u (k + 1)).length ≤ k := by
    intro k
    induction k with
    | zero => rw [frees_one]; simp
    | succ k ih => rw [frees_succ, List.length_append]; split <;> simp <;> omega
  have h := this (n - 1)
  rw [show n - 1 + 1 = n by omega] at h
  omega
theorem ord_in {u : List UInt8} {n f k : Nat} (h : k < (ord u n f).length) : 1 ≤ (ord u n f)[k] ∧ (ord u n f)[k] < n ∧ bit u (ord u n f)[k] = false := by
  have := mem_frees.1 (mem_ord.1 (List.getElem_mem h))
  exact ⟨this.2.1, this.1, this.2.2⟩
theorem nodup_ord (u : List UInt8) (n f : Nat) : (ord u n f).Nodup := by
  have hs : ∀ (q : Nat → Bool), ((frees u n).filter q).Nodup := fun q => ((sorted_frees u n).filter q).imp fun h => by omega
  rw [ord, List.nodup_append]
  refine ⟨hs _, hs _, fun a ha b hb => ?_⟩
  simp only [List.mem_filter, decide_eq_true_eq] at ha hb
  omega

/-- the place behind so many of them -/
def placeAt (o : List Nat) (f k : Nat) : Nat := if k = 0 then f else o.getD (k - 1) 0 + 1
theorem placeAt_zero (o : List Nat) (f : Nat) : placeAt o f 0 = f := rfl
theorem placeAt_succ {o : List Nat} {f k : Nat} (h : k < o.length) : placeAt o f (k + 1) = o[k] + 1 := by
  simp [placeAt, h]
/-- what is next from a place on, round and round -/
def nextS (l : List UInt8) (p : Nat) : Nat := ((nums l p).head?).getD (((nums l 0).head?).getD 0)
theorem filter_drop {l : List Nat} (hs : l.Pairwise (· < ·)) {k : Nat} (h : k < l.length) : (l.filter fun b => decide (l[k] + 1 ≤ b)) = l.drop (k + 1) := by
  induction l generalizing k with
  | nil => simp at h
  | cons x l ih =>
    rw [List.pairwise_cons] at hs
    cases k with
    | zero =>
      simp only [List.getElem_cons_zero, List.filter_cons, List.drop_succ_cons, List.drop_zero]
      rw [if_neg (by simp)]
      rw [List.filter_eq_self]
      intro a ha
      have := hs.1 a ha
      simp; omega
    | succ k =>
      have hk : k < l.length := by simpa using h
      simp only [List.getElem_cons_succ, List.filter_cons, List.drop_succ_cons]
      have hx := hs.1 l[k] (List.getElem_mem hk)
      rw [if_neg (by simp; omega), ih hs.2 hk]
theorem head_drop {l : List Nat} {k : Nat} (h : k < l.length) : (l.drop k).head? = some l[k] := by rw [List.head?_drop]; simp [h]
theorem frees_split (u : List UInt8) (n f : Nat) : frees u n = ((frees u n).filter fun b => decide (b < f)) ++ ((frees u n).filter fun b => decide (f ≤ b)) := by
  refine sorted_ext _ _ (sorted_frees u n) ?_ fun m => ?_
  · rw [List.pairwise_append]
    refine ⟨(sorted_frees u n).filter _, (sorted_frees u n).filter _, fun a ha b hb => ?_⟩
    simp only [List.mem_filter, decide_eq_true_eq] at ha hb
    omega
  · simp only [List.mem_append, List.mem_filter, decide_eq_true_eq]
    constructor
    · intro h
      by_cases k : f ≤ m
      · exact .inr ⟨h, k⟩
      · exact .inl ⟨h, by omega⟩
    · rintro (h | h) <;> exact h.1
theorem next_ord {u : List UInt8} {n f k : Nat} (hn : n ≤ 65536) (h : k < (ord u n f).length) : nextS (freeT u n) (placeAt (ord u n f) f k) = (ord u n f)[k] := by
  have hsp := frees_split u n f
  have hsA : ((frees u n).filter fun b => decide (f ≤ b)).Pairwise (· < ·) := (sorted_frees u n).filter _
  have hsB : ((frees u n).filter fun b => decide (b < f)).Pairwise (· < ·) := (sorted_frees u n).filter _
  have hA : ∀ a ∈ (frees u n).filter fun b => decide (f ≤ b), f ≤ a := fun a ha => by simp only [List.mem_filter, decide_eq_true_eq] at ha; exact ha.2
  have hB : ∀ a ∈ (frees u n).filter fun b => decide (b < f), a < f := fun a ha => by simp only [List.mem_filter, decide_eq_true_eq] at ha; exact ha.2
  have e0 : nums (freeT u n) f = (frees u n).filter fun b => decide (f ≤ b) := nums_freeT hn f
  have e1 : nums (freeT u n) 0 = ((frees u n).filter fun b => decide (b < f)) ++ ((frees u n).filter fun b => decide (f ≤ b)) := by rw [nums_freeT0 hn]; exact hsp
  have e2 : ∀ p, nums (freeT u n) p = (((frees u n).filter fun b => decide (b < f)) ++ ((frees u n).filter fun b => decide (f ≤ b))).filter fun b => decide (p ≤ b) := fun p => by rw [nums_freeT hn, ← hsp]
  unfold ord at h ⊢
  generalize ((frees u n).filter fun b => decide (f ≤ b)) = A at *
  generalize ((frees u n).filter fun b => decide (b < f)) = B at *
  unfold nextS
  rw [e1]
  cases k with
  | zero =>
    rw [placeAt_zero, e0]
    cases A with
    | cons a A => simp
    | nil =>
      cases B with
      | cons b B => simp
      | nil => simp at h
  | succ k =>
    rw [placeAt_succ (by omega), e2, List.filter_append]
    rw [List.length_append] at h
    by_cases hk : k < A.length
    · have hak : f ≤ A[k] := hA _ (List.getElem_mem hk)
      have eB : B.filter (fun b => decide ((A ++ B)[k] + 1 ≤ b)) = [] := by
        rw [List.filter_eq_nil_iff]
        intro b hb
        have := hB b hb
        rw [List.getElem_append_left hk]
        simp; omega
      have eA : A.filter (fun b => decide ((A ++ B)[k] + 1 ≤ b)) = A.drop (k + 1) := by
        rw [List.getElem_append_left hk]; exact filter_drop hsA hk
      rw [eA, eB, List.nil_append]
      by_cases hk1 : k + 1 < A.length
      · rw [head_drop hk1, Option.getD_some, List.getElem_append_left hk1]
      · have : A.length = k + 1 := by omega
        have hb0 : 0 < B.length := by omega
        rw [List.drop_of_length_le (by omega), List.head?_nil, Option.getD_none]
        cases B with
        | nil => simp at hb0
        | cons b B =>
          rw [List.getElem_append_right (by omega)]
          simp [this]
    · have hkb : k - A.length < B.length := by omega
      have eK : (A ++ B)[k]'(by rw [List.length_append]; omega) = B[k - A.length] := List.getElem_append_right (by omega)
      have eB : B.filter (fun b => decide ((A ++ B)[k]'(by rw [List.length_append]; omega) + 1 ≤ b)) = B.drop (k - A.length + 1) := by
        rw [eK]; exact filter_drop hsB hkb
      rw [eB]
      have hk1 : k - A.length + 1 < B.length := by omega
      rw [List.head?_append, head_drop hk1, Option.some_or, Option.getD_some, List.getElem_append_right (by omega)]
      congr 1
      omega

/-! ### As the reference makes it -/
def turned (n f i : Nat) : Nat := if n ≤ f + i then f + i - n else f + i
def rord (u : List UInt8) (n f k : Nat) : List Nat := ((List.range k).map (turned n f)).filter fun b => decide (1 ≤ b) && !bit u b
theorem rord_succ (u : List UInt8) (n f k : Nat) : rord u n f (k + 1) = rord u n f k ++ (if 1 ≤ turned n f k ∧ bit u (turned n f k) = false then [turned n f k] else []) := by
  unfold rord
  rw [List.range_succ, List.map_append, List.filter_append]
  congr 1
  by_cases h : 1 ≤ turned n f k ∧ bit u (turned n f k) = false
  · rw [if_pos h]; simp [h.1, h.2]
  · rw [if_neg h]
    simp only [List.map_cons, List.map_nil, List.filter_cons, List.filter_nil]
    rw [if_neg]
    intro hc
    simp only [Bool.and_eq_true, decide_eq_true_eq, Bool.not_eq_true'] at hc
    exact h hc
theorem length_rord (u : List UInt8) (n f k : Nat) : (rord u n f k).length ≤ k := by
  have := List.length_filter_le (fun b => decide (1 ≤ b) && !bit u b) ((List.range k).map (turned n f))
  simpa [rord] using this
theorem rord_all (u : List UInt8) {n f : Nat} (hf : f ≤ n) : rord u n f n = ord u n f := by
  have h1 : (List.range n).map (turned n f) = (List.range n).drop f ++ (List.range n).take f := by
    apply List.ext_getElem
    · simp; omega
    · intro i h1 h2
      have hi : i < n := by simpa using h1
      simp only [List.getElem_map, List.getElem_range, turned]
      by_cases hc : n ≤ f + i
      · rw [if_pos hc, List.getElem_append_right (by simp; omega)]
        simp; omega
      · rw [if_neg hc, List.getElem_append_left (by simp; omega)]
        simp
  unfold rord ord
  rw [h1, List.filter_append]
  have d1 : (List.range n).drop f = (List.range n).filter fun b => decide (f ≤ b) := by
    refine sorted_ext _ _ (List.pairwise_lt_range.drop) (List.pairwise_lt_range.filter _) fun m => ?_
    rw [List.mem_filter]
    simp only [List.mem_range, decide_eq_true_eq]
    rw [List.range_eq_range', List.drop_range']
    simp only [List.mem_range'_1]
    omega
  have d2 : (List.range n).take f = (List.range n).filter fun b => decide (b < f) := by
    refine sorted_ext _ _ (List.pairwise_lt_range.take) (List.pairwise_lt_range.filter _) fun m => ?_
    rw [List.mem_filter]
    simp only [List.mem_range, decide_eq_true_eq]
    rw [List.take_range]
    simp only [List.mem_range]
    omega
  rw [d1, d2, List.filter_filter, List.filter_filter, frees, List.filter_filter, List.filter_filter]
  congr 1
  · apply List.filter_congr; intro x _; rw [Bool.and_comm]
  · apply List.filter_congr; intro x _; rw [Bool.and_comm]
/-! ### What is left behind some that are used -/
theorem ord_eq {s : List UInt8} {n p : Nat} {X Y : List Nat} (hX : X.Pairwise (· < ·)) (hY : Y.Pairwise (· < ·)) (h1 : ∀ a ∈ X, p ≤ a) (h2 : ∀ a ∈ Y, a < p) (h : ∀ m, m ∈ frees s n ↔ m ∈ X ++ Y) : ord s n p = X ++ Y := by
  unfold ord
  congr 1
  · refine sorted_ext _ _ ((sorted_frees s n).filter _) hX fun m => ?_
    simp only [List.mem_filter, decide_eq_true_eq, h m, List.mem_append]
    constructor
    · rintro ⟨k | k, k2⟩
      · exact k
      · have := h2 m k; omega
    · intro k; exact ⟨.inl k, h1 m k⟩
  · refine sorted_ext _ _ ((sorted_frees s n).filter _) hY fun m => ?_
    simp only [List.mem_filter, decide_eq_true_eq, h m, List.mem_append]
    constructor
    · rintro ⟨k | k, k2⟩
      · have := h1 m k; omega
      · exact k
    · intro k; exact ⟨.inr k, h2 m k⟩
theorem mem_drop_iff {l : List Nat} (hn : l.Nodup) (k m : Nat) : m ∈ l.drop k ↔ m ∈ l ∧ m ∉ l.take k := by
  have e := List.take_append_drop k l
  rw [← e, List.nodup_append] at hn
  constructor
  · intro h
    exact ⟨List.mem_of_mem_drop h, fun h2 => hn.2.2 m h2 m h rfl⟩
  · rintro ⟨h, h2⟩
    rw [← e, List.mem_append] at h
    exact h.resolve_left h2
theorem drop_above {l : List Nat} (hs : l.Pairwise (· < ·)) {j a : Nat} (h : j < l.length) (ha : a ∈ l.drop (j + 1)) : l[j] + 1 ≤ a := by
  rw [← filter_drop hs h] at ha
  simpa using (List.mem_filter.1 ha).2
/-- what is picked, with what was picked of it used, is the rest -/
theorem ord_parts {u s : List UInt8} {n f k : Nat} (hk : k ≤ (ord u n f).length) (hs : ∀ m, bit s m = (bit u m || decide (m ∈ (ord u n f).take k))) :
    ord s n (placeAt (ord u n f) f k) = (ord u n f).drop k := by
  have hnd := nodup_ord u n f
  have hmem : ∀ m, m ∈ frees s n ↔ m ∈ (ord u n f).drop k := fun m => by
    rw [mem_drop_iff hnd, mem_ord, mem_frees, mem_frees, hs m, Bool.or_eq_false_iff, decide_eq_false_iff_not]
    constructor
    · rintro ⟨h1, h2, h3, h4⟩; exact ⟨⟨h1, h2, h3⟩, h4⟩
    · rintro ⟨⟨h1, h2, h3⟩, h4⟩; exact ⟨h1, h2, h3, h4⟩
  have hsA : ((frees u n).filter fun b => decide (f ≤ b)).Pairwise (· < ·) := (sorted_frees u n).filter _
  have hsB : ((frees u n).filter fun b => decide (b < f)).Pairwise (· < ·) := (sorted_frees u n).filter _
  have hA : ∀ a ∈ (frees u n).filter fun b => decide (f ≤ b), f ≤ a := fun a ha => by simp only [List.mem_filter, decide_eq_true_eq] at ha; exact ha.2
  have hB : ∀ a ∈ (frees u n).filter fun b => decide (b < f), a < f := fun a ha => by simp only [List.mem_filter, decide_eq_true_eq] at ha; exact ha.2
  clear hs hnd
  have eO : ord u n f = ((frees u n).filter fun b => decide (f ≤ b)) ++ ((frees u n).filter fun b => decide (b < f)) := rfl
  rw [eO] at hk hmem ⊢
  generalize ((frees u n).filter fun b => decide (f ≤ b)) = A at *
  generalize ((frees u n).filter fun b => decide (b < f)) = B at *
  rw [List.length_append] at hk
  by_cases hc : k ≤ A.length
  · have e : (A ++ B).drop k = A.drop k ++ B := List.drop_append_of_le_length hc
    rw [e] at hmem ⊢
    refine ord_eq (hsA.drop) hsB (fun a ha => ?_) (fun a ha => ?_) hmem
    · cases k with
      | zero => exact hA a (by simpa using ha)
      | succ j =>
        rw [placeAt_succ (by rw [List.length_append]; omega), List.getElem_append_left (by omega)]
        exact drop_above hsA (by omega) ha
    · have hb := hB a ha
      cases k with
      | zero => exact hb
      | succ j =>
        rw [placeAt_succ (by rw [List.length_append]; omega), List.getElem_append_left (by omega)]
        have := hA _ (List.getElem_mem (show j < A.length by omega))
        omega
  · have e : (A ++ B).drop k = B.drop (k - A.length) ++ [] := by rw [List.append_nil, List.drop_append, List.drop_of_length_le (by omega), List.nil_append]
    rw [e] at hmem ⊢
    refine ord_eq (hsB.drop) List.Pairwise.nil (fun a ha => ?_) (fun a ha => by cases ha) hmem
    obtain ⟨j, rfl⟩ : ∃ j, k = j + 1 := ⟨k - 1, by omega⟩
    rw [placeAt_succ (by rw [List.length_append]; omega), List.getElem_append_right (by omega)]
    exact drop_above hsB (by omega) (by rwa [show j - A.length + 1 = j + 1 - A.length by omega])
theorem placeAt_drop {o : List Nat} {f k j : Nat} (h : k + j ≤ o.length) : placeAt (o.drop k) (placeAt o f k) j = placeAt o f (k + j) := by
  cases j with
  | zero => rfl
  | succ j =>
    rw [placeAt_succ (by simp; omega), show k + (j + 1) = (k + j) + 1 by omega, placeAt_succ (by omega)]
    simp
theorem placeAt_range {u : List UInt8} {n f k : Nat} (hf : 1 ≤ f) (hfn : f ≤ n) (hk : k ≤ (ord u n f).length) : 1 ≤ placeAt (ord u n f) f k ∧ placeAt (ord u n f) f k ≤ n := by
  cases k with
  | zero => exact ⟨hf, hfn⟩
  | succ j =>
    rw [placeAt_succ (by omega)]
    have := ord_in (u := u) (n := n) (f := f) (k := j) (by omega)
    omega
end Go.Proofs.Ytknfakaklmpboaa.AL

