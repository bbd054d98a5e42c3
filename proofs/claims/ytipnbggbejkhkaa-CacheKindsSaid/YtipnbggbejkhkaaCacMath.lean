/-
  A ring of links, as two functions from block to block; a list of things by keys, the one that was used last first.
-/
namespace Go.Proofs.Ytipnbggbejkhkaa

/-! ### The ring -/
def upd {α : Type} (f : Nat → α) (a : Nat) (x : α) : Nat → α := fun i => if i = a then x else f i
theorem upd_same {α : Type} (f : Nat → α) (a : Nat) (x : α) : upd f a x a = x := if_pos rfl
theorem upd_other {α : Type} (f : Nat → α) {a i : Nat} (x : α) (h : i ≠ a) : upd f a x i = f i := if_neg h

/-- from a, through l, to z -/
def Chain2 (nx pv : Nat → Nat) : Nat → List Nat → Nat → Prop
  | a, [], z => nx a = z ∧ pv z = a
  | a, b :: l, z => (nx a = b ∧ pv b = a) ∧ Chain2 nx pv b l z

theorem chain_append {nx pv : Nat → Nat} {b z : Nat} {C : List Nat} : ∀ (A : List Nat) (a : Nat), Chain2 nx pv a (A ++ b :: C) z ↔ Chain2 nx pv a A b ∧ Chain2 nx pv b C z
  | [], a => by simp [Chain2]
  | x :: A, a => by simp only [List.cons_append, Chain2, chain_append A x, and_assoc]

theorem chain_congr {nx pv nx' pv' : Nat → Nat} {z : Nat} : ∀ (A : List Nat) (a : Nat), (∀ i ∈ a :: A, nx' i = nx i) → (∀ i ∈ A ++ [z], pv' i = pv i) → Chain2 nx pv a A z → Chain2 nx' pv' a A z
  | [], a, h1, h2, ⟨e1, e2⟩ => ⟨(h1 a (by simp)).trans e1, (h2 z (by simp)).trans e2⟩
  | x :: A, a, h1, h2, ⟨⟨e1, e2⟩, e3⟩ => ⟨⟨(h1 a (by simp)).trans e1, (h2 x (by simp)).trans e2⟩, chain_congr A x (fun i hi => h1 i (List.mem_cons_of_mem _ hi)) (fun i hi => h2 i (by simp at hi ⊢; exact Or.inr hi)) e3⟩

structure Ringed (r : Nat) (T : List Nat) (nx pv : Nat → Nat) : Prop where
  nodup : (r :: T).Nodup
  chain : Chain2 nx pv r T r

section
variable {r : Nat} {T : List Nat} {nx pv : Nat → Nat}

/-- the two neighbours of a link of the ring -/
theorem Ringed.split {b : Nat} (h : Ringed r T nx pv) (hb : b ∈ T) : ∃ A C, T = A ++ b :: C ∧ Chain2 nx pv r A b ∧ Chain2 nx pv b C r := by
  obtain ⟨A, C, rfl⟩ := List.append_of_mem hb
  exact ⟨A, C, rfl, (chain_append A r).1 h.chain⟩

theorem chain_last {a z : Nat} (A : List Nat) (h : Chain2 nx pv a A z) : pv z ∈ a :: A ∧ nx (pv z) = z ∧ ((A = [] ∧ pv z = a) ∨ ∃ A0, A = A0 ++ [pv z] ∧ Chain2 nx pv a A0 (pv z)) := by
  rcases List.eq_nil_or_concat A with rfl | ⟨A0, p, rfl⟩
  · obtain ⟨e1, e2⟩ := h
    rw [e2]
    exact ⟨by simp, e1, Or.inl ⟨rfl, rfl⟩⟩
  · rw [List.concat_eq_append] at h ⊢
    obtain ⟨h1, e1, e2⟩ := (chain_append A0 a).1 h
    rw [e2]
    exact ⟨by simp, e1, Or.inr ⟨A0, rfl, h1⟩⟩
theorem chain_first {a z : Nat} (A : List Nat) (h : Chain2 nx pv a A z) : nx a ∈ A ++ [z] ∧ pv (nx a) = a ∧ ((A = [] ∧ nx a = z) ∨ ∃ A0, A = nx a :: A0 ∧ Chain2 nx pv (nx a) A0 z) := by
  cases A with
  | nil => obtain ⟨e1, e2⟩ := h; rw [e1]; exact ⟨by simp, e2, Or.inl ⟨rfl, rfl⟩⟩
  | cons x A0 => obtain ⟨⟨e1, e2⟩, e3⟩ := h; rw [e1]; exact ⟨by simp, e2, Or.inr ⟨A0, rfl, e3⟩⟩

theorem Ringed.prev_mem {b : Nat} (h : Ringed r T nx pv) (hb : b ∈ T) : pv b ∈ r :: T ∧ pv b ≠ b := by
  obtain ⟨A, C, rfl, h1, h2⟩ := h.split hb
  obtain ⟨m, _, _⟩ := chain_last A h1
  have hn := h.nodup
  refine ⟨by simp at m ⊢; rcases m with m | m <;> simp [m], fun e => ?_⟩
  rw [e] at m
  simp [List.nodup_cons, List.nodup_append] at hn m
  rcases m with rfl | m
  · exact hn.1.2.1 rfl
  · exact (hn.2.2.2 b m).1 rfl
theorem Ringed.next_mem {b : Nat} (h : Ringed r T nx pv) (hb : b ∈ T) : nx b ∈ r :: T ∧ nx b ≠ b := by
  obtain ⟨A, C, rfl, h1, h2⟩ := h.split hb
  obtain ⟨m, _, _⟩ := chain_first C h2
  have hn := h.nodup
  refine ⟨by simp at m ⊢; rcases m with m | m <;> simp [m], fun e => ?_⟩
  rw [e] at m
  simp [List.nodup_cons, List.nodup_append] at hn m
  rcases m with m | rfl
  · exact hn.2.2.1.1 m
  · exact hn.1.2.1 rfl
theorem Ringed.ring_next (h : Ringed r T nx pv) : nx r ∈ r :: T := by
  have := (chain_first T h.chain).1
  simp at this ⊢
  exact this.symm
theorem Ringed.ring_prev (h : Ringed r T nx pv) : pv r ∈ r :: T := (chain_last T h.chain).1

/-- out of the ring -/
theorem Ringed.leave {b : Nat} (h : Ringed r T nx pv) (hb : b ∈ T) : Ringed r (T.filter (· ≠ b)) (upd nx (pv b) (nx b)) (upd pv (nx b) (pv b)) := by
  obtain ⟨A, C, rfl, h1, h2⟩ := h.split hb
  have hn := h.nodup
  have hA : b ∉ A := fun m => by simp [List.nodup_cons, List.nodup_append] at hn; exact (hn.2.2.2 b m).1 rfl
  have hC : b ∉ C := fun m => by simp [List.nodup_cons, List.nodup_append] at hn; exact hn.2.2.1.1 m
  have e : (A ++ b :: C).filter (· ≠ b) = A ++ C := by
    rw [List.filter_append, List.filter_cons_of_neg (by simp), List.filter_eq_self.2 (fun x hx => by simp; rintro rfl; exact hA hx), List.filter_eq_self.2 (fun x hx => by simp; rintro rfl; exact hC hx)]
  rw [e]
  have hn2 : (r :: (A ++ C)).Nodup := by
    have : (r :: (A ++ C)).Sublist (r :: (A ++ b :: C)) := (List.Sublist.append (List.Sublist.refl A) (List.sublist_cons_self b C)).cons_cons r
    exact this.nodup hn
  refine ⟨hn2, ?_⟩
  obtain ⟨m1, n1, w1⟩ := chain_last A h1
  obtain ⟨m2, n2, w2⟩ := chain_first C h2
  have hp : pv b ∈ r :: A := m1
  have hq : nx b ∈ C ++ [r] := m2
  generalize pv b = p at *
  generalize nx b = q at *
  have back : Chain2 (upd nx p q) (upd pv q p) p C r ∧ True := by
    refine ⟨?_, trivial⟩
    rcases w2 with ⟨rfl, rfl⟩ | ⟨C0, rfl, h3⟩
    · exact ⟨upd_same _ _ _, upd_same _ _ _⟩
    · refine ⟨⟨upd_same _ _ _, upd_same _ _ _⟩, chain_congr C0 q (fun i hi => upd_other _ _ ?_) (fun i hi => upd_other _ _ ?_) h3⟩
      · rintro rfl
        simp [List.nodup_cons, List.nodup_append] at hn2 hi hp
        rcases hp with rfl | hp
        · rcases hi with rfl | hi
          · exact hn2.1.2.1 rfl
          · exact hn2.1.2.2 hi
        · rcases hi with rfl | hi
          · exact (hn2.2.2.2 _ hp).1 rfl
          · exact (hn2.2.2.2 _ hp).2 _ hi rfl
      · rintro rfl
        simp [List.nodup_cons, List.nodup_append] at hn2 hi
        rcases hi with hi | rfl
        · exact hn2.2.2.1.1 hi
        · exact hn2.1.2.1 rfl
  rcases w1 with ⟨rfl, rfl⟩ | ⟨A0, rfl, h4⟩
  · exact back.1
  · rw [List.append_assoc, List.singleton_append]
    refine (chain_append A0 r).2 ⟨chain_congr A0 r (fun i hi => upd_other _ _ ?_) (fun i hi => upd_other _ _ ?_) h4, back.1⟩
    · rintro rfl
      simp [List.nodup_cons, List.nodup_append] at hn2 hi
      rcases hi with rfl | hi
      · exact hn2.1.2.1 rfl
      · exact (hn2.2.2.2 _ hi).1 rfl
    · rintro rfl
      simp [List.nodup_cons, List.nodup_append] at hn2 hi hq
      rcases hq with hq | rfl
      · rcases hi with hi | rfl
        · exact (hn2.2.2.2 _ hi).2 _ hq rfl
        · exact hn2.2.2.1.1 hq
      · rcases hi with hi | rfl
        · exact hn2.1.1 hi
        · exact hn2.1.2.1 rfl

/-- into the ring, behind the one that closes it -/
theorem Ringed.follow {b : Nat} (h : Ringed r T nx pv) (hb : b ∉ r :: T) : Ringed r (b :: T) (upd (upd nx b (nx r)) r b) (upd (upd pv b r) (nx r) b) := by
  have hn := h.nodup
  simp only [List.mem_cons, not_or] at hb
  have hn2 : (r :: b :: T).Nodup := by simp [List.nodup_cons] at hn ⊢; exact ⟨⟨fun e => hb.1 e.symm, hn.1⟩, hb.2, hn.2⟩
  obtain ⟨m, n1, w1⟩ := chain_first T h.chain
  generalize hq : nx r = q at *
  have hqb : b ≠ q := by
    rintro rfl
    simp at m
    rcases m with m | m
    · exact hb.2 m
    · exact hb.1 m
  refine ⟨hn2, ⟨upd_same _ _ _, ?_⟩, ?_⟩
  · rw [upd_other _ _ hqb, upd_same]
  · have e1 : upd (upd nx b q) r b b = q := by rw [upd_other _ _ hb.1, upd_same]
    rcases w1 with ⟨rfl, rfl⟩ | ⟨T0, rfl, h3⟩
    · exact ⟨e1, upd_same _ _ _⟩
    · refine ⟨⟨e1, upd_same _ _ _⟩, chain_congr T0 q (fun i hi => ?_) (fun i hi => ?_) h3⟩
      · have : i ≠ r := by rintro rfl; simp [List.nodup_cons] at hn; simp at hi; rcases hi with rfl | hi; exact hn.1.1 rfl; exact hn.1.2 hi
        have : i ≠ b := by rintro rfl; simp at hi hb; rcases hi with rfl | hi; exact hb.2.1 rfl; exact hb.2.2 hi
        rw [upd_other _ _ ‹i ≠ r›, upd_other _ _ ‹i ≠ b›]
      · have : i ≠ q := by rintro rfl; simp [List.nodup_cons] at hn; simp at hi; rcases hi with hi | rfl; exact hn.2.1 hi; exact hn.1.1 rfl
        have : i ≠ b := by rintro rfl; simp at hi hb; rcases hi with hi | rfl; exact hb.2.2 hi; exact hb.1 rfl
        rw [upd_other _ _ ‹i ≠ q›, upd_other _ _ ‹i ≠ b›]

/-- the link that was used longest ago -/
theorem Ringed.last (h : Ringed r T nx pv) (hT : T ≠ []) : ∃ A, T = A ++ [pv r] := by
  rcases (chain_last T h.chain).2.2 with ⟨rfl, _⟩ | ⟨A0, e, _⟩
  · exact absurd rfl hT
  · exact ⟨A0, e⟩
/-- the links one behind the other -/
theorem chain_at {z : Nat} : ∀ (A : List Nat) (a : Nat), Chain2 nx pv a A z → ∀ k, k < A.length → ∀ x, A[k]? = some x → nx x = (A ++ [z]).getD (k + 1) 0
  | [], _, _, k, hk, _, _ => by simp at hk
  | x :: A, a, ⟨_, h⟩, 0, _, y, hy => by
    simp at hy; subst hy
    cases A with
    | nil => exact h.1.trans (by simp)
    | cons u A => exact h.1.1.trans (by simp)
  | x :: A, a, ⟨_, h⟩, k + 1, hk, y, hy => by
    have := chain_at A x h k (by simpa using hk) y (by simpa using hy)
    rw [this]; simp
theorem Ringed.start (h : Ringed r T nx pv) : nx r = (T ++ [r]).getD 0 0 := by
  rcases (chain_first T h.chain).2.2 with ⟨rfl, e⟩ | ⟨T0, e, _⟩
  · rw [e]; rfl
  · generalize nx r = q at *
    subst e; rfl
end

/-! ### Things by keys -/
section
variable {K V : Type} [DecidableEq K]
def getL (L : List (K × V)) (k : K) : Option V := (L.find? fun x => x.1 = k).map (·.2)
def dropL (L : List (K × V)) (k : K) : List (K × V) := L.filter fun x => x.1 ≠ k
def useL (L : List (K × V)) (k : K) : List (K × V) := match getL L k with | some v => (k, v) :: dropL L k | none => L
def putL (room : Nat) (L : List (K × V)) (k : K) (v : V) : List (K × V) := ((k, v) :: dropL L k).take room
def goneL (room : Nat) (L : List (K × V)) (k : K) (v : V) : Option K := (((k, v) :: dropL L k)[room]?).map (·.1)
def keysL (L : List (K × V)) : List K := L.map (·.1)

/-- the block of a key -/
def blockOf (T : List Nat) (nd : Nat → K × V) (k : K) : Option Nat := T.find? fun b => (nd b).1 = k

theorem get_block (T : List Nat) (nd : Nat → K × V) (k : K) : getL (T.map nd) k = (blockOf T nd k).map fun b => (nd b).2 := by
  unfold getL blockOf
  rw [List.find?_map, Option.map_map]
  rfl
theorem blockOf_some {T : List Nat} {nd : Nat → K × V} {k : K} {b : Nat} (h : blockOf T nd k = some b) : b ∈ T ∧ (nd b).1 = k := by
  exact ⟨List.mem_of_find?_eq_some h, by simpa using List.find?_some h⟩
theorem blockOf_none {T : List Nat} {nd : Nat → K × V} {k : K} (h : blockOf T nd k = none) : ∀ b ∈ T, (nd b).1 ≠ k := by
  intro b hb
  simpa using List.find?_eq_none.1 h b hb
omit [DecidableEq K] in
theorem inj_keys {nd : Nat → K × V} : ∀ (T : List Nat), (T.map fun b => (nd b).1).Nodup → ∀ {a b : Nat}, a ∈ T → b ∈ T → (nd a).1 = (nd b).1 → a = b
  | x :: T, hn, a, b, ha, hb, e => by
    simp only [List.map_cons, List.nodup_cons, List.mem_map, not_exists, not_and] at hn
    rcases List.mem_cons.1 ha with e1 | ha1
    · rcases List.mem_cons.1 hb with e2 | hb1
      · rw [e1, e2]
      · rw [e1] at e; exact absurd e.symm (hn.1 b hb1)
    · rcases List.mem_cons.1 hb with e2 | hb1
      · rw [e2] at e; exact absurd e (hn.1 a ha1)
      · exact inj_keys T hn.2 ha1 hb1 e
theorem blockOf_of {T : List Nat} {nd : Nat → K × V} {k : K} (hn : (T.map fun b => (nd b).1).Nodup) {b : Nat} (hb : b ∈ T) (hk : (nd b).1 = k) : blockOf T nd k = some b := by
  cases h : blockOf T nd k with
  | none => exact absurd hk (blockOf_none h b hb)
  | some c =>
    obtain ⟨hc, ec⟩ := blockOf_some h
    rw [inj_keys T hn hc hb (ec.trans hk.symm)]
/-- what is left without a key are the blocks but one -/
theorem drop_block {T : List Nat} {nd : Nat → K × V} {k : K} (hn : (T.map fun b => (nd b).1).Nodup) {b : Nat} (h : blockOf T nd k = some b) : dropL (T.map nd) k = (T.filter (· ≠ b)).map nd := by
  unfold dropL
  rw [List.filter_map]
  congr 1
  obtain ⟨hb, ek⟩ := blockOf_some h
  refine List.filter_congr fun x hx => ?_
  simp only [Function.comp, ne_eq]
  by_cases hxb : x = b
  · subst hxb; simp [ek]
  · have : (nd x).1 ≠ k := fun e => hxb (by
      have := blockOf_of hn hx e
      rw [h] at this; exact (Option.some.inj this).symm)
    simp [hxb, this]
theorem drop_none {T : List Nat} {nd : Nat → K × V} {k : K} (h : blockOf T nd k = none) : dropL (T.map nd) k = T.map nd := by
  unfold dropL
  refine List.filter_eq_self.2 fun x hx => ?_
  obtain ⟨b, hb, rfl⟩ := List.mem_map.1 hx
  simpa using blockOf_none h b hb
theorem blockOf_filter {T : List Nat} {nd : Nat → K × V} {k k' : K} (hn : (T.map fun b => (nd b).1).Nodup) {b : Nat} (h : blockOf T nd k = some b) : blockOf (T.filter (· ≠ b)) nd k' = if k' = k then none else blockOf T nd k' := by
  obtain ⟨hb, ek⟩ := blockOf_some h
  by_cases e : k' = k
  · subst e
    rw [if_pos rfl]
    refine List.find?_eq_none.2 fun x hx => ?_
    have hx' := List.mem_filter.1 hx
    simp only [decide_eq_true_eq]
    intro ex
    have := blockOf_of hn hx'.1 ex
    rw [h] at this
    simp [Option.some.inj this] at hx'
  · rw [if_neg e]
    unfold blockOf
    rw [List.find?_filter]
    congr 1
    funext x
    by_cases hx : (nd x).1 = k'
    · have : x ≠ b := by rintro rfl; exact e (hx.symm.trans ek)
      simp [hx, this]
    · simp [hx]
omit [DecidableEq K] in
theorem nodup_filter_keys {T : List Nat} {nd : Nat → K × V} (hn : (T.map fun b => (nd b).1).Nodup) (p : Nat → Bool) : ((T.filter p).map fun b => (nd b).1).Nodup :=
  (List.Sublist.map _ List.filter_sublist).nodup hn
omit [DecidableEq K] in
theorem map_upd (T : List Nat) (nd : Nat → K × V) {b : Nat} (x : K × V) (hb : b ∉ T) : T.map (upd nd b x) = T.map nd :=
  List.map_congr_left fun i hi => upd_other _ _ (by rintro rfl; exact hb hi)
theorem blockOf_upd (T : List Nat) (nd : Nat → K × V) {b : Nat} (x : K × V) (k : K) (hb : b ∉ T) : blockOf T (upd nd b x) k = blockOf T nd k := by
  unfold blockOf
  induction T with
  | nil => rfl
  | cons a T ih =>
    simp at hb
    simp only [List.find?_cons, upd_other nd x (fun e => hb.1 e.symm)]
    rw [ih hb.2]
theorem filter_length {T : List Nat} (hn : T.Nodup) {b : Nat} (hb : b ∈ T) : (T.filter (· ≠ b)).length + 1 = T.length := by
  obtain ⟨A, C, rfl⟩ := List.append_of_mem hb
  have hA : b ∉ A := fun m => by simp [List.nodup_append] at hn; exact (hn.2.2 b m).1 rfl
  have hC : b ∉ C := fun m => by simp [List.nodup_append] at hn; exact hn.2.1.1 m
  rw [List.filter_append, List.filter_cons_of_neg (by simp), List.filter_eq_self.2 (fun x hx => by simp; rintro rfl; exact hA hx), List.filter_eq_self.2 (fun x hx => by simp; rintro rfl; exact hC hx)]
  simp; omega
theorem filter_last {A : List Nat} {b : Nat} (hn : (A ++ [b]).Nodup) : (A ++ [b]).filter (· ≠ b) = A := by
  have hA : b ∉ A := fun m => by simp [List.nodup_append] at hn; exact hn.2 b m rfl
  rw [List.filter_append, List.filter_cons_of_neg (by simp), List.filter_nil, List.append_nil, List.filter_eq_self.2 (fun x hx => by simp; rintro rfl; exact hA hx)]
end
end Go.Proofs.Ytipnbggbejkhkaa
