/-
  CacMath / KitP / CacIA / CacIB / CacIC / CacID / CacIE.
-/
import Derived.Test.YtmloljjllmmkoaaGreatMA
import Derived.Test.YtmloljjllmmkoaaGreatRows
import Derived.Below
import Derived.WalkKit
import Derived.Outline
import Derived.Lib.Hide
import Derived.Deep.Draws
import Derived.Maps.OwnSet
import Derived.Defers
import Derived.Recover
import Derived.BigRegion
import Derived.RegionTactic
import Derived.Deep.LoopGhost
import Derived.Deep.QuietTactic
import Derived.BigQuiet
import Derived.Laws.OwnMore
import Derived.OwnWalk
import Derived.IntWalk
import Derived.Maps.AppendAt
import Derived.LaidEqlPtr
import Derived.Lib.Builder
namespace Go.Proofs.YtmloljjllmmkoaaGreat.CI

/-! ### The ring -/
def upd {α : Type} (f : Nat → α) (a : Nat) (x : α) : Nat → α := fun i => if i = a then x else f i
theorem upd_same {α : Type} (f : Nat → α) (a : Nat) (x : α) : upd f a x a = x := if_pos rfl
theorem upd_other {α : Type} (f : Nat → α) {a i : Nat} (x : α) (h : i ≠ a) : upd f a x i = f i := if_neg h

/-- from a, through l, to z -/
def Chain2 (nx pv : Nat → Nat) : Nat → List Nat → Nat → Prop
  | a, [], z => nx a = z ∧ pv z = a
  | a, b :: l, z => (nx a = b ∧ pv b = a) ∧ Chain2 nx pv b l z

theorem chain_append {nx pv : Nat → Nat} {b z : Nat} {C : List Nat} : ∀ (A : List Nat) (a : Nat), Chain2 nx pv a (A ++ b :: C) z ↔ Chain2 nx pv a A b ∧ Chain2 nx pv b C z
  | [], a => by simp [Chain2]
  | x :: A, a => by simp only [List.cons_append, Chain2, chain_append A x, and_assoc]

theorem chain_congr {nx pv nx' pv' : Nat → Nat} {z : Nat} : ∀ (A : List Nat) (a : Nat), (∀ i ∈ a :: A, nx' i = nx i) → (∀ i ∈ A ++ [z], pv' i = pv i) → Chain2 nx pv a A z → Chain2 nx' pv' a A z
  | [], a, h1, h2, ⟨e1, e2⟩ => ⟨(h1 a (by simp)).trans e1, (h2 z (by simp)).trans e2⟩
  | x :: A, a, h1, h2, ⟨⟨e1, e2⟩, e3⟩ => ⟨⟨(h1 a (by simp)).trans e1, (h2 x (by simp)).trans e2⟩, chain_congr A x (fun i hi => h1 i (List.mem_cons_of_mem _ hi)) (fun i hi => h2 i (by simp at hi ⊢; exact Or.inr hi)) e3⟩

structure Ringed (r : Nat) (T : List Nat) (nx pv : Nat → Nat) : Prop where
  nodup : (r :: T).Nodup
  chain : Chain2 nx pv r T r

section
variable {r : Nat} {T : List Nat} {nx pv : Nat → Nat}

/-- the two neighbours of a link of the ring -/
theorem Ringed.split {b : Nat} (h : Ringed r T nx pv) (hb : b ∈ T) : ∃ A C, T = A ++ b :: C ∧ Chain2 nx pv r A b ∧ Chain2 nx pv b C r := by
  obtain ⟨A, C, rfl⟩ := List.append_of_mem hb
  exact ⟨A, C, rfl, (chain_append A r).1 h.chain⟩

theorem chain_last {a z : Nat} (A : List Nat) (h : Chain2 nx pv a A z) : pv z ∈ a :: A ∧ nx (pv z) = z ∧ ((A = [] ∧ pv z = a) ∨ ∃ A0, A = A0 ++ [pv z] ∧ Chain2 nx pv a A0 (pv z)) := by
  rcases List.eq_nil_or_concat A with rfl | ⟨A0, p, rfl⟩
  · obtain ⟨e1, e2⟩ := h
    rw [e2]
    exact ⟨by simp, e1, Or.inl ⟨rfl, rfl⟩⟩
  · rw [List.concat_eq_append] at h ⊢
    obtain ⟨h1, e1, e2⟩ := (chain_append A0 a).1 h
    rw [e2]
    exact ⟨by simp, e1, Or.inr ⟨A0, rfl, h1⟩⟩
theorem chain_first {a z : Nat} (A : List Nat) (h : Chain2 nx pv a A z) : nx a ∈ A ++ [z] ∧ pv (nx a) = a ∧ ((A = [] ∧ nx a = z) ∨ ∃ A0, A = nx a :: A0 ∧ Chain2 nx pv (nx a) A0 z) := by
  cases A with
  | nil => obtain ⟨e1, e2⟩ := h; rw [e1]; exact ⟨by simp, e2, Or.inl ⟨rfl, rfl⟩⟩
  | cons x A0 => obtain ⟨⟨e1, e2⟩, e3⟩ := h; rw [e1]; exact ⟨by simp, e2, Or.inr ⟨A0, rfl, e3⟩⟩

theorem Ringed.prev_mem {b : Nat} (h : Ringed r T nx pv) (hb : b ∈ T) : pv b ∈ r :: T ∧ pv b ≠ b := by
  obtain ⟨A, C, rfl, h1, h2⟩ := h.split hb
  obtain ⟨m, _, _⟩ := chain_last A h1
  have hn := h.nodup
  refine ⟨by simp at m ⊢; rcases m with m | m <;> simp [m], fun e => ?_⟩
  rw [e] at m
  simp [List.nodup_cons, List.nodup_append] at hn m
  rcases m with rfl | m
  · exact hn.1.2.1 rfl
  · exact (hn.2.2.2 b m).1 rfl
theorem Ringed.next_mem {b : Nat} (h : Ringed r T nx pv) (hb : b ∈ T) : nx b ∈ r :: T ∧ nx b ≠ b := by
  obtain ⟨A, C, rfl, h1, h2⟩ := h.split hb
  obtain ⟨m, _, _⟩ := chain_first C h2
  have hn := h.nodup
  refine ⟨by simp at m ⊢; rcases m with m | m <;> simp [m], fun e => ?_⟩
  rw [e] at m
  simp [List.nodup_cons, List.nodup_append] at hn m
  rcases m with m | rfl
  · exact hn.2.2.1.1 m
  · exact hn.1.2.1 rfl
theorem Ringed.ring_next (h : Ringed r T nx pv) : nx r ∈ r :: T := by
  have := (chain_first T h.chain).1
  simp at this ⊢
  exact this.symm
theorem Ringed.ring_prev (h : Ringed r T nx pv) : pv r ∈ r :: T := (chain_last T h.chain).1

/-- out of the ring -/
theorem Ringed.leave {b : Nat} (h : Ringed r T nx pv) (hb : b ∈ T) : Ringed r (T.filter (· ≠ b)) (upd nx (pv b) (nx b)) (upd pv (nx b) (pv b)) := by
  obtain ⟨A, C, rfl, h1, h2⟩ := h.split hb
  have hn := h.nodup
  have hA : b ∉ A := fun m => by simp [List.nodup_cons, List.nodup_append] at hn; exact (hn.2.2.2 b m).1 rfl
  have hC : b ∉ C := fun m => by simp [List.nodup_cons, List.nodup_append] at hn; exact hn.2.2.1.1 m
  have e : (A ++ b :: C).filter (· ≠ b) = A ++ C := by
    rw [List.filter_append, List.filter_cons_of_neg (by simp), List.filter_eq_self.2 (fun x hx => by simp; rintro rfl; exact hA hx), List.filter_eq_self.2 (fun x hx => by simp; rintro rfl; exact hC hx)]
  rw [e]
  have hn2 : (r :: (A ++ C)).Nodup := by
    have : (r :: (A ++ C)).Sublist (r :: (A ++ b :: C)) := (List.Sublist.append (List.Sublist.refl A) (List.sublist_cons_self b C)).cons_cons r
    exact this.nodup hn
  refine ⟨hn2, ?_⟩
  obtain ⟨m1, n1, w1⟩ := chain_last A h1
  obtain ⟨m2, n2, w2⟩ := chain_first C h2
  have hp : pv b ∈ r :: A := m1
  have hq : nx b ∈ C ++ [r] := m2
  generalize pv b = p at *
  generalize nx b = q at *
  have back : Chain2 (upd nx p q) (upd pv q p) p C r ∧ True := by
    refine ⟨?_, trivial⟩
    rcases w2 with ⟨rfl, rfl⟩ | ⟨C0, rfl, h3⟩
    · exact ⟨upd_same _ _ _, upd_same _ _ _⟩
    · refine ⟨⟨upd_same _ _ _, upd_same _ _ _⟩, chain_congr C0 q (fun i hi => upd_other _ _ ?_) (fun i hi => upd_other _ _ ?_) h3⟩
      · rintro rfl
        simp [List.nodup_cons, List.nodup_append] at hn2 hi hp
        rcases hp with rfl | hp
        · rcases hi with rfl | hi
          · exact hn2.1.2.1 rfl
          · exact hn2.1.2.2 hi
        · rcases hi with rfl | hi
          · exact (hn2.2.2.2 _ hp).1 rfl
          · exact (hn2.2.2.2 _ hp).2 _ hi rfl
      · rintro rfl
        simp [List.nodup_cons, List.nodup_append] at hn2 hi
        rcases hi with hi | rfl
        · exact hn2.2.2.1.1 hi
        · exact hn2.1.2.1 rfl
  rcases w1 with ⟨rfl, rfl⟩ | ⟨A0, rfl, h4⟩
  · exact back.1
  · rw [List.append_assoc, List.singleton_append]
    refine (chain_append A0 r).2 ⟨chain_congr A0 r (fun i hi => upd_other _ _ ?_) (fun i hi => upd_other _ _ ?_) h4, back.1⟩
    · rintro rfl
      simp [List.nodup_cons, List.nodup_append] at hn2 hi
      rcases hi with rfl | hi
      · exact hn2.1.2.1 rfl
      · exact (hn2.2.2.2 _ hi).1 rfl
    · rintro rfl
      simp [List.nodup_cons, List.nodup_append] at hn2 hi hq
      rcases hq with hq | rfl
      · rcases hi with hi | rfl
        · exact (hn2.2.2.2 _ hi).2 _ hq rfl
        · exact hn2.2.2.1.1 hq
      · rcases hi with hi | rfl
        · exact hn2.1.1 hi
        · exact hn2.1.2.1 rfl

/-- into the ring, behind the one that closes it -/
theorem Ringed.follow {b : Nat} (h : Ringed r T nx pv) (hb : b ∉ r :: T) : Ringed r (b :: T) (upd (upd nx b (nx r)) r b) (upd (upd pv b r) (nx r) b) := by
  have hn := h.nodup
  simp only [List.mem_cons, not_or] at hb
  have hn2 : (r :: b :: T).Nodup := by simp [List.nodup_cons] at hn ⊢; exact ⟨⟨fun e => hb.1 e.symm, hn.1⟩, hb.2, hn.2⟩
  obtain ⟨m, n1, w1⟩ := chain_first T h.chain
  generalize hq : nx r = q at *
  have hqb : b ≠ q := by
    rintro rfl
    simp at m
    rcases m with m | m
    · exact hb.2 m
    · exact hb.1 m
  refine ⟨hn2, ⟨upd_same _ _ _, ?_⟩, ?_⟩
  · rw [upd_other _ _ hqb, upd_same]
  · have e1 : upd (upd nx b q) r b b = q := by rw [upd_other _ _ hb.1, upd_same]
    rcases w1 with ⟨rfl, rfl⟩ | ⟨T0, rfl, h3⟩
    · exact ⟨e1, upd_same _ _ _⟩
    · refine ⟨⟨e1, upd_same _ _ _⟩, chain_congr T0 q (fun i hi => ?_) (fun i hi => ?_) h3⟩
      · have : i ≠ r := by rintro rfl; simp [List.nodup_cons] at hn; simp at hi; rcases hi with rfl | hi; exact hn.1.1 rfl; exact hn.1.2 hi
        have : i ≠ b := by rintro rfl; simp at hi hb; rcases hi with rfl | hi; exact hb.2.1 rfl; exact hb.2.2 hi
        rw [upd_other _ _ ‹i ≠ r›, upd_other _ _ ‹i ≠ b›]
      · have : i ≠ q := by rintro rfl; simp [List.nodup_cons] at hn; simp at hi; rcases hi with hi | rfl; exact hn.2.1 hi; exact hn.1.1 rfl
        have : i ≠ b := by rintro rfl; simp at hi hb; rcases hi with hi | rfl; exact hb.2.2 hi; exact hb.1 rfl
        rw [upd_other _ _ ‹i ≠ q›, upd_other _ _ ‹i ≠ b›]

/-- the link that was used longest ago -/
theorem Ringed.last (h : Ringed r T nx pv) (hT : T ≠ []) : ∃ A, T = A ++ [pv r] := by
  rcases (chain_last T h.chain).2.2 with ⟨rfl, _⟩ | ⟨A0, e, _⟩
  · exact absurd rfl hT
  · exact ⟨A0, e⟩
/-- the links one behind the other -/
theorem chain_at {z : Nat} : ∀ (A : List Nat) (a : Nat), Chain2 nx pv a A z → ∀ k, k < A.length → ∀ x, A[k]? = some x → nx x = (A ++ [z]).getD (k + 1) 0
  | [], _, _, k, hk, _, _ => by simp at hk
  | x :: A, a, ⟨_, h⟩, 0, _, y, hy => by
    simp at hy; subst hy
    cases A with
    | nil => exact h.1.trans (by simp)
    | cons u A => exact h.1.1.trans (by simp)
  | x :: A, a, ⟨_, h⟩, k + 1, hk, y, hy => by
    have := chain_at A x h k (by simpa using hk) y (by simpa using hy)
    rw [this]; simp
theorem Ringed.start (h : Ringed r T nx pv) : nx r = (T ++ [r]).getD 0 0 := by
  rcases (chain_first T h.chain).2.2 with ⟨rfl, e⟩ | ⟨T0, e, _⟩
  · rw [e]; rfl
  · generalize nx r = q at *
    subst e; rfl
end

/-! ### Things by keys -/
section
variable {K V : Type} [DecidableEq K]
def getL (L : List (K × V)) (k : K) : Option V := (L.find? fun x => x.1 = k).map (·.2)
def dropL (L : List (K × V)) (k : K) : List (K × V) := L.filter fun x => x.1 ≠ k
def useL (L : List (K × V)) (k : K) : List (K × V) := match getL L k with | some v => (k, v) :: dropL L k | none => L
def putL (room : Nat) (L : List (K × V)) (k : K) (v : V) : List (K × V) := ((k, v) :: dropL L k).take room
def goneL (room : Nat) (L : List (K × V)) (k : K) (v : V) : Option K := (((k, v) :: dropL L k)[room]?).map (·.1)
def keysL (L : List (K × V)) : List K := L.map (·.1)

/-- the block of a key -/
def blockOf (T : List Nat) (nd : Nat → K × V) (k : K) : Option Nat := T.find? fun b => (nd b).1 = k

theorem get_block (T : List Nat) (nd : Nat → K × V) (k : K) : getL (T.map nd) k = (blockOf T nd k).map fun b => (nd b).2 := by
  unfold getL blockOf
  rw [List.find?_map, Option.map_map]
  rfl
theorem blockOf_some {T : List Nat} {nd : Nat → K × V} {k : K} {b : Nat} (h : blockOf T nd k = some b) : b ∈ T ∧ (nd b).1 = k := by
  exact ⟨List.mem_of_find?_eq_some h, by simpa using List.find?_some h⟩
theorem blockOf_none {T : List Nat} {nd : Nat → K × V} {k : K} (h : blockOf T nd k = none) : ∀ b ∈ T, (nd b).1 ≠ k := by
  intro b hb
  simpa using List.find?_eq_none.1 h b hb
omit [DecidableEq K] in
theorem inj_keys {nd : Nat → K × V} : ∀ (T : List Nat), (T.map fun b => (nd b).1).Nodup → ∀ {a b : Nat}, a ∈ T → b ∈ T → (nd a).1 = (nd b).1 → a = b
  | x :: T, hn, a, b, ha, hb, e => by
    simp only [List.map_cons, List.nodup_cons, List.mem_map, not_exists, not_and] at hn
    rcases List.mem_cons.1 ha with e1 | ha1
    · rcases List.mem_cons.1 hb with e2 | hb1
      · rw [e1, e2]
      · rw [e1] at e; exact absurd e.symm (hn.1 b hb1)
    · rcases List.mem_cons.1 hb with e2 | hb1
      · rw [e2] at e; exact absurd e (hn.1 a ha1)
      · exact inj_keys T hn.2 ha1 hb1 e
theorem blockOf_of {T : List Nat} {nd : Nat → K × V} {k : K} (hn : (T.map fun b => (nd b).1).Nodup) {b : Nat} (hb : b ∈ T) (hk : (nd b).1 = k) : blockOf T nd k = some b := by
  cases h : blockOf T nd k with
  | none => exact absurd hk (blockOf_none h b hb)
  | some c =>
    obtain ⟨hc, ec⟩ := blockOf_some h
    rw [inj_keys T hn hc hb (ec.trans hk.symm)]
/-- what is left without a key are the blocks but one -/
theorem drop_block {T : List Nat} {nd : Nat → K × V} {k : K} (hn : (T.map fun b => (nd b).1).Nodup) {b : Nat} (h : blockOf T nd k = some b) : dropL (T.map nd) k = (T.filter (· ≠ b)).map nd := by
  unfold dropL
  rw [List.filter_map]
  congr 1
  obtain ⟨hb, ek⟩ := blockOf_some h
  refine List.filter_congr fun x hx => ?_
  simp only [Function.comp, ne_eq]
  by_cases hxb : x = b
  · subst hxb; simp [ek]
  · have : (nd x).1 ≠ k := fun e => hxb (by
      have := blockOf_of hn hx e
      rw [h] at this; exact (Option.some.inj this).symm)
    simp [hxb, this]
theorem drop_none {T : List Nat} {nd : Nat → K × V} {k : K} (h : blockOf T nd k = none) : dropL (T.map nd) k = T.map nd := by
  unfold dropL
  refine List.filter_eq_self.2 fun x hx => ?_
  obtain ⟨b, hb, rfl⟩ := List.mem_map.1 hx
  simpa using blockOf_none h b hb
theorem blockOf_filter {T : List Nat} {nd : Nat → K × V} {k k' : K} (hn : (T.map fun b => (nd b).1).Nodup) {b : Nat} (h : blockOf T nd k = some b) : blockOf (T.filter (· ≠ b)) nd k' = if k' = k then none else blockOf T nd k' := by
  obtain ⟨hb, ek⟩ := blockOf_some h
  by_cases e : k' = k
  · subst e
    rw [if_pos rfl]
    refine List.find?_eq_none.2 fun x hx => ?_
    have hx' := List.mem_filter.1 hx
    simp only [decide_eq_true_eq]
    intro ex
    have := blockOf_of hn hx'.1 ex
    rw [h] at this
    simp [Option.some.inj this] at hx'
  · rw [if_neg e]
    unfold blockOf
    rw [List.find?_filter]
    congr 1
    funext x
    by_cases hx : (nd x).1 = k'
    · have : x ≠ b := by rintro rfl; exact e (hx.symm.trans ek)
      simp [hx, this]
    · simp [hx]
omit [DecidableEq K] in
theorem nodup_filter_keys {T : List Nat} {nd : Nat → K × V} (hn : (T.map fun b => (nd b).1).Nodup) (p : Nat → Bool) : ((T.filter p).map fun b => (nd b).1).Nodup :=
  (List.Sublist.map _ List.filter_sublist).nodup hn
omit [DecidableEq K] in
theorem map_upd (T : List Nat) (nd : Nat → K × V) {b : Nat} (x : K × V) (hb : b ∉ T) : T.map (upd nd b x) = T.map nd :=
  List.map_congr_left fun i hi => upd_other _ _ (by rintro rfl; exact hb hi)
theorem blockOf_upd (T : List Nat) (nd : Nat → K × V) {b : Nat} (x : K × V) (k : K) (hb : b ∉ T) : blockOf T (upd nd b x) k = blockOf T nd k := by
  unfold blockOf
  induction T with
  | nil => rfl
  | cons a T ih =>
    simp at hb
    simp only [List.find?_cons, upd_other nd x (fun e => hb.1 e.symm)]
    rw [ih hb.2]
theorem filter_length {T : List Nat} (hn : T.Nodup) {b : Nat} (hb : b ∈ T) : (T.filter (· ≠ b)).length + 1 = T.length := by
  obtain ⟨A, C, rfl⟩ := List.append_of_mem hb
  have hA : b ∉ A := fun m => by simp [List.nodup_append] at hn; exact (hn.2.2 b m).1 rfl
  have hC : b ∉ C := fun m => by simp [List.nodup_append] at hn; exact hn.2.1.1 m
  rw [List.filter_append, List.filter_cons_of_neg (by simp), List.filter_eq_self.2 (fun x hx => by simp; rintro rfl; exact hA hx), List.filter_eq_self.2 (fun x hx => by simp; rintro rfl; exact hC hx)]
  simp; omega
theorem filter_last {A : List Nat} {b : Nat} (hn : (A ++ [b]).Nodup) : (A ++ [b]).filter (· ≠ b) = A := by
  have hA : b ∉ A := fun m => by simp [List.nodup_append] at hn; exact hn.2 b m rfl
  rw [List.filter_append, List.filter_cons_of_neg (by simp), List.filter_nil, List.append_nil, List.filter_eq_self.2 (fun x hx => by simp; rintro rfl; exact hA hx)]
end
end Go.Proofs.YtmloljjllmmkoaaGreat.CI

namespace Go.Proofs.YtmloljjllmmkoaaGreat.CI
open Go.RowKit Go Go.Maps
/-- a pointer to a block, or none -/
def ptrO : Option Nat → Value
  | some b => .pointer (some ⟨b, 0, none⟩)
  | none => .pointer none
/-- how a pointer in a map reads -/
def ptrElem : Value → Option (DataW Unit × List MemPlace)
  | .pointer none => some (.nil, [])
  | .pointer (some ⟨b, 0, none⟩) => some (.lit (.int .i64 b), [])
  | _ => none
theorem ptrElem_some {v : Value} {b : Nat} {ps : List MemPlace} (h : ptrElem v = some (.lit (.int .i64 b), ps)) : v = ptrO (some b) := by
  unfold ptrElem at h
  split at h
  · cases h
  · rename_i b'
    have : (b' : Int) = b := by simpa using congrArg (fun z => z.map Prod.fst) h
    obtain rfl : b' = b := by omega
    rfl
  · cases h
theorem ptrElem_none {v : Value} {ps : List MemPlace} (h : ptrElem v = some (.nil, ps)) : v = ptrO none := by
  unfold ptrElem at h
  split at h
  · rfl
  · simp at h
  · cases h
end Go.Proofs.YtmloljjllmmkoaaGreat.CI

namespace Go.Proofs.YtmloljjllmmkoaaGreat.CI
open Go.RowKit Go Go.Maps

theorem law : Keyed Tryz.prog 3 :=
  int_keyed Tryz.underlying3
def lit (k : Int) : Lit := .int .i64 k
def Ok (k : Int) : Prop := -9223372036854775808 ≤ k ∧ k ≤ 9223372036854775807
theorem lit_inj {a b : Int} (h : lit a = lit b) : a = b := by
  simpa [lit] using h
theorem lit_key (k : Int) : WideAt.IsKeyLit (lit k) := trivial
theorem key_of {k : Int} (h : Ok k) : keyOf Tryz.prog 3 (.int .i64 k) = some (lit k) := by
  have e1 : IntKind.i64.min = -9223372036854775808 := by decide
  have e2 : IntKind.i64.max = 9223372036854775807 := by decide
  exact keyOf_int_mk Tryz.underlying3 (by unfold Ok at h; simp [Lit.wf, e1, e2, h.1, h.2])

/-! ### isKey -/
theorem catch_idle (p : Addr) (w : World) :
    CallsD Tryz.prog 92 #[.pointer (some p)] .returning w fun e u' w' => e = .returned (.tuple #[]) ∧ u' = .returning ∧ w' = w := by
  refine callsD_of_wpS Tryz.func92 rfl fun c₀ cs hu => ?_
  apply wpS_seq
  apply wpS_region
  simp [wpOpsS, go_sem, recoverD, hu, Tryz.ntmps92, Exit.thenS]
  refine wpS_cond (t := false) (by simp [Act.eval, Array.replicate]) ?_
  simp only [Bool.false_eq_true, if_false]
  refine wpS_of_wp (wp_skip ?_)
  cases c₀
  simp_all [bodyPostS, results, Tryz.results92]

set_option maxHeartbeats 800000 in
theorem isKey_any (k : Int) (w : World) :
    Calls Tryz.prog 52 #[.int .i64 k] w fun e w' => e = .returned (.bool true) ∧ Below w.heap.size w w' := by
  have hmf : ∀ (fn : Fn) (first cap : Array Value) (w : World), (Instr.makeFunc fn first cap).run Tryz.prog w = .ok (.func fn first cap) w := fun _ _ _ _ => rfl
  go_enter_defers Tryz.func52, Tryz.ntmps52
  go_wp2
  refine leaves_cons (f := 92) (args := #[.pointer (some ⟨w.heap.size, 0, none⟩)]) (by simp) (by simp [go_sem]) ?_
  refine (catch_idle ⟨w.heap.size, 0, none⟩ _).mono ?_
  rintro e u' w'' ⟨rfl, rfl, rfl⟩
  simp [Leaves, settle, results, Tryz.results52, go_sem]
  exact (Below.refl _ w).alloc (Nat.le_refl _) _
end Go.Proofs.YtmloljjllmmkoaaGreat.CI

namespace Go.Proofs.YtmloljjllmmkoaaGreat.CI
open Go.RowKit Go Go.Maps

/-- a link, in memory -/
def LObj (x : Int × ByteArray) (n p : Value) : Obj := .cells #[.int .i64 x.1, .string x.2, n, p] 104 (0, 0)
def ptr (b : Nat) : Value := .pointer (some ⟨b, 0, none⟩)
/-- a cache, in memory -/
def CObj (room m r : Nat) : Obj := .cells #[.int .i64 room, .map (some m), ptr r] 102 (0, 0)
section
variable {w : World} {b : Nat} {x : Int × ByteArray} {n p : Value}
theorem LObj.c0 (h : w.heap[b]? = some (LObj x n p)) : w.cell? ⟨b, 0, none⟩ = some (.int .i64 x.1) := by simp [World.cell?, h, LObj]
theorem LObj.c1 (h : w.heap[b]? = some (LObj x n p)) : w.cell? ⟨b, 1, none⟩ = some (.string x.2) := by simp [World.cell?, h, LObj]
theorem LObj.c2 (h : w.heap[b]? = some (LObj x n p)) : w.cell? ⟨b, 2, none⟩ = some n := by simp [World.cell?, h, LObj]
theorem LObj.c3 (h : w.heap[b]? = some (LObj x n p)) : w.cell? ⟨b, 3, none⟩ = some p := by simp [World.cell?, h, LObj]
theorem LObj.fr (h : w.heap[b]? = some (LObj x n p)) (i : Nat) : w.frozen? ⟨b, i, none⟩ = false := by simp [World.frozen?, h, LObj]
theorem LObj.set2 (h : w.heap[b]? = some (LObj x n p)) (v : Value) : (w.setCell ⟨b, 2, none⟩ v).heap[b]? = some (LObj x v p) := by rw [heap_set h]; rfl
theorem LObj.set3 (h : w.heap[b]? = some (LObj x n p)) (v : Value) : (w.setCell ⟨b, 3, none⟩ v).heap[b]? = some (LObj x n v) := by rw [heap_set h]; rfl
variable {room m r : Nat}
theorem CObj.c0 (h : w.heap[b]? = some (CObj room m r)) : w.cell? ⟨b, 0, none⟩ = some (.int .i64 room) := by simp [World.cell?, h, CObj]
theorem CObj.c1 (h : w.heap[b]? = some (CObj room m r)) : w.cell? ⟨b, 1, none⟩ = some (.map (some m)) := by simp [World.cell?, h, CObj]
theorem CObj.c2 (h : w.heap[b]? = some (CObj room m r)) : w.cell? ⟨b, 2, none⟩ = some (.pointer (some ⟨r, 0, none⟩)) := by simp [World.cell?, h, CObj, ptr]
end

/-- the links' blocks, and those that stand before and behind each -/
def Nodes (w : World) (S : List Nat) (nd : Nat → Int × ByteArray) (nx pv : Nat → Nat) : Prop := ∀ b ∈ S, w.heap[b]? = some (LObj (nd b) (ptr (nx b)) (ptr (pv b)))
section
variable {w : World} {S : List Nat} {nd : Nat → Int × ByteArray} {nx pv : Nat → Nat}
theorem Nodes.set2 (h : Nodes w S nd nx pv) (p n : Nat) : Nodes (w.setCell ⟨p, 2, none⟩ (ptr n)) S nd (upd nx p n) pv := by
  intro b hb
  by_cases e : b = p
  · subst e; rw [upd_same]; exact LObj.set2 (h b hb) _
  · rw [upd_other _ _ e]; exact heap_set_other (h b hb) e _
theorem Nodes.set3 (h : Nodes w S nd nx pv) (p n : Nat) : Nodes (w.setCell ⟨p, 3, none⟩ (ptr n)) S nd nx (upd pv p n) := by
  intro b hb
  by_cases e : b = p
  · subst e; rw [upd_same]; exact LObj.set3 (h b hb) _
  · rw [upd_other _ _ e]; exact heap_set_other (h b hb) e _
theorem Nodes.sub (h : Nodes w S nd nx pv) {S' : List Nat} (hs : ∀ b ∈ S', b ∈ S) : Nodes w S' nd nx pv := fun b hb => h b (hs b hb)
theorem Nodes.drewN (h : Nodes w S nd nx pv) (n : Nat) : Nodes (w.drewN n) S nd nx pv := h
end

/-- a ring, in memory -/
structure RingAt (r : Nat) (T : List Nat) (nd : Nat → Int × ByteArray) (nx pv : Nat → Nat) (w : World) : Prop where
  ring : Ringed r T nx pv
  nodes : Nodes w (r :: T) nd nx pv

section
variable {w : World} {r b : Nat} {T : List Nat} {nd : Nat → Int × ByteArray} {nx pv : Nat → Nat}
theorem RingAt.stay {w' : World} {F : Nat → Prop} (h : RingAt r T nd nx pv w) (k : Stir F w w') (hn : ∀ b ∈ r :: T, ¬ F b) : RingAt r T nd nx pv w' :=
  ⟨h.ring, fun b hb => k.keep (h.nodes b hb) (hn b hb)⟩

set_option maxRecDepth 100000 in
set_option maxHeartbeats 1000000 in
theorem leave_raw (b p n : Nat) (x y z : Int × ByteArray) (p1 p2 n1 n2 : Value) (w : World) (hb : w.heap[b]? = some (LObj x (ptr n) (ptr p)))
    (hp : w.heap[p]? = some (LObj y p1 p2)) (hn : w.heap[n]? = some (LObj z n1 n2)) :
    Calls Tryz.prog 51 #[.pointer (some ⟨b, 0, none⟩)] w fun e w' => e = .returned (.tuple #[]) ∧ ∃ N, w' = ((w.setCell ⟨p, 2, none⟩ (ptr n)).setCell ⟨n, 3, none⟩ (ptr p)).drewN N := by
  have b2 := LObj.c2 hb
  have b3 := LObj.c3 hb
  have q2 := LObj.c2 hp
  have fp := LObj.fr hp 2
  have r3 := LObj.c3 hn
  have fn := LObj.fr hn 3
  unfold ptr at b2 b3 ⊢
  clear hb hp hn
  go_enter Tryz.func51, Tryz.ntmps51
  go_wp2
  go_region
  all_goals (go_end0; exact ⟨rfl, 1, rfl⟩)

/-- a link leaves the ring -/
theorem leave_any (h : RingAt r T nd nx pv w) (hb : b ∈ T) :
    Calls Tryz.prog 51 #[.pointer (some ⟨b, 0, none⟩)] w fun e w' => e = .returned (.tuple #[]) ∧ RingAt r (T.filter (· ≠ b)) nd (upd nx (pv b) (nx b)) (upd pv (nx b) (pv b)) w' ∧
      w'.heap[b]? = some (LObj (nd b) (ptr (nx b)) (ptr (pv b))) ∧ Stir (· ∈ r :: T) w w' := by
  obtain ⟨hp, hpb⟩ := h.ring.prev_mem hb
  obtain ⟨hn, hnb⟩ := h.ring.next_mem hb
  have hbT : b ∈ r :: T := List.mem_cons_of_mem _ hb
  refine (leave_raw b (pv b) (nx b) _ _ _ _ _ _ _ w (h.nodes b hbT) (h.nodes _ hp) (h.nodes _ hn)).mono ?_
  rintro e w' ⟨rfl, N, rfl⟩
  refine ⟨rfl, ⟨h.ring.leave hb, ?_⟩, ?_, ?_⟩
  · exact (((h.nodes.set2 (pv b) (nx b)).set3 (nx b) (pv b)).sub (fun i hi => by
      rcases List.mem_cons.1 hi with rfl | hi
      · simp
      · exact List.mem_cons_of_mem _ (List.mem_filter.1 hi).1)).drewN N
  · exact heap_set_other (heap_set_other (h.nodes b hbT) (Ne.symm hpb) _) (Ne.symm hnb) _
  · exact (((Stir.refl _ w).set (Or.inl hp) _).set (Or.inl hn) _).drewN N

set_option maxRecDepth 100000 in
set_option maxHeartbeats 1000000 in
theorem follow_raw (b r q : Nat) (x y z : Int × ByteArray) (p2 n1 n2 x1 x2 : Value) (hbr : b ≠ r) (hbq : b ≠ q) (w : World) (hb : w.heap[b]? = some (LObj x x1 x2))
    (hr : w.heap[r]? = some (LObj y (ptr q) p2)) (hq : w.heap[q]? = some (LObj z n1 n2)) :
    Calls Tryz.prog 53 #[.pointer (some ⟨b, 0, none⟩), .pointer (some ⟨r, 0, none⟩)] w fun e w' => e = .returned (.tuple #[]) ∧
      ∃ N, w' = ((((w.setCell ⟨b, 3, none⟩ (ptr r)).setCell ⟨b, 2, none⟩ (ptr q)).setCell ⟨r, 2, none⟩ (ptr b)).setCell ⟨q, 3, none⟩ (ptr b)).drewN N := by
  have b2 := LObj.c2 hb
  have b3 := LObj.c3 hb
  have fb2 := LObj.fr hb 2
  have fb3 := LObj.fr hb 3
  have q2 := LObj.c2 hr
  have fp := LObj.fr hr 2
  have r3 := LObj.c3 hq
  have fn := LObj.fr hq 3
  have hrb := Ne.symm hbr
  have hqb := Ne.symm hbq
  unfold ptr at q2 ⊢
  clear hb hr hq
  go_enter Tryz.func53, Tryz.ntmps53
  go_wp2
  go_region
  all_goals (go_end0; exact ⟨rfl, 1, rfl⟩)

/-- a link comes into the ring, behind the one that closes it -/
theorem follow_any (h : RingAt r T nd nx pv w) (hb : b ∉ r :: T) (x : Int × ByteArray) (x1 x2 : Value) (ho : w.heap[b]? = some (LObj x x1 x2)) :
    Calls Tryz.prog 53 #[.pointer (some ⟨b, 0, none⟩), .pointer (some ⟨r, 0, none⟩)] w fun e w' => e = .returned (.tuple #[]) ∧
      RingAt r (b :: T) (upd nd b x) (upd (upd nx b (nx r)) r b) (upd (upd pv b r) (nx r) b) w' ∧ Stir (· ∈ r :: b :: T) w w' := by
  have hq := h.ring.ring_next
  have hbr : b ≠ r := fun e => hb (by simp [e])
  have hbq : b ≠ nx r := fun e => hb (e ▸ hq)
  refine (follow_raw b r (nx r) x _ _ _ _ _ _ _ hbr hbq w ho (h.nodes r (by simp)) (h.nodes _ hq)).mono ?_
  rintro e w' ⟨rfl, N, rfl⟩
  have hN : Nodes ((w.setCell ⟨b, 3, none⟩ (ptr r)).setCell ⟨b, 2, none⟩ (ptr (nx r))) (r :: b :: T) (upd nd b x) (upd nx b (nx r)) (upd pv b r) := by
    intro i hi
    by_cases e : i = b
    · subst e
      rw [upd_same, upd_same, upd_same]
      exact LObj.set2 (LObj.set3 ho _) _
    · rw [upd_other _ _ e, upd_other _ _ e, upd_other _ _ e]
      refine heap_set_other (heap_set_other (h.nodes i ?_) e _) e _
      simp at hi ⊢
      rcases hi with hi | hi | hi
      · exact Or.inl hi
      · exact absurd hi e
      · exact Or.inr hi
  refine ⟨rfl, ⟨h.ring.follow hb, ((hN.set2 r b).set3 (nx r) b).drewN N⟩, ?_⟩
  have m : nx r ∈ r :: b :: T := by
    simp at hq ⊢
    rcases hq with hq | hq
    · exact Or.inl hq
    · exact Or.inr (Or.inr hq)
  exact (((((Stir.refl _ w).set (Or.inl (by simp)) _).set (Or.inl (by simp)) _).set (Or.inl (by simp)) _).set (Or.inl m) _).drewN N
end

/-! ### The cache -/
/-- a cache, with all that it stands on -/
structure CacheAt (c m r room : Nat) (T : List Nat) (nd : Nat → Int × ByteArray) (nx pv : Nat → Nat) (D : DataW Unit) (w : World) : Prop where
  obj : w.heap[c]? = some (CObj room m r)
  map : w.ownsMap Tryz.prog 3 ptrElem m T.length D
  size : Maps.size D = T.length
  look : ∀ k z, D.atKey (lit k) z = match blockOf T nd k with | some b => .lit (.int .i64 b) | none => z
  ring : RingAt r T nd nx pv w
  keys : (T.map fun b => (nd b).1).Nodup
  ok : ∀ b ∈ T, Ok (nd b).1

/-- its blocks -/
def Foot (c m r : Nat) (T : List Nat) (k : Nat) : Prop := k = c ∨ k = m ∨ k ∈ r :: T

section
variable {w w' : World} {c m r room : Nat} {T : List Nat} {nd : Nat → Int × ByteArray} {nx pv : Nat → Nat} {D : DataW Unit}
theorem CacheAt.c_map (h : CacheAt c m r room T nd nx pv D w) : c ≠ m := by
  rintro rfl
  obtain ⟨es, clock, hb, _⟩ := h.map
  rw [h.obj] at hb
  cases hb
theorem CacheAt.c_ring (h : CacheAt c m r room T nd nx pv D w) : c ∉ r :: T := by
  intro e
  have := h.ring.nodes c e
  rw [h.obj] at this
  simp [CObj, LObj] at this
theorem CacheAt.m_ring (h : CacheAt c m r room T nd nx pv D w) : m ∉ r :: T := by
  intro e
  have := h.ring.nodes m e
  obtain ⟨es, clock, hb, _⟩ := h.map
  rw [hb] at this
  cases this
theorem CacheAt.lt (h : CacheAt c m r room T nd nx pv D w) {k : Nat} (hk : Foot c m r T k) : k < w.heap.size := by
  rcases hk with rfl | rfl | hk
  · exact lt_of_heap h.obj
  · exact h.map.lt
  · exact lt_of_heap (h.ring.nodes k hk)
theorem CacheAt.stay {F : Nat → Prop} (h : CacheAt c m r room T nd nx pv D w) (k : Stir F w w') (hn : ∀ b, Foot c m r T b → ¬ F b) : CacheAt c m r room T nd nx pv D w' := by
  refine ⟨k.keep h.obj (hn c (Or.inl rfl)), ?_, h.size, h.look, h.ring.stay k (fun b hb => hn b (Or.inr (Or.inr hb))), h.keys, h.ok⟩
  obtain ⟨es, clock, hb, rest⟩ := h.map
  exact ⟨es, clock, k.keep hb (hn m (Or.inr (Or.inl rfl))), rest⟩
theorem CacheAt.later (h : CacheAt c m r room T nd nx pv D w) (k : Below w.heap.size w w') : CacheAt c m r room T nd nx pv D w' :=
  h.stay (Stir.of_below (F := fun _ => False) k) (fun _ _ h => h)
theorem zeroE (w : World) : (zeroValue 98).run Tryz.prog w = .ok (.pointer none) w := by kernel_rfl

/-- what the map answers of a key -/
theorem CacheAt.lookup (h : CacheAt c m r room T nd nx pv D w) {k : Int} (hk : Ok k) :
    (Instr.lookup 100 (.map (some m)) (.int .i64 k) false).run Tryz.prog w = .ok (ptrO (blockOf T nd k)) w := by
  obtain ⟨v, ps, hrun, hv⟩ := h.map.lookup law Tryz.underlying100 (zeroE w) (zd := .nil) (zp := []) rfl (key_of hk)
  rw [h.look] at hv
  rw [hrun]
  cases e : blockOf T nd k with
  | none => rw [e] at hv; rw [ptrElem_none hv]
  | some b => rw [e] at hv; rw [ptrElem_some hv]

set_option maxRecDepth 100000 in
set_option maxHeartbeats 1000000 in
theorem find_any (h : CacheAt c m r room T nd nx pv D w) {k : Int} (hk : Ok k) :
    Calls Tryz.prog 50 #[.pointer (some ⟨c, 0, none⟩), .int .i64 k] w fun e w' => e = .returned (ptrO (blockOf T nd k)) ∧ Below w.heap.size w w' := by
  have H := Lib.hid h
  clear h
  go_enter Tryz.func50, Tryz.ntmps50
  go_wp2_with fail
  refine (isKey_any k _).mono ?_
  rintro e w1 ⟨rfl, hB⟩
  have h1 := H.out.later hB
  have c1 := CObj.c1 h1.obj
  have hl := h1.lookup hk
  clear h1
  go_wp2
  go_ret
  exact ⟨rfl, hB⟩
end
end Go.Proofs.YtmloljjllmmkoaaGreat.CI

namespace Go.Proofs.YtmloljjllmmkoaaGreat.CI
open Go.RowKit Go Go.Maps

theorem owns_fit {w : World} {m n : Nat} {D : DataW Unit} (h : w.ownsMap Tryz.prog 3 ptrElem m n D) : w.ownsMap Tryz.prog 3 ptrElem m (Maps.size D) D := by
  obtain ⟨es, clock, hb, F, _, rfl⟩ := h
  exact ⟨es, clock, hb, F, by simp [Maps.size, length_sorted], rfl⟩

section
variable {w w' : World} {c m r room : Nat} {T : List Nat} {nd : Nat → Int × ByteArray} {nx pv : Nat → Nat} {D : DataW Unit}
theorem CacheAt.has (h : CacheAt c m r room T nd nx pv D w) (k : Int) : Maps.has D (lit k) = (blockOf T nd k).isSome := by
  cases e : blockOf T nd k with
  | none => exact Maps.has_false_of_atKey (fun z => by rw [h.look, e])
  | some b => exact Maps.has_true_of_atKey (y := .lit (.int .i64 b)) (fun z => by rw [h.look, e])

/-- what there is behind a Drop: said of the parts -/
theorem CacheAt.dropped {w1 w2 : World} (h : CacheAt c m r room T nd nx pv D w) {k : Int} {b : Nat} (hb : blockOf T nd k = some b)
    (hr : RingAt r (T.filter (· ≠ b)) nd (upd nx (pv b) (nx b)) (upd pv (nx b) (pv b)) w1) (hs : Stir (· ∈ r :: T) w w1) {n : Nat}
    (hm : w2.ownsMap Tryz.prog 3 ptrElem m n (D.del (lit k))) (ht : w1.mapTurned w2 m) :
    CacheAt c m r room (T.filter (· ≠ b)) nd (upd nx (pv b) (nx b)) (upd pv (nx b) (pv b)) (D.del (lit k)) w2 ∧ Stir (Foot c m r T) w w2 := by
  have hS : Stir (Foot c m r T) w w1 := hs.weaken (fun i hi => Or.inr (Or.inr hi))
  have hS2 := hS.turned (Or.inl (Or.inr (Or.inl rfl))) ht
  have hT : Stir (· = m) w1 w2 := Stir.turned (Stir.refl _ _) (Or.inl rfl) ht
  obtain ⟨bT, _⟩ := blockOf_some hb
  have hnT : T.Nodup := (List.nodup_cons.1 h.ring.ring.nodup).2
  have hsz : Maps.size (D.del (lit k)) = (T.filter (· ≠ b)).length := by
    have e1 := Maps.size_del (k := lit k) (h.map.tidy law)
    have e2 := h.has k
    rw [hb] at e2
    rw [e2, h.size] at e1
    have e3 := filter_length hnT bT
    simp at e1
    omega
  refine ⟨⟨?_, ?_, hsz, ?_, ?_, nodup_filter_keys h.keys _, fun i hi => h.ok i (List.mem_filter.1 hi).1⟩, hS2⟩
  · exact hT.keep (hs.keep h.obj h.c_ring) h.c_map
  · rw [← hsz]; exact owns_fit hm
  · intro k' z
    rw [blockOf_filter h.keys hb]
    by_cases e : k' = k
    · subst e; rw [if_pos rfl]; exact Maps.atKey_del_same z
    · rw [if_neg e, Maps.atKey_del_other (fun e2 => e (lit_inj e2)), h.look]
  · exact hr.stay hT (fun i hi e => h.m_ring (by subst e; rcases List.mem_cons.1 hi with e2 | hi; rw [e2]; simp; exact List.mem_cons_of_mem _ (List.mem_filter.1 hi).1))

/-- what a Drop leaves -/
def Dropped (c m r room : Nat) (T : List Nat) (nd : Nat → Int × ByteArray) (k : Int) (w w' : World) : Prop :=
  ∃ T' nx' pv' D', CacheAt c m r room T' nd nx' pv' D' w' ∧ T'.map nd = dropL (T.map nd) k ∧ (∀ b ∈ T', b ∈ T) ∧ blockOf T' nd k = none ∧ T'.length ≤ T.length ∧ Stir (Foot c m r T) w w'

set_option maxRecDepth 100000 in
set_option maxHeartbeats 1000000 in
theorem drop_at (h : CacheAt c m r room T nd nx pv D w) {k : Int} (hk : Ok k) :
    Calls Tryz.prog 20 #[.pointer (some ⟨c, 0, none⟩), .int .i64 k] w fun e w' => e = .returned (.bool (getL (T.map nd) k).isSome) ∧ Dropped c m r room T nd k w w' := by
  have hfind := find_any h hk
  have hg := get_block T nd k
  rw [hg, Option.isSome_map]
  have H := Lib.hid h
  clear hg h
  cases hb : blockOf T nd k with
  | none =>
    have HB := Lib.hid hb
    rw [hb] at hfind
    unfold ptrO at hfind
    clear hb
    go_enter Tryz.func20, Tryz.ntmps20
    go_wp2_with fail
    refine hfind.mono ?_
    rintro e w1 ⟨rfl, hB⟩
    go_wp2_with fail
    go_ret
    exact ⟨rfl, T, nx, pv, D, H.out.later hB, (drop_none HB.out).symm, fun _ h => h, HB.out, Nat.le_refl _, Stir.of_below hB⟩
  | some b =>
    have HB := Lib.hid hb
    rw [hb] at hfind
    unfold ptrO at hfind
    clear hb
    go_enter Tryz.func20, Tryz.ntmps20
    go_wp2_with fail
    refine hfind.mono ?_
    rintro e w1 ⟨rfl, hB⟩
    go_wp2_with fail
    have h1 := H.out.later hB
    refine (leave_any h1.ring (blockOf_some HB.out).1).mono ?_
    rintro e w2 ⟨rfl, hr, -, hs⟩
    have c1 := CObj.c1 (hs.keep h1.obj h1.c_ring)
    have hm2 : w2.ownsMap Tryz.prog 3 ptrElem m T.length D := by
      obtain ⟨es, clock, hb', rest⟩ := h1.map
      exact ⟨es, clock, hs.keep hb' h1.m_ring, rest⟩
    have HR := Lib.hid hr
    have HS := Lib.hid hs
    have H1 := Lib.hid h1
    clear hr hs h1 hfind
    go_wp2_with (at_delete; refine wpList_delete_own _ rfl _ _ 100 3 rfl 98 law Tryz.underlying100 _ m T.length D rfl hm2 _ _ rfl (key_of hk) ?_; intro w3 hown hturn)
    go_ret
    obtain ⟨hc, hS⟩ := H1.out.dropped HB.out HR.out HS.out hown hturn
    have hno := blockOf_filter (k' := k) H1.out.keys HB.out
    rw [if_pos rfl] at hno
    exact ⟨rfl, _, _, _, _, hc, (drop_block H1.out.keys HB.out).symm, fun _ h => (List.mem_filter.1 h).1, hno, List.length_filter_le _ _, (Stir.of_below hB).trans hS (fun _ h => Or.inl h)⟩
end

/-- a cache: its things in the order in which they were used; F: the blocks that are its own -/
def Cach (B : Nat) (F : Nat → Prop) (c room : Nat) (L : List (Int × ByteArray)) (w : World) : Prop :=
  ∃ m r T nd nx pv D, CacheAt c m r room T nd nx pv D w ∧ T.map nd = L ∧ (∀ k, F k ↔ Foot c m r T k) ∧ (∀ k, F k → B ≤ k) ∧ T.length ≤ room ∧ room ≤ 65536

section
variable {w w' : World} {B c room : Nat} {F : Nat → Prop} {L : List (Int × ByteArray)}
theorem Cach.lt (h : Cach B F c room L w) {k : Nat} (hk : F k) : k < w.heap.size := by
  obtain ⟨m, r, T, nd, nx, pv, D, hc, _, hF, _, _⟩ := h
  exact hc.lt ((hF k).1 hk)
theorem Cach.low (h : Cach B F c room L w) {k : Nat} (hk : F k) : B ≤ k := by
  obtain ⟨m, r, T, nd, nx, pv, D, _, _, _, hB, _⟩ := h
  exact hB k hk
theorem Cach.stay {G : Nat → Prop} (h : Cach B F c room L w) (k : Stir G w w') (hn : ∀ b, F b → ¬ G b) : Cach B F c room L w' := by
  obtain ⟨m, r, T, nd, nx, pv, D, hc, hL, hF, hB⟩ := h
  exact ⟨m, r, T, nd, nx, pv, D, hc.stay k (fun b hb => hn b ((hF b).2 hb)), hL, hF, hB⟩
theorem Cach.later (h : Cach B F c room L w) (k : Below w.heap.size w w') : Cach B F c room L w' :=
  h.stay (Stir.of_below (F := fun _ => False) k) (fun _ _ h => h)

/-- what a call leaves: the cache, and what it may have turned -/
def Left (B : Nat) (F : Nat → Prop) (c room : Nat) (L : List (Int × ByteArray)) (w w' : World) : Prop :=
  ∃ F', Cach B F' c room L w' ∧ Stir F w w' ∧ ∀ k, F' k → F k ∨ w.heap.size ≤ k

theorem drop_any (h : Cach B F c room L w) {k : Int} (hk : Ok k) :
    Calls Tryz.prog 20 #[.pointer (some ⟨c, 0, none⟩), .int .i64 k] w fun e w' => e = .returned (.bool (getL L k).isSome) ∧ Left B F c room (dropL L k) w w' := by
  obtain ⟨m, r, T, nd, nx, pv, D, hc, rfl, hF, hB, hft, hmr⟩ := h
  refine (drop_at hc hk).mono ?_
  rintro e w' ⟨rfl, T', nx', pv', D', h1, h2, h3, _, h5, h4⟩
  have sub : ∀ k, Foot c m r T' k → Foot c m r T k := fun k hk => by
    rcases hk with hk | hk | hk
    · exact Or.inl hk
    · exact Or.inr (Or.inl hk)
    · rcases List.mem_cons.1 hk with hk | hk
      · exact Or.inr (Or.inr (by rw [hk]; simp))
      · exact Or.inr (Or.inr (List.mem_cons_of_mem _ (h3 k hk)))
  exact ⟨rfl, Foot c m r T', ⟨m, r, T', nd, nx', pv', D', h1, h2, fun _ => Iff.rfl, fun k hk => hB k ((hF k).2 (sub k hk)), Nat.le_trans h5 hft, hmr⟩, h4.weaken (fun k hk => (hF k).2 hk), fun k hk => Or.inl ((hF k).2 (sub k hk))⟩

set_option maxRecDepth 100000 in
set_option maxHeartbeats 1000000 in
theorem get_none (h : Cach B F c room L w) {k : Int} (hk : Ok k) (hg : getL L k = none) :
    Calls Tryz.prog 163 #[.pointer (some ⟨c, 0, none⟩), .int .i64 k] w fun e w' => e = .returned (.tuple #[.string (⟨#[]⟩ : ByteArray), .bool false]) ∧ Left B F c room L w w' := by
  have H := Lib.hid h
  obtain ⟨m, r, T, nd, nx, pv, D, hc, rfl, hF, hB, hft, hmr⟩ := h
  have hfind := find_any hc hk
  rw [get_block] at hg
  have hb : blockOf T nd k = none := by
    cases e : blockOf T nd k with
    | none => rfl
    | some b => rw [e] at hg; cases hg
  rw [hb] at hfind
  unfold ptrO at hfind
  clear hb hg hc hF hB hft hmr
  go_enter Tryz.func163, Tryz.ntmps163
  go_wp2_with fail
  refine hfind.mono ?_
  rintro e w1 ⟨rfl, hB⟩
  go_wp2_with fail
  go_ret2
  exact ⟨rfl, F, H.out.later hB, Stir.of_below hB, fun _ h => Or.inl h⟩

theorem map_front (T : List Nat) (nd : Nat → Int × ByteArray) {b : Nat} (x : Int × ByteArray) (hb : b ∉ T) : (b :: T).map (upd nd b x) = x :: T.map nd := by
  rw [List.map_cons, upd_same, map_upd T nd x hb]
theorem upd_self {α : Type} (f : Nat → α) (a : Nat) : upd f a (f a) = f := by
  funext i; unfold upd; split
  · rename_i h; rw [h]
  · rfl

/-- what there is behind a Get -/
theorem CacheAt.used {w1 w2 : World} {m r : Nat} {T : List Nat} {nd : Nat → Int × ByteArray} {nx pv nx' pv' : Nat → Nat} {D : DataW Unit} (h : CacheAt c m r room T nd nx pv D w) {b : Nat} (hb : b ∈ T)
    (hs : Stir (· ∈ r :: T) w w1) (hr2 : RingAt r (b :: T.filter (· ≠ b)) nd nx' pv' w2) (hs2 : Stir (· ∈ r :: b :: T.filter (· ≠ b)) w1 w2) :
    CacheAt c m r room (b :: T.filter (· ≠ b)) nd nx' pv' D w2 ∧ Stir (Foot c m r T) w w2 ∧ ∀ k, Foot c m r (b :: T.filter (· ≠ b)) k → Foot c m r T k := by
  have sub : ∀ i, i ∈ r :: b :: T.filter (· ≠ b) → i ∈ r :: T := fun i hi => by
    rcases List.mem_cons.1 hi with rfl | hi
    · simp
    · rcases List.mem_cons.1 hi with rfl | hi
      · exact List.mem_cons_of_mem _ hb
      · exact List.mem_cons_of_mem _ (List.mem_filter.1 hi).1
  have hS : Stir (· ∈ r :: T) w w2 := hs.trans hs2 (fun i hi => Or.inl (sub i hi))
  have hnT : T.Nodup := (List.nodup_cons.1 h.ring.ring.nodup).2
  have hlen : (b :: T.filter (· ≠ b)).length = T.length := by rw [List.length_cons]; exact filter_length hnT hb
  refine ⟨⟨hS.keep h.obj h.c_ring, ?_, h.size.trans hlen.symm, ?_, hr2, ?_, ?_⟩, hS.weaken (fun i hi => Or.inr (Or.inr hi)), ?_⟩
  · obtain ⟨es, clock, hb', rest⟩ := h.map
    rw [hlen]
    exact ⟨es, clock, hS.keep hb' h.m_ring, rest⟩
  · intro k z
    rw [h.look]
    have e : blockOf (b :: T.filter (· ≠ b)) nd k = blockOf T nd k := by
      by_cases e1 : (nd b).1 = k
      · rw [blockOf_of h.keys hb e1]
        unfold blockOf
        rw [List.find?_cons_of_pos (by simpa using e1)]
      · have e2 : blockOf (b :: T.filter (· ≠ b)) nd k = blockOf (T.filter (· ≠ b)) nd k := by
          unfold blockOf
          rw [List.find?_cons_of_neg (by simpa using e1)]
        rw [e2, blockOf_filter h.keys (blockOf_of h.keys hb rfl), if_neg (fun e => e1 e.symm)]
    rw [e]
  · rw [List.map_cons, List.nodup_cons]
    refine ⟨fun hm => ?_, nodup_filter_keys h.keys _⟩
    obtain ⟨i, hi, e⟩ := List.mem_map.1 hm
    have hi' := List.mem_filter.1 hi
    have := inj_keys T h.keys hi'.1 hb e
    simp [this] at hi'
  · intro i hi
    rcases List.mem_cons.1 hi with rfl | hi
    · exact h.ok _ hb
    · exact h.ok i (List.mem_filter.1 hi).1
  · rintro k (hk | hk | hk)
    · exact Or.inl hk
    · exact Or.inr (Or.inl hk)
    · exact Or.inr (Or.inr (sub k hk))

set_option maxRecDepth 100000 in
set_option maxHeartbeats 1000000 in
theorem get_some (h : Cach B F c room L w) {k : Int} (hk : Ok k) {v : ByteArray} (hg : getL L k = some v) :
    Calls Tryz.prog 163 #[.pointer (some ⟨c, 0, none⟩), .int .i64 k] w fun e w' => e = .returned (.tuple #[.string v, .bool true]) ∧ Left B F c room ((k, v) :: dropL L k) w w' := by
  obtain ⟨m, r, T, nd, nx, pv, D, hc, rfl, hF, hB, hft, hmr⟩ := h
  have hfind := find_any hc hk
  rw [get_block] at hg
  obtain ⟨b, hb⟩ : ∃ b, blockOf T nd k = some b := by
    cases e : blockOf T nd k with
    | none => rw [e] at hg; cases hg
    | some b => exact ⟨b, rfl⟩
  rw [hb] at hg
  obtain rfl : (nd b).2 = v := Option.some.inj hg
  rw [hb] at hfind
  unfold ptrO at hfind
  have HB := Lib.hid hb
  have HC := Lib.hid hc
  have HF := Lib.hid hF
  have HL := Lib.hid hB
  have HM := Lib.hid hft
  clear hb hg hc hF hB hft
  go_enter Tryz.func163, Tryz.ntmps163
  go_wp2_with fail
  refine hfind.mono ?_
  rintro e w1 ⟨rfl, hB⟩
  have h1 := HC.out.later hB
  have hbT := (blockOf_some HB.out).1
  have HT := Lib.hid hbT
  have H1 := Lib.hid h1
  clear hfind
  go_wp2_with fail
  refine (leave_any h1.ring hbT).mono ?_
  rintro e w2 ⟨rfl, hr, ho, hs⟩
  have c2 := CObj.c2 (hs.keep h1.obj h1.c_ring)
  have HR := Lib.hid hr
  have HO := Lib.hid ho
  have HS := Lib.hid hs
  clear hr ho hs h1 hbT
  go_wp2_with fail
  refine (follow_any HR.out (by
    have hn := List.nodup_cons.1 HC.out.ring.ring.nodup
    intro hi
    rcases List.mem_cons.1 hi with e | hi
    · exact hn.1 (e ▸ HT.out)
    · simp at hi) _ _ _ HO.out).mono ?_
  rintro e w3 ⟨rfl, hr3, hs3⟩
  rw [upd_self] at hr3
  have c3 := LObj.c1 (hr3.nodes b (by simp))
  have HR3 := Lib.hid hr3
  have HS3 := Lib.hid hs3
  clear hr3 hs3 c2
  go_wp2_with fail
  go_ret2
  obtain ⟨u1, u2, u3⟩ := H1.out.used HT.out HS.out HR3.out HS3.out
  refine ⟨rfl, _, ⟨m, r, _, nd, _, _, D, u1, ?_, fun _ => Iff.rfl, fun i hi => HL.out i ((HF.out i).2 (u3 i hi)), by rw [List.length_cons, filter_length (List.nodup_cons.1 HC.out.ring.ring.nodup).2 HT.out]; exact HM.out, hmr⟩, (Stir.of_below hB).trans (u2.weaken (fun i hi => (HF.out i).2 hi)) (fun _ h => Or.inl h), fun i hi => Or.inl ((HF.out i).2 (u3 i hi))⟩
  rw [List.map_cons, drop_block HC.out.keys HB.out, ← (blockOf_some HB.out).2]
end
end Go.Proofs.YtmloljjllmmkoaaGreat.CI

namespace Go.Proofs.YtmloljjllmmkoaaGreat.CI
open Go.RowKit Go Go.Maps

section
variable {w w' : World} {c m r room : Nat} {T : List Nat} {nd : Nat → Int × ByteArray} {nx pv : Nat → Nat} {D : DataW Unit}

theorem CacheAt.c_new (h : CacheAt c m r room T nd nx pv D w) {b : Nat} (hw : w.heap.size ≤ b) : c ∉ r :: b :: T := by
  intro e
  rcases List.mem_cons.1 e with e | e
  · exact h.c_ring (by simp [e])
  · rcases List.mem_cons.1 e with e | e
    · have := h.lt (Or.inl rfl); omega
    · exact h.c_ring (List.mem_cons_of_mem _ e)
theorem CacheAt.m_new (h : CacheAt c m r room T nd nx pv D w) {b : Nat} (hw : w.heap.size ≤ b) : m ∉ r :: b :: T := by
  intro e
  rcases List.mem_cons.1 e with e | e
  · exact h.m_ring (by simp [e])
  · rcases List.mem_cons.1 e with e | e
    · have := h.lt (Or.inr (Or.inl rfl)); omega
    · exact h.m_ring (List.mem_cons_of_mem _ e)
theorem CacheAt.new_not (h : CacheAt c m r room T nd nx pv D w) {b : Nat} (hw : w.heap.size ≤ b) : b ∉ r :: T := fun e => by
  have := h.lt (Or.inr (Or.inr e)); omega

/-- what there is behind a Put of a key that was not there -/
theorem CacheAt.new {w1 w2 : World} (h : CacheAt c m r room T nd nx pv D w) {k : Int} {v : ByteArray} (hk : Ok k) (hno : blockOf T nd k = none) {b : Nat} (hw : w.heap.size ≤ b) {nx' pv' : Nat → Nat}
    (hr : RingAt r (b :: T) (upd nd b (k, v)) nx' pv' w1) (hs : Stir (· ∈ r :: b :: T) w w1) {n : Nat}
    (hm : w2.ownsMap Tryz.prog 3 ptrElem m n (D.put (lit k) (.lit (.int .i64 b)))) (ht : w1.mapTurned w2 m) :
    CacheAt c m r room (b :: T) (upd nd b (k, v)) nx' pv' (D.put (lit k) (.lit (.int .i64 b))) w2 ∧ Stir (Foot c m r T) w w2 := by
  have hS : Stir (Foot c m r T) w w1 := ⟨hs.os, hs.tape, hs.output, hs.size, fun i hi hn => hs.block i hi (fun f => by
    rcases List.mem_cons.1 f with e | f
    · exact hn (Or.inr (Or.inr (by simp [e])))
    · rcases List.mem_cons.1 f with e | f
      · omega
      · exact hn (Or.inr (Or.inr (List.mem_cons_of_mem _ f))))⟩
  have hS2 := hS.turned (Or.inl (Or.inr (Or.inl rfl))) ht
  have hT : Stir (· = m) w1 w2 := Stir.turned (Stir.refl _ _) (Or.inl rfl) ht
  have hbT : b ∉ T := fun e => by have := h.lt (Or.inr (Or.inr (List.mem_cons_of_mem _ e))); omega
  have hcb := h.c_new hw
  have hmb := h.m_new hw
  have hsz : Maps.size (D.put (lit k) (DataW.lit (H := Unit) (.int .i64 b))) = (b :: T).length := by
    rw [Maps.size_put (h.map.tidy law), h.has, hno, h.size]
    rfl
  refine ⟨⟨hT.keep (hs.keep h.obj hcb) h.c_map, by rw [← hsz]; exact owns_fit hm, hsz, ?_, hr.stay hT (fun i hi e => hmb (by rw [← e]; exact hi)), ?_, ?_⟩, hS2⟩
  · intro k' z
    have e0 : blockOf (b :: T) (upd nd b (k, v)) k' = if k = k' then some b else blockOf T nd k' := by
      by_cases e : k = k'
      · rw [if_pos e]; unfold blockOf; rw [List.find?_cons_of_pos (by simp [upd_same, e])]
      · rw [if_neg e]
        have e2 : blockOf (b :: T) (upd nd b (k, v)) k' = blockOf T (upd nd b (k, v)) k' := by unfold blockOf; rw [List.find?_cons_of_neg (by simp [upd_same, e])]
        rw [e2, blockOf_upd T nd (k, v) k' hbT]
    rw [e0]
    by_cases e : k = k'
    · subst e; rw [if_pos rfl]; exact Maps.atKey_put_same h.map.isMap (lit_key k) _ z
    · rw [if_neg e, Maps.atKey_put_other (fun e2 => e (lit_inj e2).symm), h.look]
  · rw [List.map_cons, upd_same, List.nodup_cons]
    have e1 : (T.map fun i => (upd nd b (k, v) i).1) = T.map fun i => (nd i).1 := List.map_congr_left fun i hi => by rw [upd_other _ _ (by rintro rfl; exact hbT hi)]
    rw [e1]
    refine ⟨fun hmm => ?_, h.keys⟩
    obtain ⟨i, hi, e⟩ := List.mem_map.1 hmm
    exact blockOf_none hno i hi e
  · intro i hi
    rcases List.mem_cons.1 hi with rfl | hi
    · rw [upd_same]; exact hk
    · rw [upd_other _ _ (fun e2 => hbT (by rw [← e2]; exact hi))]; exact h.ok i hi
end

/-- what a Put answers -/
def putV (room : Nat) (L : List (Int × ByteArray)) (k : Int) (v : ByteArray) : Value :=
  match goneL room L k v with | some g => .tuple #[.int .i64 g, .bool true] | none => .tuple #[.int .i64 (0 : Int), .bool false]

section
variable {w w' : World} {B c room : Nat} {F : Nat → Prop} {L : List (Int × ByteArray)}

theorem CacheAt.drew {m r : Nat} {T : List Nat} {nd : Nat → Int × ByteArray} {nx pv : Nat → Nat} {D : DataW Unit} (h : CacheAt c m r room T nd nx pv D w) : CacheAt c m r room T nd nx pv D w.drew := ⟨h.obj, h.map, h.size, h.look, ⟨h.ring.ring, h.ring.nodes⟩, h.keys, h.ok⟩
theorem Left.drew (h : Left B F c room L w w') : Left B F c room L w w'.drew := by
  obtain ⟨F', ⟨m, r, T, nd, nx, pv, D, hc, h1⟩, h2, h3⟩ := h
  exact ⟨F', ⟨m, r, T, nd, nx, pv, D, hc.drew, h1⟩, h2.drew, h3⟩

set_option maxRecDepth 100000 in
set_option maxHeartbeats 2000000 in
theorem put_fits (h : Cach B F c room L w) {k : Int} (hk : Ok k) (v : ByteArray) (hle : (dropL L k).length + 1 ≤ room) :
    Calls Tryz.prog 22 #[.pointer (some ⟨c, 0, none⟩), .int .i64 k, .string v] w fun e w' => e = .returned (.tuple #[.int .i64 (0 : Int), .bool false]) ∧ Left B F c room ((k, v) :: dropL L k) w w' := by
  obtain ⟨m, r, T, nd, nx, pv, D, hc, rfl, hF, hB, hft, hmr⟩ := h
  have HC := Lib.hid hc
  have HF := Lib.hid hF
  have HL := Lib.hid hB
  have HM := Lib.hid hft
  have HE := Lib.hid hle
  clear hc hF hB hft hle
  go_enter Tryz.func22, Tryz.ntmps22
  go_wp2_with fail
  refine (isKey_any k _).mono ?_
  rintro e w1 ⟨rfl, hB⟩
  go_wp2_with fail
  refine (drop_at (HC.out.later hB) hk).mono ?_
  rintro e w2 ⟨rfl, T', nx', pv', D', h1, h2, h3, h4, h5, h6⟩
  have H1 := Lib.hid h1
  have H2 := Lib.hid h2
  have H3 := Lib.hid h3
  have H4 := Lib.hid h4
  have H5 := Lib.hid h5
  have H6 := Lib.hid h6
  have hx := CacheAt.later h1 ((Below.refl _ w2).alloc (Nat.le_refl _) (LObj (k, v) (.pointer none) (.pointer none)))
  have c2 := CObj.c2 hx.obj
  unfold LObj at c2
  have HX := Lib.hid hx
  have hno : w2.heap.size ∉ r :: T' := h1.new_not (Nat.le_refl _)
  clear h1 h2 h3 h4 h5 h6 hx
  go_wp2_with fail
  refine (follow_any (b := w2.heap.size) (T := T') (x := (k, v)) (x1 := .pointer none) (x2 := .pointer none) HX.out.ring hno (heap_alloc_new _ _)).mono ?_
  rintro e w3 ⟨rfl, hr, hs⟩
  have c1 := CObj.c1 (hs.keep HX.out.obj (H1.out.c_new (Nat.le_refl _)))
  have hm3 : w3.ownsMap Tryz.prog 3 ptrElem m T'.length D' := by
    obtain ⟨es, clock, hb', rest⟩ := HX.out.map
    exact ⟨es, clock, hs.keep hb' (H1.out.m_new (Nat.le_refl _)), rest⟩
  have hs' : Stir (· ∈ r :: w2.heap.size :: T') w2 w3 := (Stir.of_below ((Below.refl _ w2).alloc (Nat.le_refl _) _)).trans hs (fun _ h => Or.inl h)
  have HR := Lib.hid hr
  have HS := Lib.hid hs'
  have hlt' : T'.length < maxLen := by have := H5.out; have := HM.out; unfold maxLen; omega
  clear hr hs hs' hno c2
  go_wp2_with (at_mapUpdate; refine wpList_mapUpdate_in _ rfl _ _ _ 100 rfl 3 98 law Tryz.underlying100 _ m T'.length D' rfl hm3 hlt' _ _ _ rfl rfl (key_of hk) (.lit (.int .i64 w2.heap.size)) [] rfl ?_; intro w4 hown hturn)
  obtain ⟨hc4, hS4⟩ := H1.out.new hk H4.out (Nat.le_refl _) HR.out HS.out hown hturn
  have c0 := CObj.c0 hc4.obj
  have c1 := CObj.c1 hc4.obj
  have hlen := World.ownsMap.len (w := w4.drew) hc4.map Tryz.underlying100
  have hz := hc4.size
  have e5 := congrArg List.length H2.out
  rw [List.length_map] at e5
  rw [List.length_cons, e5] at hz
  rw [hz] at hlen
  have hbT : w2.heap.size ∉ T' := fun e => H1.out.new_not (Nat.le_refl _) (List.mem_cons_of_mem _ e)
  have sub : ∀ i, Foot c m r (w2.heap.size :: T') i → F i ∨ w.heap.size ≤ i := fun i hi => by
    rcases hi with hi | hi | hi
    · exact Or.inl ((HF.out i).2 (Or.inl hi))
    · exact Or.inl ((HF.out i).2 (Or.inr (Or.inl hi)))
    · rcases List.mem_cons.1 hi with hi | hi
      · exact Or.inl ((HF.out i).2 (Or.inr (Or.inr (by simp [hi]))))
      · rcases List.mem_cons.1 hi with hi | hi
        · have := hB.size; have := H6.out.size; exact Or.inr (by omega)
        · exact Or.inl ((HF.out i).2 (Or.inr (Or.inr (List.mem_cons_of_mem _ (H3.out i hi)))))
  have subT : ∀ i, Foot c m r T' i → Foot c m r T i := fun i hi => by
    rcases hi with hi | hi | hi
    · exact Or.inl hi
    · exact Or.inr (Or.inl hi)
    · rcases List.mem_cons.1 hi with hi | hi
      · exact Or.inr (Or.inr (by simp [hi]))
      · exact Or.inr (Or.inr (List.mem_cons_of_mem _ (H3.out i hi)))
  have low : ∀ i, F i ∨ w.heap.size ≤ i → B ≤ i := fun i hi => by
    rcases hi with hi | hi
    · exact HL.out i hi
    · have := HL.out c ((HF.out c).2 (Or.inl rfl))
      have := HC.out.lt (Or.inl rfl)
      omega
  have hS5 : Stir F w w4 := (Stir.of_below hB).trans ((H6.out.trans hS4 (fun i hi => Or.inl (subT i hi))).weaken (fun i hi => (HF.out i).2 hi)) (fun i hi => Or.inl hi)
  have hle : (dropL (T.map nd) k).length + 1 ≤ room := HE.out
  have hQ : Left B F c room ((k, v) :: dropL (T.map nd) k) w w4 := by
    refine ⟨_, ⟨m, r, _, _, _, _, _, hc4, ?_, fun _ => Iff.rfl, fun i hi => low i (sub i hi), by rw [List.length_cons, e5]; exact hle, hmr⟩, hS5, sub⟩
    rw [map_front T' nd (k, v) hbT, H2.out]
  have HQ := Lib.hid hQ.drew
  clear hz hc4 hS4 hown hturn hm3 e5 hlt' hbT sub subT low hS5 hQ
  generalize (dropL (T.map nd) k).length + 1 = nn at hlen hle
  go_region
  all_goals (go_wp2_with fail; go_ret2; exact ⟨rfl, HQ.out⟩)

set_option maxRecDepth 100000 in
set_option maxHeartbeats 2000000 in
theorem put_over (h : Cach B F c room L w) {k : Int} (hk : Ok k) (v : ByteArray) (hle : ¬ (dropL L k).length + 1 ≤ room) :
    Calls Tryz.prog 22 #[.pointer (some ⟨c, 0, none⟩), .int .i64 k, .string v] w fun e w' => ∃ g, goneL room L k v = some g ∧ e = .returned (.tuple #[.int .i64 g, .bool true]) ∧ Left B F c room (((k, v) :: dropL L k).take room) w w' := by
  obtain ⟨m, r, T, nd, nx, pv, D, hc, rfl, hF, hB, hft, hmr⟩ := h
  have HC := Lib.hid hc
  have HF := Lib.hid hF
  have HL := Lib.hid hB
  have HM := Lib.hid hft
  have HE := Lib.hid hle
  clear hc hF hB hft hle
  go_enter Tryz.func22, Tryz.ntmps22
  go_wp2_with fail
  refine (isKey_any k _).mono ?_
  rintro e w1 ⟨rfl, hB⟩
  go_wp2_with fail
  refine (drop_at (HC.out.later hB) hk).mono ?_
  rintro e w2 ⟨rfl, T', nx', pv', D', h1, h2, h3, h4, h5, h6⟩
  have H1 := Lib.hid h1
  have H2 := Lib.hid h2
  have H3 := Lib.hid h3
  have H4 := Lib.hid h4
  have H5 := Lib.hid h5
  have H6 := Lib.hid h6
  have hx := CacheAt.later h1 ((Below.refl _ w2).alloc (Nat.le_refl _) (LObj (k, v) (.pointer none) (.pointer none)))
  have c2 := CObj.c2 hx.obj
  unfold LObj at c2
  have HX := Lib.hid hx
  have hno : w2.heap.size ∉ r :: T' := h1.new_not (Nat.le_refl _)
  clear h1 h2 h3 h4 h5 h6 hx
  go_wp2_with fail
  refine (follow_any (b := w2.heap.size) (T := T') (x := (k, v)) (x1 := .pointer none) (x2 := .pointer none) HX.out.ring hno (heap_alloc_new _ _)).mono ?_
  rintro e w3 ⟨rfl, hr, hs⟩
  have c1 := CObj.c1 (hs.keep HX.out.obj (H1.out.c_new (Nat.le_refl _)))
  have hm3 : w3.ownsMap Tryz.prog 3 ptrElem m T'.length D' := by
    obtain ⟨es, clock, hb', rest⟩ := HX.out.map
    exact ⟨es, clock, hs.keep hb' (H1.out.m_new (Nat.le_refl _)), rest⟩
  have hs' : Stir (· ∈ r :: w2.heap.size :: T') w2 w3 := (Stir.of_below ((Below.refl _ w2).alloc (Nat.le_refl _) _)).trans hs (fun _ h => Or.inl h)
  have HR := Lib.hid hr
  have HS := Lib.hid hs'
  have hlt' : T'.length < maxLen := by have := H5.out; have := HM.out; unfold maxLen; omega
  clear hr hs hs' hno c2
  go_wp2_with (at_mapUpdate; refine wpList_mapUpdate_in _ rfl _ _ _ 100 rfl 3 98 law Tryz.underlying100 _ m T'.length D' rfl hm3 hlt' _ _ _ rfl rfl (key_of hk) (.lit (.int .i64 w2.heap.size)) [] rfl ?_; intro w4 hown hturn)
  obtain ⟨hc4, hS4⟩ := H1.out.new hk H4.out (Nat.le_refl _) HR.out HS.out hown hturn
  have c0 := CObj.c0 hc4.obj
  have c1 := CObj.c1 hc4.obj
  have hlen := World.ownsMap.len (w := w4.drew) hc4.map Tryz.underlying100
  have hz := hc4.size
  have e5 := congrArg List.length H2.out
  rw [List.length_map] at e5
  rw [List.length_cons, e5] at hz
  rw [hz] at hlen
  have hbT : w2.heap.size ∉ T' := fun e => H1.out.new_not (Nat.le_refl _) (List.mem_cons_of_mem _ e)
  have sub : ∀ i, Foot c m r (w2.heap.size :: T') i → F i ∨ w.heap.size ≤ i := fun i hi => by
    rcases hi with hi | hi | hi
    · exact Or.inl ((HF.out i).2 (Or.inl hi))
    · exact Or.inl ((HF.out i).2 (Or.inr (Or.inl hi)))
    · rcases List.mem_cons.1 hi with hi | hi
      · exact Or.inl ((HF.out i).2 (Or.inr (Or.inr (by simp [hi]))))
      · rcases List.mem_cons.1 hi with hi | hi
        · have := hB.size; have := H6.out.size; exact Or.inr (by omega)
        · exact Or.inl ((HF.out i).2 (Or.inr (Or.inr (List.mem_cons_of_mem _ (H3.out i hi)))))
  have subT : ∀ i, Foot c m r T' i → Foot c m r T i := fun i hi => by
    rcases hi with hi | hi | hi
    · exact Or.inl hi
    · exact Or.inr (Or.inl hi)
    · rcases List.mem_cons.1 hi with hi | hi
      · exact Or.inr (Or.inr (by simp [hi]))
      · exact Or.inr (Or.inr (List.mem_cons_of_mem _ (H3.out i hi)))
  have low : ∀ i, F i ∨ w.heap.size ≤ i → B ≤ i := fun i hi => by
    rcases hi with hi | hi
    · exact HL.out i hi
    · have := HL.out c ((HF.out c).2 (Or.inl rfl))
      have := HC.out.lt (Or.inl rfl)
      omega
  have hS5 : Stir F w w4 := (Stir.of_below hB).trans ((H6.out.trans hS4 (fun i hi => Or.inl (subT i hi))).weaken (fun i hi => (HF.out i).2 hi)) (fun i hi => Or.inl hi)
  have hle : room < (dropL (T.map nd) k).length + 1 := by have := HE.out; omega
  have hle2 : decide ((dropL (T.map nd) k).length + 1 ≤ room) = false := by have := HE.out; simpa using this
  have hd := hc4.drew
  obtain ⟨A, hA⟩ := hd.ring.ring.last (by simp)
  have hgm : _ ∈ r :: w2.heap.size :: T' := hd.ring.ring.ring_prev
  have c2 := CObj.c2 hd.obj
  have c3 := LObj.c3 (hd.ring.nodes r (by simp))
  have c4 := LObj.c0 (hd.ring.nodes _ hgm)
  have hTA : w2.heap.size :: T' = A ++ [upd (upd pv' w2.heap.size r) (nx' r) w2.heap.size r] := hA
  generalize upd (upd pv' w2.heap.size r) (nx' r) w2.heap.size r = g at *
  unfold ptr at c3
  have hgT : g ∈ w2.heap.size :: T' := by rw [hTA]; simp
  have hok := hd.ok g hgT
  have hgb := blockOf_of hd.keys hgT rfl
  have hn2 : (A ++ [g]).Nodup := by rw [← hTA]; exact (List.nodup_cons.1 hd.ring.ring.nodup).2
  have hdr := drop_block hd.keys hgb
  rw [hTA, filter_last hn2] at hdr
  rw [← hTA, map_front T' nd (k, v) hbT, H2.out] at hdr
  have hL2 : (k, v) :: dropL (T.map nd) k = A.map (upd nd w2.heap.size (k, v)) ++ [upd nd w2.heap.size (k, v) g] := by
    rw [← H2.out, ← map_front T' nd (k, v) hbT, hTA, List.map_append]; rfl
  have hAl : A.length = room := by
    have e1 := congrArg List.length hL2
    simp at e1
    have := H5.out
    have := HM.out
    omega
  have hgone : goneL room (T.map nd) k v = some (upd nd w2.heap.size (k, v) g).1 := by
    unfold goneL
    rw [hL2, List.getElem?_append_right (by simp [hAl])]
    simp [hAl]
  have htake : ((k, v) :: dropL (T.map nd) k).take room = A.map (upd nd w2.heap.size (k, v)) := by
    rw [hL2, List.take_append_of_le_length (by simp [hAl]), List.take_of_length_le (by simp [hAl])]
  have HD := Lib.hid hd
  have HOK := Lib.hid hok
  have HDR := Lib.hid hdr
  have HG := Lib.hid hgone
  have HT2 := Lib.hid htake
  have H9 := Lib.hid hS5.drew
  have HSub := Lib.hid sub
  have HLow := Lib.hid low
  have HA := Lib.hid hAl
  have HP := Lib.hid (map_front T' nd (k, v) hbT)
  clear hz hc4 hS4 hown hturn hm3 e5 hlt' hbT sub subT low hS5 hd hA hgm hTA hgT hok hgb hn2 hdr hL2 hAl hgone htake
  generalize (dropL (T.map nd) k).length + 1 = nn at hlen hle hle2
  go_region
  all_goals (
    go_wp2_with fail
    refine (drop_at HD.out HOK.out).mono ?_
    rintro e w5 ⟨rfl, T2, nx2, pv2, D2, u1, u2, u3, _, _, u6⟩
    have U1 := Lib.hid u1
    have U2 := Lib.hid u2
    have U3 := Lib.hid u3
    have U6 := Lib.hid u6
    clear u1 u2 u3 u6
    go_wp2_with fail
    go_ret2
    refine ⟨_, HG.out, rfl, ?_⟩
    have e1 := U2.out
    rw [HP.out, H2.out, HDR.out, ← HT2.out] at e1
    have e2 := congrArg List.length e1
    have sub2 : ∀ i, Foot c m r T2 i → Foot c m r (w2.heap.size :: T') i := fun i hi => by
      rcases hi with hi | hi | hi
      · exact Or.inl hi
      · exact Or.inr (Or.inl hi)
      · rcases List.mem_cons.1 hi with hi | hi
        · exact Or.inr (Or.inr (by simp [hi]))
        · exact Or.inr (Or.inr (List.mem_cons_of_mem _ (U3.out i hi)))
    refine ⟨_, ⟨m, r, _, _, _, _, _, U1.out, e1, fun _ => Iff.rfl, fun i hi => HLow.out i (HSub.out i (sub2 i hi)), by rw [List.length_map] at e2; rw [e2, List.length_take]; omega, hmr⟩, ?_, fun i hi => HSub.out i (sub2 i hi)⟩
    exact H9.out.trans U6.out HSub.out)
end

section
variable {w w' : World} {B c room : Nat} {F : Nat → Prop} {L : List (Int × ByteArray)}
theorem gone_none {k : Int} {v : ByteArray} (hle : (dropL L k).length + 1 ≤ room) : goneL room L k v = none := by
  unfold goneL
  rw [List.getElem?_eq_none (by simpa using hle)]
  rfl
theorem put_any (h : Cach B F c room L w) {k : Int} (hk : Ok k) (v : ByteArray) :
    Calls Tryz.prog 22 #[.pointer (some ⟨c, 0, none⟩), .int .i64 k, .string v] w fun e w' => e = .returned (putV room L k v) ∧ Left B F c room (putL room L k v) w w' := by
  by_cases hle : (dropL L k).length + 1 ≤ room
  · refine (put_fits h hk v hle).mono ?_
    rintro e w' ⟨rfl, hl⟩
    refine ⟨by unfold putV; rw [gone_none hle], ?_⟩
    unfold putL
    rw [List.take_of_length_le (by simpa using hle)]
    exact hl
  · refine (put_over h hk v hle).mono ?_
    rintro e w' ⟨g, hg, rfl, hl⟩
    exact ⟨by unfold putV; rw [hg], hl⟩
end
end Go.Proofs.YtmloljjllmmkoaaGreat.CI

namespace Go.Proofs.YtmloljjllmmkoaaGreat.CI
open Go.RowKit Go Go.Maps

theorem infoK : (Tryz.prog.info? 3).map (fun i => (i.zero, i.size, i.bytes)) =
  some (some (.int .i64 0), 1, 8) := by kernel_rfl
theorem linkInfo : ∃ j, Tryz.prog.info? 104 = some j ∧ j.size ≠ 0 := by
  have h : (Tryz.prog.info? 104).map (fun i => i.size) = some 4 := by kernel_rfl
  obtain ⟨j, h1, h2⟩ := Option.map_eq_some_iff.1 h
  exact ⟨j, h1, by rw [h2]; decide⟩
theorem run_neq_links {w : World} {a b : Nat} {x y : Int × ByteArray} {n p n' p' : Value} (hne : a ≠ b) (ha : w.heap[a]? = some (LObj x n p)) (hb : w.heap[b]? = some (LObj y n' p')) :
    (binOp .neq 98 (.pointer (some ⟨a, 0, none⟩)) (.pointer (some ⟨b, 0, none⟩))).run Tryz.prog w = .ok (.bool true) w := by
  obtain ⟨j, hj, hsz⟩ := linkInfo
  have h : ∀ d : Nat, (Op.equalIn (d + 1) 98 (.pointer (some ⟨a, 0, none⟩)) (.pointer (some ⟨b, 0, none⟩))).run Tryz.prog w = .ok false w := fun d => by
    simp [Op.equalIn, run_underlying Tryz.underlying98, sizeOf, typeInfo, hj, hsz, run_sameAddr_other w (a := ⟨a, 0, none⟩) (b := ⟨b, 0, none⟩) (fun e => hne (congrArg Addr.block e)) ha hb]
  simp only [binOp]
  simp [Op.equal, Op.maxDepth, h 9999]
/-- keys, as values -/
def keyVals (l : List Int) : List Value := l.map fun k => .int .i64 k

section
variable {w w' : World} {B c room : Nat} {F : Nat → Prop} {L : List (Int × ByteArray)}

theorem heap_alloc_old {w : World} {b : Nat} {o : Obj} (h : w.heap[b]? = some o) (o' : Obj) : (w.alloc o').heap[b]? = some o := by
  rw [Below.heap_alloc w o' b (lt_of_heap h)]; exact h

/-- a new cache, in memory -/
theorem new_cach (w : World) (room : Nat) (_h1 : 1 ≤ room) (h2 : room ≤ 65536) :
    Cach w.heap.size (fun k => w.heap.size ≤ k ∧ k < w.heap.size + 3) (w.heap.size + 2) room [] (((w.alloc (LObj ((0 : Int), (⟨#[]⟩ : ByteArray)) (ptr w.heap.size) (ptr w.heap.size))).alloc (.map #[] 0)).alloc (CObj room (w.heap.size + 1) w.heap.size)) := by
  have a1 := heap_alloc_new w (LObj ((0 : Int), (⟨#[]⟩ : ByteArray)) (ptr w.heap.size) (ptr w.heap.size))
  have a2 := heap_alloc_old a1 (.map #[] 0)
  have a3 := heap_alloc_old a2 (CObj room (w.heap.size + 1) w.heap.size)
  have b2 := heap_alloc_new (w.alloc (LObj ((0 : Int), (⟨#[]⟩ : ByteArray)) (ptr w.heap.size) (ptr w.heap.size))) (.map #[] 0)
  have m2 := World.ownsMap_made (w.alloc (LObj ((0 : Int), (⟨#[]⟩ : ByteArray)) (ptr w.heap.size) (ptr w.heap.size))) Tryz.prog 3 ptrElem
  have m3 := m2.alloc (CObj room (w.heap.size + 1) w.heap.size)
  have c3 := heap_alloc_new ((w.alloc (LObj ((0 : Int), (⟨#[]⟩ : ByteArray)) (ptr w.heap.size) (ptr w.heap.size))).alloc (.map #[] 0)) (CObj room (w.heap.size + 1) w.heap.size)
  simp only [World.size_alloc] at m3 c3
  refine ⟨w.heap.size + 1, w.heap.size, [], fun _ => ((0 : Int), (⟨#[]⟩ : ByteArray)), fun _ => w.heap.size, fun _ => w.heap.size, .map [], ⟨c3, m3, rfl, fun _ _ => rfl, ⟨⟨by simp, rfl, rfl⟩, fun b hb => ?_⟩, by simp, fun b hb => by cases hb⟩, rfl, fun k => ?_, fun k hk => hk.1, Nat.zero_le _, h2⟩
  · obtain rfl : b = w.heap.size := by simpa using hb
    exact a3
  · unfold Foot
    simp
    omega

set_option maxRecDepth 100000 in
set_option maxHeartbeats 1000000 in
theorem new_any (room : Nat) (h1 : 1 ≤ room) (h2 : room ≤ 65536) (w : World) :
    Calls Tryz.prog 88 #[.int .i64 room] w fun e w' => ∃ c F, e = .returned (.tuple #[.pointer (some ⟨c, 0, none⟩), .int .i64 0]) ∧ Cach w.heap.size F c room [] w' ∧ Below w.heap.size w w' := by
  have hc := Lib.hid (new_cach w room h1 h2)
  have hmm := @run_makeMap Tryz.prog
  have h3 : (1 : Int) ≤ (room : Int) := by omega
  have h4 : (room : Int) ≤ 65536 := by omega
  clear h1 h2
  go_enter Tryz.func88, Tryz.ntmps88
  go_wp2
  go_ret2
  refine ⟨w.heap.size + 2, _, rfl, hc.out, ?_⟩
  exact (((Below.refl _ w).alloc (Nat.le_refl _) _).alloc (by simp) _).alloc (by simp; omega) _
theorem new_bad (n : Int) (h : n < 1 ∨ 65536 < n) (w : World) :
    Calls Tryz.prog 88 #[.int .i64 n] w fun e w' => e = .returned (.tuple #[.pointer none, .int .i64 40]) ∧ Below w.heap.size w w' := by
  by_cases h1 : n < 1
  · clear h
    go_enter Tryz.func88, Tryz.ntmps88
    go_wp2
    go_ret2
    exact ⟨rfl, Below.refl _ w⟩
  · have h2 : 65536 < n := by omega
    clear h
    go_enter Tryz.func88, Tryz.ntmps88
    go_wp2
    go_ret2
    exact ⟨rfl, Below.refl _ w⟩
end
end Go.Proofs.YtmloljjllmmkoaaGreat.CI

