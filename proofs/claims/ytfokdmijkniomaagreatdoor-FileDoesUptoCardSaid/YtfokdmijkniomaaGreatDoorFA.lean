/-
  FilA / FilB / FilC.
-/
import Derived.Test.YtfokdmijkniomaaGreatDoorM1
import Derived.Lib.Strings
namespace Go.Proofs.YtfokdmijkniomaaGreatDoor
open Go.RowKit Go

/-! ### Orders of keys -/
structure OrdK {κ : Type} (lt : κ → κ → Bool) : Prop where
  irr : ∀ a, lt a a = false
  trans : ∀ a b c, lt a b = true → lt b c = true → lt a c = true
  tri : ∀ a b, lt a b = true ∨ a = b ∨ lt b a = true
theorem OrdK.asymm {κ : Type} {lt : κ → κ → Bool} (h : OrdK lt) {a b : κ} (k : lt a b = true) : lt b a = false := by
  cases e : lt b a with
  | false => rfl
  | true => rw [← h.irr a]; exact (h.trans a b a k e).symm
def ltI (a b : Int) : Bool := decide (a < b)
theorem ordI : OrdK ltI := by
  refine ⟨fun a => by simp [ltI], fun a b c h k => ?_, fun a b => ?_⟩ <;> simp only [ltI, decide_eq_true_eq] at * <;> omega
def ltB (a b : ByteArray) : Bool := Op.bytesLess a.toList b.toList
theorem bl_lt : ∀ (x y : List UInt8), Op.bytesLess x y = decide (x < y)
  | [], [] => by simp [Op.bytesLess]
  | _ :: _, [] => by simp [Op.bytesLess]
  | [], _ :: _ => by simp [Op.bytesLess]
  | a :: x, b :: y => by
    rw [Op.bytesLess, bl_lt x y]
    by_cases h : a < b
    · simp [List.cons_lt_cons_iff, h]
    · by_cases k : a = b <;> by_cases g : x < y <;> simp [List.cons_lt_cons_iff, h, k, g]
theorem ordB : OrdK ltB := by
  refine ⟨fun a => ?_, fun a b c h k => ?_, fun a b => ?_⟩
  · simp [ltB, bl_lt, List.lt_irrefl]
  · simp only [ltB, bl_lt, decide_eq_true_eq] at *
    exact List.lt_trans h k
  · simp only [ltB, bl_lt, decide_eq_true_eq]
    rcases Decidable.em (a.toList < b.toList) with h | h
    · exact .inl h
    · rcases Decidable.em (b.toList < a.toList) with k | k
      · exact .inr (.inr k)
      · refine .inr (.inl ?_)
        have := List.le_antisymm (List.not_lt.1 k) (List.not_lt.1 h)
        rw [Lib.toList_data, Lib.toList_data] at this
        exact ba_ext this

section
variable {α κ : Type} [DecidableEq κ] (key : α → κ) (lt : κ → κ → Bool)
def seekK : List α → κ → Option α
  | [], _ => none
  | x :: l, k => if key x = k then some x else seekK l k
def putK (x : α) : List α → List α
  | [] => [x]
  | y :: l => if lt (key y) (key x) then y :: putK x l else if key y = key x then x :: l else x :: y :: l
def dropK (k : κ) : List α → List α
  | [] => []
  | y :: l => if key y = k then dropK k l else y :: dropK k l
def RiseK (l : List α) : Prop := l.Pairwise fun x y => lt (key x) (key y) = true
def sumK (f : α → Nat) (l : List α) : Nat := (l.map f).sum
variable {key lt}
theorem seek_mem {l : List α} {k : κ} {x : α} (h : seekK key l k = some x) : x ∈ l ∧ key x = k := by
  induction l with
  | nil => cases h
  | cons y l ih =>
    rw [seekK] at h
    split at h
    · cases h; exact ⟨by simp, by assumption⟩
    · exact ⟨List.mem_cons_of_mem _ (ih h).1, (ih h).2⟩
theorem seek_none {l : List α} {k : κ} : seekK key l k = none ↔ ∀ x ∈ l, key x ≠ k := by
  induction l with
  | nil => simp [seekK]
  | cons y l ih =>
    rw [seekK]
    by_cases h : key y = k
    · simp [h]
    · simp [h, ih]
theorem RiseK.seek {l : List α} (ho : OrdK lt) (h : RiseK key lt l) {x : α} (hx : x ∈ l) : seekK key l (key x) = some x := by
  induction l with
  | nil => cases hx
  | cons y l ih =>
    obtain ⟨h1, h2⟩ := List.pairwise_cons.1 h
    rw [seekK]
    rcases List.mem_cons.1 hx with rfl | hx
    · rw [if_pos rfl]
    · have := h1 x hx
      rw [if_neg (fun e => by rw [e, ho.irr] at this; cases this)]
      exact ih h2 hx
theorem RiseK.inj {l : List α} (ho : OrdK lt) (h : RiseK key lt l) {x y : α} (hx : x ∈ l) (hy : y ∈ l) (e : key x = key y) : x = y := by
  have h1 := h.seek ho hx
  rw [e, h.seek ho hy] at h1
  exact (Option.some.inj h1).symm
theorem seek_put {l : List α} (ho : OrdK lt) (x : α) (k : κ) : seekK key (putK key lt x l) k = if key x = k then some x else seekK key l k := by
  induction l with
  | nil => simp [putK, seekK]
  | cons y l ih =>
    rw [putK]
    split
    · rename_i h
      rw [seekK, seekK, ih]
      by_cases e : key y = k
      · have : key x ≠ k := fun e2 => by rw [e, e2, ho.irr] at h; cases h
        simp [e, this]
      · simp [e]
    · split
      · rename_i h1 h
        rw [seekK, seekK]
        by_cases e : key x = k
        · simp [e]
        · simp [e, h]
      · rw [seekK, seekK]
theorem seek_drop {l : List α} (j k : κ) : seekK key (dropK key j l) k = if j = k then none else seekK key l k := by
  induction l with
  | nil => simp [dropK, seekK]
  | cons y l ih =>
    rw [dropK]
    split
    · rename_i h
      rw [ih, seekK]
      by_cases e : j = k
      · simp [e]
      · simp [e, h]
    · rename_i h
      rw [seekK, seekK, ih]
      by_cases e : j = k
      · subst e; simp [h]
      · simp [e]
theorem mem_put {l : List α} {x y : α} (h : y ∈ putK key lt x l) : y = x ∨ y ∈ l := by
  induction l with
  | nil => simpa [putK] using h
  | cons z l ih =>
    rw [putK] at h
    split at h
    · rcases List.mem_cons.1 h with rfl | h
      · exact .inr (by simp)
      · rcases ih h with h | h
        · exact .inl h
        · exact .inr (List.mem_cons_of_mem _ h)
    · split at h
      · rcases List.mem_cons.1 h with h | h
        · exact .inl h
        · exact .inr (List.mem_cons_of_mem _ h)
      · rcases List.mem_cons.1 h with h | h
        · exact .inl h
        · exact .inr h
theorem mem_drop {l : List α} {k : κ} {y : α} : y ∈ dropK key k l ↔ y ∈ l ∧ key y ≠ k := by
  induction l with
  | nil => simp [dropK]
  | cons z l ih =>
    rw [dropK]
    split
    · rename_i h
      rw [ih]
      constructor
      · exact fun h => ⟨List.mem_cons_of_mem _ h.1, h.2⟩
      · rintro ⟨h1, h2⟩
        rcases List.mem_cons.1 h1 with rfl | h1
        · exact absurd h h2
        · exact ⟨h1, h2⟩
    · rename_i h
      rw [List.mem_cons, ih, List.mem_cons]
      constructor
      · rintro (rfl | h1)
        · exact ⟨.inl rfl, h⟩
        · exact ⟨.inr h1.1, h1.2⟩
      · rintro ⟨rfl | h1, h2⟩
        · exact .inl rfl
        · exact .inr ⟨h1, h2⟩
theorem RiseK.put {l : List α} (ho : OrdK lt) (h : RiseK key lt l) (x : α) : RiseK key lt (putK key lt x l) := by
  induction l with
  | nil => exact List.pairwise_singleton _ _
  | cons y l ih =>
    obtain ⟨h1, h2⟩ := List.pairwise_cons.1 h
    rw [putK]
    split
    · rename_i hl
      refine List.pairwise_cons.2 ⟨fun z hz => ?_, ih h2⟩
      rcases mem_put hz with rfl | hz
      · exact hl
      · exact h1 z hz
    · rename_i hl
      split
      · rename_i he
        exact List.pairwise_cons.2 ⟨fun z hz => by rw [← he]; exact h1 z hz, h2⟩
      · rename_i he
        have hlt : lt (key x) (key y) = true := by
          rcases ho.tri (key y) (key x) with k | k | k
          · exact absurd k hl
          · exact absurd k he
          · exact k
        refine List.pairwise_cons.2 ⟨fun z hz => ?_, h⟩
        rcases List.mem_cons.1 hz with rfl | hz
        · exact hlt
        · exact ho.trans _ _ _ hlt (h1 z hz)
theorem RiseK.drop {l : List α} (h : RiseK key lt l) (k : κ) : RiseK key lt (dropK key k l) := by
  induction l with
  | nil => exact h
  | cons y l ih =>
    obtain ⟨h1, h2⟩ := List.pairwise_cons.1 h
    rw [dropK]
    split
    · exact ih h2
    · exact List.pairwise_cons.2 ⟨fun z hz => h1 z (mem_drop.1 hz).1, ih h2⟩
theorem RiseK.ext {l m : List α} (ho : OrdK lt) (h : RiseK key lt l) (k : RiseK key lt m) (e : ∀ j, seekK key l j = seekK key m j) : l = m := by
  induction l generalizing m with
  | nil =>
    cases m with
    | nil => rfl
    | cons y m => have := e (key y); simp [seekK] at this
  | cons x l ih =>
    obtain ⟨h1, h2⟩ := List.pairwise_cons.1 h
    cases m with
    | nil => have := e (key x); simp [seekK] at this
    | cons y m =>
      obtain ⟨k1, k2⟩ := List.pairwise_cons.1 k
      have hx : x ∈ y :: m := (seek_mem ((e (key x)).symm.trans (h.seek ho (by simp)))).1
      have hy : y ∈ x :: l := (seek_mem ((e (key y)).trans (k.seek ho (by simp)))).1
      have exy : x = y := by
        rcases List.mem_cons.1 hx with hx | hx
        · exact hx
        · rcases List.mem_cons.1 hy with hy | hy
          · exact hy.symm
          · have := ho.asymm (k1 x hx)
            rw [h1 y hy] at this; cases this
      subst exy
      congr 1
      refine ih h2 k2 fun j => ?_
      by_cases hj : key x = j
      · have n1 : seekK key l j = none := seek_none.2 fun z hz e => by have := h1 z hz; rw [e, hj, ho.irr] at this; cases this
        have n2 : seekK key m j = none := seek_none.2 fun z hz e => by have := k1 z hz; rw [e, hj, ho.irr] at this; cases this
        rw [n1, n2]
      · have := e j
        simpa [seekK, hj] using this
theorem sum_put {l : List α} (ho : OrdK lt) (h : RiseK key lt l) (f : α → Nat) (x : α) :
    sumK f (putK key lt x l) + (match seekK key l (key x) with | some y => f y | none => 0) = sumK f l + f x := by
  induction l with
  | nil => simp [putK, seekK, sumK]
  | cons y l ih =>
    obtain ⟨h1, h2⟩ := List.pairwise_cons.1 h
    rw [putK]
    split
    · rename_i hl
      have hn : key y ≠ key x := fun e => by rw [e, ho.irr] at hl; cases hl
      rw [seekK, if_neg hn]
      have := ih h2
      simp only [sumK, List.map_cons, List.sum_cons] at this ⊢
      omega
    · rename_i hl
      split
      · rename_i he
        rw [seekK, if_pos he]
        simp only [sumK, List.map_cons, List.sum_cons]
        omega
      · rename_i he
        have hlt : lt (key x) (key y) = true := by
          rcases ho.tri (key y) (key x) with k | k | k
          · exact absurd k hl
          · exact absurd k he
          · exact k
        have n1 : seekK key (y :: l) (key x) = none := seek_none.2 fun z hz e => by
          rcases List.mem_cons.1 hz with rfl | hz
          · exact he e
          · have := ho.trans _ _ _ hlt (h1 z hz); rw [e, ho.irr] at this; cases this
        rw [n1]
        simp only [sumK, List.map_cons, List.sum_cons]
        omega
theorem sum_drop {l : List α} (ho : OrdK lt) (h : RiseK key lt l) (f : α → Nat) (k : κ) :
    sumK f (dropK key k l) + (match seekK key l k with | some y => f y | none => 0) = sumK f l := by
  induction l with
  | nil => simp [dropK, seekK, sumK]
  | cons y l ih =>
    obtain ⟨h1, h2⟩ := List.pairwise_cons.1 h
    rw [dropK, seekK]
    split
    · rename_i he
      have n1 : seekK key l k = none := seek_none.2 fun z hz e => by have := h1 z hz; rw [e, ← he, ho.irr] at this; cases this
      have := ih h2
      rw [n1] at this
      simp only [sumK, List.map_cons, List.sum_cons] at this ⊢
      omega
    · have := ih h2
      simp only [sumK, List.map_cons, List.sum_cons] at this ⊢
      omega
theorem len_sum (l : List α) : l.length = sumK (fun _ => 1) l := by
  induction l with
  | nil => rfl
  | cons y l ih => simp only [sumK, List.map_cons, List.sum_cons, List.length_cons] at ih ⊢; omega
theorem len_put {l : List α} (ho : OrdK lt) (h : RiseK key lt l) (x : α) : (putK key lt x l).length = l.length + (if seekK key l (key x) = none then 1 else 0) := by
  have := sum_put ho h (fun _ => 1) x
  rw [← len_sum, ← len_sum] at this
  cases e : seekK key l (key x) with
  | none => rw [e] at this; simp at this ⊢; omega
  | some y => rw [e] at this; simp at this ⊢; omega
theorem len_drop {l : List α} (ho : OrdK lt) (h : RiseK key lt l) {k : κ} {x : α} (hx : seekK key l k = some x) : (dropK key k l).length + 1 = l.length := by
  have := sum_drop ho h (fun _ => 1) k
  rw [← len_sum, ← len_sum, hx] at this
  exact this
theorem put_comm {l : List α} (ho : OrdK lt) (h : RiseK key lt l) {x y : α} (hx : key x ≠ key y) : putK key lt x (putK key lt y l) = putK key lt y (putK key lt x l) := by
  refine RiseK.ext ho ((h.put ho y).put ho x) ((h.put ho x).put ho y) fun j => ?_
  rw [seek_put ho, seek_put ho, seek_put ho, seek_put ho]
  by_cases e : key y = j
  · have : key x ≠ j := fun k => hx (k.trans e.symm)
    simp [e, this]
  · simp [e]
theorem sum_cons (f : α → Nat) (y : α) (l : List α) : sumK f (y :: l) = f y + sumK f l := by simp [sumK]
theorem sum_mem {f : α → Nat} {l : List α} {x : α} (h : x ∈ l) : f x ≤ sumK f l := by
  induction l with
  | nil => cases h
  | cons y l ih =>
    rw [sum_cons]
    rcases List.mem_cons.1 h with rfl | h
    · omega
    · have := ih h; omega
theorem sum_pair {f : α → Nat} {l : List α} {x y : α} (hx : x ∈ l) (hy : y ∈ l) (hn : x ≠ y) : f x + f y ≤ sumK f l := by
  induction l with
  | nil => cases hx
  | cons z l ih =>
    rw [sum_cons]
    rcases List.mem_cons.1 hx with rfl | kx
    · rcases List.mem_cons.1 hy with rfl | ky
      · exact absurd rfl hn
      · have := sum_mem (f := f) ky; omega
    · rcases List.mem_cons.1 hy with rfl | ky
      · have := sum_mem (f := f) kx; omega
      · have := ih kx ky; omega
theorem sum_pos {f : α → Nat} {l : List α} (h : 0 < sumK f l) : ∃ x ∈ l, 0 < f x := by
  induction l with
  | nil => simp [sumK] at h
  | cons y l ih =>
    by_cases e : 0 < f y
    · exact ⟨y, by simp, e⟩
    · simp only [sumK, List.map_cons, List.sum_cons] at ih h
      obtain ⟨x, hx, k⟩ := ih (by omega)
      exact ⟨x, List.mem_cons_of_mem _ hx, k⟩
theorem sum_congr {f g : α → Nat} {l : List α} (h : ∀ x ∈ l, f x = g x) : sumK f l = sumK g l := by
  induction l with
  | nil => rfl
  | cons y l ih =>
    have h1 := h y (by simp)
    have h2 := ih fun x hx => h x (List.mem_cons_of_mem _ hx)
    simp only [sumK, List.map_cons, List.sum_cons] at h2 ⊢
    omega
end
end Go.Proofs.YtfokdmijkniomaaGreatDoor

namespace Go.Proofs.YtfokdmijkniomaaGreatDoor
open Go.RowKit Go

structure Nod where
  num : Int
  dir : Bool
  links : Int
  data : ByteArray
  names : List Ent

/-! ### Names -/
def lookE (l : List Ent) (s : ByteArray) : Option Int := (seekK Ent.name l s).map Ent.num
def insE (s : ByteArray) (k : Int) (l : List Ent) : List Ent := putK Ent.name ltB ⟨s, k⟩ l
def delE (s : ByteArray) (l : List Ent) : List Ent := dropK Ent.name s l
def RiseE (l : List Ent) : Prop := RiseK Ent.name ltB l
def oneIf (e : Ent) (k : Int) : Nat := if e.num = k then 1 else 0
def cE (l : List Ent) (k : Int) : Nat := sumK (fun e => oneIf e k) l
theorem look_ins (l : List Ent) (s : ByteArray) (k : Int) (t : ByteArray) : lookE (insE s k l) t = if s = t then some k else lookE l t := by
  unfold lookE insE
  rw [seek_put ordB]
  by_cases h : s = t <;> simp [h]
theorem look_del (l : List Ent) (s t : ByteArray) : lookE (delE s l) t = if s = t then none else lookE l t := by
  unfold lookE delE
  rw [seek_drop]
  by_cases h : s = t <;> simp [h]
theorem look_mem {l : List Ent} {s : ByteArray} {k : Int} (h : lookE l s = some k) : (⟨s, k⟩ : Ent) ∈ l := by
  unfold lookE at h
  obtain ⟨e, he, rfl⟩ := Option.map_eq_some_iff.1 h
  obtain ⟨h1, rfl⟩ := seek_mem he
  exact h1
theorem RiseE.look {l : List Ent} (h : RiseE l) {e : Ent} (he : e ∈ l) : lookE l e.name = some e.num := by
  unfold lookE
  rw [RiseK.seek ordB h he]; rfl
theorem look_none {l : List Ent} {s : ByteArray} : lookE l s = none ↔ seekK Ent.name l s = none := by
  unfold lookE; simp
theorem look_some {l : List Ent} {s : ByteArray} {k : Int} (h : lookE l s = some k) : seekK Ent.name l s = some ⟨s, k⟩ := by
  unfold lookE at h
  obtain ⟨e, he, rfl⟩ := Option.map_eq_some_iff.1 h
  obtain ⟨_, rfl⟩ := seek_mem he
  exact he
theorem RiseE.ins {l : List Ent} (h : RiseE l) (s : ByteArray) (k : Int) : RiseE (insE s k l) := RiseK.put ordB h _
theorem RiseE.del {l : List Ent} (h : RiseE l) (s : ByteArray) : RiseE (delE s l) := RiseK.drop h _
theorem ins_len {l : List Ent} (h : RiseE l) {s : ByteArray} {k : Int} (hn : lookE l s = none) : (insE s k l).length = l.length + 1 := by
  unfold insE
  rw [len_put ordB h, if_pos (look_none.1 hn)]
theorem del_len {l : List Ent} (h : RiseE l) {s : ByteArray} {k : Int} (hs : lookE l s = some k) : (delE s l).length + 1 = l.length :=
  len_drop ordB h (look_some hs)
theorem c_ins {l : List Ent} (h : RiseE l) {s : ByteArray} {j : Int} (hn : lookE l s = none) (k : Int) : cE (insE s j l) k = cE l k + if j = k then 1 else 0 := by
  have := sum_put ordB h (fun e => oneIf e k) ⟨s, j⟩
  rw [look_none.1 hn] at this
  exact this
theorem c_del {l : List Ent} (h : RiseE l) {s : ByteArray} {j : Int} (hs : lookE l s = some j) (k : Int) : cE (delE s l) k + (if j = k then 1 else 0) = cE l k := by
  have := sum_drop ordB h (fun e => oneIf e k) s
  rw [look_some hs] at this
  exact this
theorem c_pos {l : List Ent} {e : Ent} (h : e ∈ l) : 1 ≤ cE l e.num := by
  have h1 : oneIf e e.num ≤ cE l e.num := sum_mem (f := fun x => oneIf x e.num) h
  have h2 : oneIf e e.num = 1 := if_pos rfl
  omega
theorem c_two {l : List Ent} {e f : Ent} (h : e ∈ l) (k : f ∈ l) (hn : e ≠ f) (hk : e.num = f.num) : 2 ≤ cE l e.num := by
  have h1 : oneIf e e.num + oneIf f e.num ≤ cE l e.num := sum_pair (f := fun x => oneIf x e.num) h k hn
  have h2 : oneIf e e.num = 1 := if_pos rfl
  have h3 : oneIf f e.num = 1 := if_pos hk.symm
  omega
theorem c_ex {l : List Ent} {k : Int} (h : 0 < cE l k) : ∃ e ∈ l, e.num = k := by
  obtain ⟨e, he, h1⟩ := sum_pos h
  refine ⟨e, he, ?_⟩
  unfold oneIf at h1
  split at h1
  · assumption
  · omega
theorem mem_ins {l : List Ent} {s : ByteArray} {k : Int} {e : Ent} (h : e ∈ insE s k l) : e = ⟨s, k⟩ ∨ e ∈ l := mem_put h
theorem mem_del {l : List Ent} {s : ByteArray} {e : Ent} : e ∈ delE s l ↔ e ∈ l ∧ e.name ≠ s := mem_drop

/-! ### Nodes -/
def nodeAt (T : List Nod) (k : Int) : Option Nod := seekK Nod.num T k
def putN (x : Nod) (T : List Nod) : List Nod := putK Nod.num ltI x T
def dropN (k : Int) (T : List Nod) : List Nod := dropK Nod.num k T
def RiseN (T : List Nod) : Prop := RiseK Nod.num ltI T
def cnt (T : List Nod) (k : Int) : Nat := sumK (fun x => cE x.names k) T
theorem at_put (x : Nod) (T : List Nod) (k : Int) : nodeAt (putN x T) k = if x.num = k then some x else nodeAt T k := seek_put ordI x k
theorem at_drop (j : Int) (T : List Nod) (k : Int) : nodeAt (dropN j T) k = if j = k then none else nodeAt T k := seek_drop j k
theorem at_mem {T : List Nod} {k : Int} {x : Nod} (h : nodeAt T k = some x) : x ∈ T ∧ x.num = k := seek_mem h
theorem RiseN.at {T : List Nod} (h : RiseN T) {x : Nod} (hx : x ∈ T) : nodeAt T x.num = some x := RiseK.seek ordI h hx
theorem RiseN.put {T : List Nod} (h : RiseN T) (x : Nod) : RiseN (putN x T) := RiseK.put ordI h x
theorem RiseN.drop {T : List Nod} (h : RiseN T) (k : Int) : RiseN (dropN k T) := RiseK.drop h k
theorem RiseN.ext {T U : List Nod} (h : RiseN T) (k : RiseN U) (e : ∀ j, nodeAt T j = nodeAt U j) : T = U := RiseK.ext ordI h k e
theorem cnt_put {T : List Nod} (h : RiseN T) {x y : Nod} (hy : nodeAt T x.num = some y) (k : Int) : cnt (putN x T) k + cE y.names k = cnt T k + cE x.names k := by
  have := sum_put ordI h (fun z => cE z.names k) x
  unfold nodeAt at hy
  rw [hy] at this
  exact this
theorem cnt_new {T : List Nod} (h : RiseN T) {x : Nod} (hy : nodeAt T x.num = none) (k : Int) : cnt (putN x T) k = cnt T k + cE x.names k := by
  have := sum_put ordI h (fun z => cE z.names k) x
  unfold nodeAt at hy
  rw [hy] at this
  exact this
theorem cnt_drop {T : List Nod} (h : RiseN T) {j : Int} {y : Nod} (hy : nodeAt T j = some y) (k : Int) : cnt (dropN j T) k + cE y.names k = cnt T k := by
  have := sum_drop ordI h (fun z => cE z.names k) j
  unfold nodeAt at hy
  rw [hy] at this
  exact this
theorem lenN_put {T : List Nod} (h : RiseN T) {x y : Nod} (hy : nodeAt T x.num = some y) : (putN x T).length = T.length := by
  unfold putN; unfold nodeAt at hy
  rw [len_put ordI h, hy]; simp
theorem lenN_new {T : List Nod} (h : RiseN T) {x : Nod} (hy : nodeAt T x.num = none) : (putN x T).length = T.length + 1 := by
  unfold putN; unfold nodeAt at hy
  rw [len_put ordI h, hy]; simp
theorem lenN_drop {T : List Nod} (h : RiseN T) {j : Int} {y : Nod} (hy : nodeAt T j = some y) : (dropN j T).length + 1 = T.length := len_drop ordI h hy

/-! ### What names find -/
def stepE (T : List Nod) (k : Int) (s : ByteArray) : Except Int Int :=
  match nodeAt T k with
  | none => .error 141
  | some x => if x.dir = true then (match lookE x.names s with | none => .error 141 | some j => .ok j) else .error 143
def walkE (T : List Nod) (k : Int) : List ByteArray → Except Int Int
  | [] => .ok k
  | s :: l => match stepE T k s with
    | .error e => .error e
    | .ok j => walkE T j l
theorem step_ok {T : List Nod} {k j : Int} {s : ByteArray} : stepE T k s = .ok j ↔ ∃ x, nodeAt T k = some x ∧ x.dir = true ∧ lookE x.names s = some j := by
  unfold stepE
  cases h : nodeAt T k with
  | none => simp
  | some x =>
    by_cases hd : x.dir = true
    · cases hl : lookE x.names s with
      | none => simp [hd, hl]
      | some i => simp [hd, hl]
    · simp [hd]
theorem walk_append (T : List Nod) (k : Int) (a b : List ByteArray) : walkE T k (a ++ b) = match walkE T k a with
    | .error e => .error e
    | .ok j => walkE T j b := by
  induction a generalizing k with
  | nil => rfl
  | cons s a ih =>
    simp only [List.cons_append, walkE]
    cases stepE T k s with
    | error e => rfl
    | ok j => exact ih j
theorem walk_to {T : List Nod} {k j : Int} {a b : List ByteArray} (h : walkE T k a = .ok j) : walkE T k (a ++ b) = walkE T j b := by rw [walk_append, h]
theorem walk_parts {T : List Nod} {k j : Int} {a b : List ByteArray} (h : walkE T k (a ++ b) = .ok j) : ∃ i, walkE T k a = .ok i ∧ walkE T i b = .ok j := by
  rw [walk_append] at h
  cases e : walkE T k a with
  | error e => rw [e] at h; cases h
  | ok i => rw [e] at h; exact ⟨i, rfl, h⟩
theorem walk_one (T : List Nod) (k : Int) (s : ByteArray) : walkE T k [s] = stepE T k s := by
  unfold walkE
  cases stepE T k s <;> rfl
theorem walk_snoc {T : List Nod} {k j : Int} {a : List ByteArray} {s : ByteArray} : walkE T k (a ++ [s]) = .ok j ↔ ∃ i, walkE T k a = .ok i ∧ stepE T i s = .ok j := by
  constructor
  · intro h
    obtain ⟨i, h1, h2⟩ := walk_parts h
    exact ⟨i, h1, by rwa [walk_one] at h2⟩
  · rintro ⟨i, h1, h2⟩
    rw [walk_to h1, walk_one, h2]
theorem snoc_cases {α : Type} (l : List α) : l = [] ∨ ∃ a s, l = a ++ [s] := by
  rcases List.eq_nil_or_concat l with h | ⟨a, s, h⟩
  · exact .inl h
  · exact .inr ⟨a, s, by simpa using h⟩

/-! ### Trees -/
structure Formed (T : List Nod) : Prop where
  rise : RiseN T
  len : T.length ≤ 60
  num : ∀ x ∈ T, 1 ≤ x.num ∧ x.num ≤ 65535
  file : ∀ x ∈ T, x.dir = false → x.names = [] ∧ x.data.size ≤ 16384
  dir : ∀ x ∈ T, x.dir = true → x.data = ⟨#[]⟩ ∧ RiseE x.names ∧ x.names.length ≤ 60 ∧ ∀ e ∈ x.names, NameOk e.name
  root : ∃ r, nodeAt T 1 = some r ∧ r.dir = true ∧ r.links = 1
  kids : ∀ x ∈ T, ∀ e ∈ x.names, e.num ≠ 1 ∧ ∃ y, nodeAt T e.num = some y
  links : ∀ x ∈ T, x.num ≠ 1 → x.links = cnt T x.num ∧ 1 ≤ x.links ∧ (x.dir = true → x.links = 1)
structure Good (T : List Nod) : Prop where
  formed : Formed T
  reach : ∀ x ∈ T, x.dir = true → ∃ l, walkE T 1 l = .ok x.num
  short : ∀ l k, walkE T 1 l = .ok k → l.length ≤ 8

section
variable {T : List Nod}
theorem Formed.dirOf (h : Formed T) {x : Nod} (hx : x ∈ T) {e : Ent} (he : e ∈ x.names) : x.dir = true := by
  cases hd : x.dir with
  | true => rfl
  | false => rw [(h.file x hx hd).1] at he; cases he
theorem Formed.riseE (h : Formed T) {x : Nod} (hx : x ∈ T) : RiseE x.names := by
  cases hd : x.dir with
  | true => exact (h.dir x hx hd).2.1
  | false => rw [(h.file x hx hd).1]; exact List.Pairwise.nil
theorem Formed.one_name (h : Formed T) {x y z : Nod} {e f : Ent} (hx : x ∈ T) (hy : y ∈ T) (he : e ∈ x.names) (hf : f ∈ y.names) (hk : e.num = f.num) (hz : nodeAt T e.num = some z) (hd : z.dir = true) : x = y ∧ e = f := by
  obtain ⟨hz1, hz2⟩ := at_mem hz
  obtain ⟨h1, _, h3⟩ := h.links z hz1 (by rw [hz2]; exact (h.kids x hx e he).1)
  have h4 := h3 hd
  have hc : cnt T e.num = 1 := by rw [hz2] at h1; omega
  have e1 : x = y := Classical.byContradiction fun hn => by
    have := sum_pair (f := fun x => cE x.names e.num) hx hy hn
    have p1 := c_pos he
    have p2 := c_pos hf
    rw [← hk] at p2
    have : cE x.names e.num + cE y.names e.num ≤ cnt T e.num := this
    omega
  subst e1
  refine ⟨rfl, Classical.byContradiction fun hn => ?_⟩
  have p := c_two he hf hn hk
  have : cE x.names e.num ≤ cnt T e.num := sum_mem (f := fun x => cE x.names e.num) hx
  omega
theorem Formed.walk_node (h : Formed T) : ∀ {l : List ByteArray} {k : Int}, walkE T 1 l = .ok k → ∃ x, nodeAt T k = some x := by
  intro l k hw
  rcases snoc_cases l with rfl | ⟨a, s, rfl⟩
  · cases hw
    obtain ⟨r, hr, _⟩ := h.root
    exact ⟨r, hr⟩
  · obtain ⟨i, _, h2⟩ := walk_snoc.1 hw
    obtain ⟨x, hx, _, hl⟩ := step_ok.1 h2
    exact (h.kids x (at_mem hx).1 _ (look_mem hl)).2
theorem Formed.step_ne (h : Formed T) {k j : Int} {s : ByteArray} (hs : stepE T k s = .ok j) : j ≠ 1 ∧ ∃ y, nodeAt T j = some y := by
  obtain ⟨x, hx, _, hl⟩ := step_ok.1 hs
  exact h.kids x (at_mem hx).1 _ (look_mem hl)
/-- one directory is found by one path alone -/
theorem Formed.uniq (h : Formed T) : ∀ (n : Nat) {a b : List ByteArray} {k : Int} {z : Nod}, a.length = n → walkE T 1 a = .ok k → walkE T 1 b = .ok k → nodeAt T k = some z → z.dir = true → a = b := by
  intro n
  induction n with
  | zero =>
    intro a b k z ha h1 h2 _ _
    obtain rfl := List.eq_nil_of_length_eq_zero ha
    cases h1
    rcases snoc_cases b with rfl | ⟨b, s, rfl⟩
    · rfl
    · obtain ⟨i, _, h4⟩ := walk_snoc.1 h2
      exact absurd rfl (h.step_ne h4).1
  | succ n ih =>
    intro a b k z ha h1 h2 hz hd
    rcases snoc_cases a with rfl | ⟨a, s, rfl⟩
    · simp at ha
    · obtain ⟨i, w1, s1⟩ := walk_snoc.1 h1
      rcases snoc_cases b with rfl | ⟨b, t, rfl⟩
      · cases h2
        exact absurd rfl (h.step_ne s1).1
      · obtain ⟨j, w2, s2⟩ := walk_snoc.1 h2
        obtain ⟨x, hx, dx, lx⟩ := step_ok.1 s1
        obtain ⟨y, hy, dy, ly⟩ := step_ok.1 s2
        obtain ⟨rfl, e2⟩ := h.one_name (at_mem hx).1 (at_mem hy).1 (look_mem lx) (look_mem ly) rfl hz hd
        have e3 : s = t := congrArg Ent.name e2
        have e4 : i = j := by rw [← (at_mem hx).2, ← (at_mem hy).2]
        subst e3; subst e4
        rw [ih (by simpa using ha) w1 w2 hx dx]
theorem Formed.path_uniq (h : Formed T) {a b : List ByteArray} {k : Int} {z : Nod} (h1 : walkE T 1 a = .ok k) (h2 : walkE T 1 b = .ok k) (hz : nodeAt T k = some z) (hd : z.dir = true) : a = b := h.uniq _ rfl h1 h2 hz hd
/-- what is counted: nothing for what is no node, nothing for the root -/
theorem Formed.cnt_none (h : Formed T) {k : Int} (hk : nodeAt T k = none) : cnt T k = 0 := by
  refine Nat.eq_zero_of_not_pos fun hp => ?_
  obtain ⟨x, hx, h1⟩ := sum_pos hp
  obtain ⟨e, he, rfl⟩ := c_ex h1
  obtain ⟨y, hy⟩ := (h.kids x hx e he).2
  rw [hk] at hy; cases hy
theorem Formed.cnt_root (h : Formed T) : cnt T 1 = 0 := by
  refine Nat.eq_zero_of_not_pos fun hp => ?_
  obtain ⟨x, hx, h1⟩ := sum_pos hp
  obtain ⟨e, he, h2⟩ := c_ex h1
  exact (h.kids x hx e he).1 h2
end

/-! ### A tree in which names were put and taken away -/
section
variable {T U : List Nod}
theorem prefix_snoc {α : Type} {p a : List α} {t : α} (h : p <+: a) : p <+: a ++ [t] := List.IsPrefix.trans h ⟨[t], rfl⟩
/-- paths that don't use the name that was taken away are found as before -/
theorem Formed.avoid (h : Formed T) {d : Int} {was : ByteArray} {b : List ByteArray} (hb : walkE T 1 b = .ok d) {z : Nod} (hz : nodeAt T d = some z) (hd : z.dir = true)
    (hU : ∀ k t j, stepE T k t = .ok j → ¬ (k = d ∧ t = was) → stepE U k t = .ok j) :
    ∀ (n : Nat) {a : List ByteArray} {p : Int}, a.length = n → walkE T 1 a = .ok p → ¬ (b ++ [was]) <+: a → walkE U 1 a = .ok p := by
  intro n
  induction n with
  | zero =>
    intro a p ha hw _
    obtain rfl := List.eq_nil_of_length_eq_zero ha
    exact hw
  | succ n ih =>
    intro a p ha hw hp
    rcases snoc_cases a with rfl | ⟨a, s, rfl⟩
    · exact hw
    · obtain ⟨i, w1, s1⟩ := walk_snoc.1 hw
      have w2 := ih (by simpa using ha) w1 (fun k => hp (prefix_snoc k))
      refine walk_snoc.2 ⟨i, w2, hU _ _ _ s1 ?_⟩
      rintro ⟨rfl, rfl⟩
      have := h.path_uniq w1 hb hz hd
      subst this
      exact hp (List.prefix_refl _)
/-- paths in a tree with one new name: as before, or through it -/
theorem Formed.through (h : Formed T) {p n : Int} {s : ByteArray} {a : List ByteArray} (ha : walkE T 1 a = .ok p) {z : Nod} (hz : nodeAt T p = some z) (hd : z.dir = true)
    (hn : ∀ m, walkE T n m ≠ .ok p)
    (hU : ∀ k t j, stepE U k t = .ok j → (k = p ∧ t = s ∧ j = n) ∨ stepE T k t = .ok j) :
    ∀ (c : Nat) {l : List ByteArray} {j : Int}, l.length = c → walkE U 1 l = .ok j → walkE T 1 l = .ok j ∨ ∃ m, l = a ++ [s] ++ m ∧ walkE T n m = .ok j := by
  intro c
  induction c with
  | zero =>
    intro l j hl hw
    obtain rfl := List.eq_nil_of_length_eq_zero hl
    exact .inl hw
  | succ c ih =>
    intro l j hl hw
    rcases snoc_cases l with rfl | ⟨l, t, rfl⟩
    · exact .inl hw
    · obtain ⟨i, w1, s1⟩ := walk_snoc.1 hw
      rcases ih (by simpa using hl) w1 with w2 | ⟨m, rfl, w2⟩
      · rcases hU _ _ _ s1 with ⟨rfl, rfl, rfl⟩ | s2
        · have := h.path_uniq w2 ha hz hd
          subst this
          exact .inr ⟨[], by simp, rfl⟩
        · exact .inl (walk_snoc.2 ⟨i, w2, s2⟩)
      · rcases hU _ _ _ s1 with ⟨rfl, rfl, rfl⟩ | s2
        · exact absurd w2 (hn m)
        · exact .inr ⟨m ++ [t], by simp, walk_snoc.2 ⟨i, w2, s2⟩⟩
end

/-! ### How deep -/
def Fits (T : List Nod) (f : Nat) (k : Int) : Prop := ∀ l j, walkE T k l = .ok j → l.length ≤ f
def deepL (g : Int → Nat) : List Ent → Nat
  | [] => 0
  | e :: l => max (1 + g e.num) (deepL g l)
def deepF (T : List Nod) : Nat → Int → Nat
  | 0, _ => 0
  | f + 1, k => match nodeAt T k with
    | none => 0
    | some x => if x.dir = true then deepL (deepF T f) x.names else 0
theorem deepL_ge {g : Int → Nat} {l : List Ent} {e : Ent} (h : e ∈ l) : 1 + g e.num ≤ deepL g l := by
  induction l with
  | nil => cases h
  | cons x l ih =>
    unfold deepL
    rcases List.mem_cons.1 h with rfl | h
    · omega
    · have := ih h; omega
theorem deepL_wit {g : Int → Nat} {l : List Ent} (h : l ≠ []) : ∃ e ∈ l, deepL g l = 1 + g e.num := by
  induction l with
  | nil => exact absurd rfl h
  | cons x l ih =>
    unfold deepL
    by_cases hl : l = []
    · subst hl; exact ⟨x, by simp, by simp [deepL]⟩
    · obtain ⟨e, he, h1⟩ := ih hl
      by_cases hm : deepL g l ≤ 1 + g x.num
      · exact ⟨x, by simp, by omega⟩
      · exact ⟨e, List.mem_cons_of_mem _ he, by omega⟩
theorem Fits.step {T : List Nod} {f : Nat} {k j : Int} {s : ByteArray} (h : Fits T (f + 1) k) (hs : stepE T k s = .ok j) : Fits T f j := by
  intro l i hw
  have := h (s :: l) i (by rw [walkE, hs]; exact hw)
  simpa using this
theorem deep_ge {T : List Nod} : ∀ {f : Nat} {k j : Int} {l : List ByteArray}, Fits T f k → walkE T k l = .ok j → l.length ≤ deepF T f k
  | 0, _, _, _, h, hw => h _ _ hw
  | _ + 1, _, _, [], _, _ => Nat.zero_le _
  | f + 1, k, j, s :: l, h, hw => by
    rw [walkE] at hw
    cases hs : stepE T k s with
    | error e => rw [hs] at hw; cases hw
    | ok i =>
      rw [hs] at hw
      have ih := deep_ge (h.step hs) hw
      obtain ⟨x, hx, hd, hl⟩ := step_ok.1 hs
      rw [deepF, hx]
      simp only [hd, if_true]
      have := deepL_ge (g := deepF T f) (look_mem hl)
      simp only [List.length_cons] at this ⊢
      omega
theorem deep_wit {T : List Nod} (hr : ∀ x ∈ T, RiseE x.names) : ∀ (f : Nat) (k : Int), ∃ l j, walkE T k l = .ok j ∧ l.length = deepF T f k
  | 0, k => ⟨[], k, rfl, rfl⟩
  | f + 1, k => by
    rw [deepF]
    cases hx : nodeAt T k with
    | none => exact ⟨[], k, rfl, rfl⟩
    | some x =>
      by_cases hd : x.dir = true
      · by_cases hn : x.names = []
        · exact ⟨[], k, rfl, by simp [hd, hn, deepL]⟩
        · obtain ⟨e, he, h1⟩ := deepL_wit (g := deepF T f) hn
          obtain ⟨l, j, h2, h3⟩ := deep_wit hr f e.num
          have hs : stepE T k e.name = .ok e.num := step_ok.2 ⟨x, hx, hd, (hr x (at_mem hx).1).look he⟩
          exact ⟨e.name :: l, j, by rw [walkE, hs]; exact h2, by simp [hd, h1, h3]; omega⟩
      · exact ⟨[], k, rfl, by simp [hd]⟩
end Go.Proofs.YtfokdmijkniomaaGreatDoor

namespace Go.Proofs.YtfokdmijkniomaaGreatDoor
open Go.RowKit Go

/-! ### Commands -/
def freeF (T : List Nod) : Nat → Int → Int
  | 0, k => k
  | n + 1, k => if (nodeAt T k).isSome = true then freeF T n (k + 1) else k
def freeV (T : List Nod) : Int := freeF T (T.length + 1) 2
def namePut (T : List Nod) (p : Int) (s : ByteArray) (k : Int) : List Nod :=
  match nodeAt T p with
  | none => T
  | some x => putN { x with names := insE s k x.names } T
def nameDel (T : List Nod) (p : Int) (s : ByteArray) : List Nod :=
  match nodeAt T p with
  | none => T
  | some x => putN { x with names := delE s x.names } T
/-- the directory in which a path's last name can be put -/
def placeE (T : List Nod) (l : List ByteArray) : Except Int (Int × ByteArray) :=
  match l.getLast? with
  | none => .error 142
  | some s => match walkE T 1 l.dropLast with
    | .error e => .error e
    | .ok p => match nodeAt T p with
      | none => .error 141
      | some x => if x.dir = false then .error 143 else if (lookE x.names s).isSome = true then .error 142 else if 60 ≤ x.names.length then .error 145 else .ok (p, s)
def findE (T : List Nod) (l : List ByteArray) : Except Int Nod :=
  match walkE T 1 l with
  | .error e => .error e
  | .ok k => match nodeAt T k with
    | none => .error 141
    | some x => .ok x
def fileE (T : List Nod) (l : List ByteArray) : Except Int Nod :=
  match findE T l with
  | .error e => .error e
  | .ok x => if x.dir = true then .error 143 else .ok x
def wrote (d : ByteArray) (a : Nat) (s : ByteArray) : ByteArray := bs (d.data.toList.take a ++ s.data.toList ++ d.data.toList.drop (a + s.size))
def firsts (d : ByteArray) (a : Nat) : ByteArray := bs (d.data.toList.take a)
def makeV (T : List Nod) (l : List ByteArray) (dir : Bool) : List Nod × Int :=
  match placeE T l with
  | .error e => (T, e)
  | .ok (p, s) => if 60 ≤ T.length then (T, 145) else (namePut (putN ⟨freeV T, dir, 1, ⟨#[]⟩, []⟩ T) p s (freeV T), 0)
def writeV (T : List Nod) (l : List ByteArray) (a : Int) (s : ByteArray) : List Nod × Int :=
  match fileE T l with
  | .error e => (T, e)
  | .ok x => if (x.data.size : Int) < a ∨ 16384 < a + s.size then (T, 145) else (putN { x with data := wrote x.data a.toNat s } T, 0)
def cutV (T : List Nod) (l : List ByteArray) (a : Int) : List Nod × Int :=
  match fileE T l with
  | .error e => (T, e)
  | .ok x => if (x.data.size : Int) < a then (T, 145) else (putN { x with data := firsts x.data a.toNat } T, 0)
def linkV (T : List Nod) (l m : List ByteArray) : List Nod × Int :=
  match fileE T l with
  | .error e => (T, e)
  | .ok x => match placeE T m with
    | .error e => (T, e)
    | .ok (p, s) => (namePut (putN { x with links := x.links + 1 } T) p s x.num, 0)
/-- the number of the directory in which a path's last name stands -/
def upOf (T : List Nod) (l : List ByteArray) : Int :=
  match walkE T 1 l.dropLast with
  | .error _ => 0
  | .ok p => p
def lastOf (l : List ByteArray) : ByteArray := (l.getLast?).getD (⟨#[]⟩ : ByteArray)
def under (l m : List ByteArray) : Prop := l <+: m ∧ l ≠ m
noncomputable instance (l m : List ByteArray) : Decidable (under l m) := Classical.propDecidable _
noncomputable def renameV (T : List Nod) (l m : List ByteArray) : List Nod × Int :=
  if l = [] then (T, 144) else
  match findE T l with
  | .error e => (T, e)
  | .ok x => if under l m then (T, 144) else
    match placeE T m with
    | .error e => (T, e)
    | .ok (p, s) => if 8 < m.length + deepF T 8 x.num then (T, 145) else (namePut (nameDel T (upOf T l) (lastOf l)) p s x.num, 0)
def removeV (T : List Nod) (l : List ByteArray) : List Nod × Int :=
  if l = [] then (T, 144) else
  match findE T l with
  | .error e => (T, e)
  | .ok x => if x.names ≠ [] then (T, 144) else
    let U := nameDel T (upOf T l) (lastOf l)
    (if x.links - 1 = 0 then dropN x.num U else putN { x with links := x.links - 1 } U, 0)
noncomputable instance (c : Cmd) : Decidable (MayC c) := Classical.propDecidable _
noncomputable instance (s : ByteArray) : Decidable (PathOk s) := Classical.propDecidable _
noncomputable def namesOf (s : ByteArray) : List ByteArray := if h : PathOk s then Classical.choose h else []
theorem namesOf_is {s : ByteArray} {l : List ByteArray} (h : IsPath s l) : namesOf s = l := by
  unfold namesOf
  rw [dif_pos ⟨l, h⟩]
  exact (Classical.choose_spec (p := fun m => IsPath s m) ⟨l, h⟩).uniq h
noncomputable def doV (T : List Nod) (c : Cmd) : List Nod × Int :=
  if ¬ MayC c then (T, 1)
  else if c.kind = 0 then makeV T (namesOf c.path) false
  else if c.kind = 1 then makeV T (namesOf c.path) true
  else if c.kind = 2 then writeV T (namesOf c.path) c.place c.data
  else if c.kind = 3 then cutV T (namesOf c.path) c.place
  else if c.kind = 4 then linkV T (namesOf c.path) (namesOf c.dest)
  else if c.kind = 5 then renameV T (namesOf c.path) (namesOf c.dest)
  else if c.kind = 6 then removeV T (namesOf c.path)
  else (T, 1)

/-! ### What was found -/
section
variable {T : List Nod}
theorem placeE_ok {l : List ByteArray} {p : Int} {s : ByteArray} (h : placeE T l = .ok (p, s)) :
    l = l.dropLast ++ [s] ∧ walkE T 1 l.dropLast = .ok p ∧ ∃ x, nodeAt T p = some x ∧ x.dir = true ∧ lookE x.names s = none ∧ x.names.length < 60 := by
  unfold placeE at h
  split at h
  · cases h
  · rename_i t ht
    split at h
    · cases h
    · rename_i q hq
      split at h
      · cases h
      · rename_i x hx
        split at h
        · cases h
        · split at h
          · cases h
          · split at h
            · cases h
            · rename_i h1 h2 h3
              cases h
              refine ⟨?_, hq, x, hx, by simpa using h1, by simpa using h2, by omega⟩
              rcases snoc_cases l with rfl | ⟨a, r, rfl⟩
              · cases ht
              · simp at ht ⊢; exact ht
theorem findE_ok {l : List ByteArray} {x : Nod} (h : findE T l = .ok x) : walkE T 1 l = .ok x.num ∧ nodeAt T x.num = some x := by
  unfold findE at h
  split at h
  · cases h
  · rename_i k hk
    split at h
    · cases h
    · rename_i y hy
      cases h
      rw [(at_mem hy).2]
      exact ⟨hk, hy⟩
theorem fileE_ok {l : List ByteArray} {x : Nod} (h : fileE T l = .ok x) : findE T l = .ok x ∧ x.dir = false := by
  unfold fileE at h
  split at h
  · cases h
  · rename_i y hy
    split at h
    · cases h
    · rename_i hd
      cases h
      exact ⟨hy, by simpa using hd⟩
theorem up_ok {l : List ByteArray} {k : Int} (hl : l ≠ []) (h : walkE T 1 l = .ok k) : l = l.dropLast ++ [lastOf l] ∧ walkE T 1 l.dropLast = .ok (upOf T l) ∧ stepE T (upOf T l) (lastOf l) = .ok k := by
  rcases snoc_cases l with rfl | ⟨a, r, rfl⟩
  · exact absurd rfl hl
  · obtain ⟨i, h1, h2⟩ := walk_snoc.1 h
    unfold upOf lastOf
    simp [h1, h2]
/-! ### The least number that is free -/
def occ (T : List Nod) (k : Int) : Nat := sumK (fun x => if 2 ≤ x.num ∧ x.num < k then 1 else 0) T
theorem occ_le (T : List Nod) (k : Int) : occ T k ≤ T.length := by
  rw [len_sum]
  unfold occ
  induction T with
  | nil => exact Nat.le_refl _
  | cons y l ih =>
    rw [sum_cons, sum_cons]
    split <;> omega
theorem occ_step {T : List Nod} (h : RiseN T) {k : Int} (hk : 2 ≤ k) {x : Nod} (hx : nodeAt T k = some x) : occ T (k + 1) = occ T k + 1 := by
  unfold occ nodeAt RiseN at *
  induction T with
  | nil => cases hx
  | cons y l ih =>
    obtain ⟨h1, h2⟩ := List.pairwise_cons.1 h
    rw [sum_cons, sum_cons]
    rw [seekK] at hx
    split at hx
    · rename_i e
      have : sumK (fun x : Nod => if 2 ≤ x.num ∧ x.num < k + 1 then 1 else 0) l = sumK (fun x : Nod => if 2 ≤ x.num ∧ x.num < k then 1 else 0) l := by
        refine sum_congr fun z hz => ?_
        have := h1 z hz
        simp only [ltI, decide_eq_true_eq] at this
        rw [if_neg (by omega), if_neg (by omega)]
      rw [this, if_pos (by omega), if_neg (by omega)]; omega
    · rename_i e
      have := ih h2 hx
      have e2 : (if 2 ≤ y.num ∧ y.num < k + 1 then 1 else 0) = (if 2 ≤ y.num ∧ y.num < k then 1 else 0) := by
        by_cases h3 : 2 ≤ y.num ∧ y.num < k
        · rw [if_pos h3, if_pos (by omega)]
        · rw [if_neg h3, if_neg (by omega)]
      rw [e2]; omega
structure IsFree (T : List Nod) (k : Int) : Prop where
  two : 2 ≤ k
  none : nodeAt T k = none
  least : ∀ j, 2 ≤ j → j < k → (nodeAt T j).isSome = true
theorem IsFree.uniq {j k : Int} (h : IsFree T j) (g : IsFree T k) : j = k := by
  rcases Int.lt_trichotomy j k with c | c | c
  · have := g.least j h.two c; rw [h.none] at this; cases this
  · exact c
  · have := h.least k g.two c; rw [g.none] at this; cases this
/-- so far all numbers are taken: there are as many nodes -/
theorem taken_le (h : RiseN T) : ∀ (n : Nat), (∀ j, 2 ≤ j → j < 2 + (n : Int) → (nodeAt T j).isSome = true) → occ T (2 + n) = n
  | 0, _ => by
    have : occ T (2 + (0 : Nat)) = 0 := by
      unfold occ
      refine Nat.eq_zero_of_not_pos fun hp => ?_
      obtain ⟨x, _, h1⟩ := sum_pos hp
      rw [if_neg (by omega)] at h1; omega
    exact this
  | n + 1, hj => by
    have e : (2 + ((n + 1 : Nat) : Int)) = (2 + (n : Int)) + 1 := by omega
    obtain ⟨x, hx⟩ := Option.isSome_iff_exists.1 (hj (2 + (n : Int)) (by omega) (by omega))
    rw [e, occ_step h (by omega) hx, taken_le h n fun j h1 h2 => hj j h1 (by omega)]
theorem freeF_is (h : RiseN T) : ∀ (c n : Nat), (∀ j, 2 ≤ j → j < 2 + (n : Int) → (nodeAt T j).isSome = true) → T.length < n + c → IsFree T (freeF T c (2 + n))
  | 0, n, hj, hl => by
    have := taken_le h n hj
    have := occ_le T (2 + n)
    omega
  | c + 1, n, hj, hl => by
    rw [freeF]
    split
    · rename_i hs
      have e : (2 + (n : Int)) + 1 = 2 + ((n + 1 : Nat) : Int) := by omega
      rw [e]
      refine freeF_is h c (n + 1) (fun j h1 h2 => ?_) (by omega)
      by_cases e2 : j = 2 + (n : Int)
      · rw [e2]; exact hs
      · exact hj j h1 (by omega)
    · rename_i hs
      exact ⟨by omega, by simpa using hs, hj⟩
theorem free_is (h : RiseN T) : IsFree T (freeV T) := by
  have := freeF_is h (T.length + 1) 0 (fun j _ _ => by omega) (by omega)
  exact this
theorem free_le (h : RiseN T) : freeV T ≤ 2 + T.length := by
  have hf := free_is h
  obtain ⟨n, hn⟩ : ∃ n : Nat, freeV T = 2 + n := ⟨(freeV T - 2).toNat, by have := hf.two; omega⟩
  have := taken_le h n fun j h1 h2 => hf.least j h1 (by omega)
  have := occ_le T (2 + n)
  omega

/-! ### Names put and taken away -/
theorem at_namePut {p k : Int} {s : ByteArray} {x : Nod} (hx : nodeAt T p = some x) (j : Int) : nodeAt (namePut T p s k) j = if p = j then some { x with names := insE s k x.names } else nodeAt T j := by
  unfold namePut
  rw [hx]
  simp only [at_put]
  rw [(at_mem hx).2]
theorem at_nameDel {p : Int} {s : ByteArray} {x : Nod} (hx : nodeAt T p = some x) (j : Int) : nodeAt (nameDel T p s) j = if p = j then some { x with names := delE s x.names } else nodeAt T j := by
  unfold nameDel
  rw [hx]
  simp only [at_put]
  rw [(at_mem hx).2]
theorem rise_namePut (h : RiseN T) (p : Int) (s : ByteArray) (k : Int) : RiseN (namePut T p s k) := by
  unfold namePut
  split
  · exact h
  · exact h.put _
theorem rise_nameDel (h : RiseN T) (p : Int) (s : ByteArray) : RiseN (nameDel T p s) := by
  unfold nameDel
  split
  · exact h
  · exact h.put _
theorem len_namePut (h : RiseN T) {p k : Int} {s : ByteArray} {x : Nod} (hx : nodeAt T p = some x) : (namePut T p s k).length = T.length := by
  unfold namePut
  rw [hx]
  exact lenN_put (x := { x with names := insE s k x.names }) h (by rw [(at_mem hx).2]; exact hx)
theorem len_nameDel (h : RiseN T) {p : Int} {s : ByteArray} {x : Nod} (hx : nodeAt T p = some x) : (nameDel T p s).length = T.length := by
  unfold nameDel
  rw [hx]
  exact lenN_put (x := { x with names := delE s x.names }) h (by rw [(at_mem hx).2]; exact hx)
theorem cnt_namePut (h : RiseN T) {p k : Int} {s : ByteArray} {x : Nod} (hx : nodeAt T p = some x) (hr : RiseE x.names) (hn : lookE x.names s = none) (j : Int) :
    cnt (namePut T p s k) j = cnt T j + if k = j then 1 else 0 := by
  unfold namePut
  rw [hx]
  have h1 := cnt_put (x := { x with names := insE s k x.names }) h (y := x) (by rw [(at_mem hx).2]; exact hx) j
  have h2 := c_ins (j := k) hr hn j
  simp only at h1 ⊢
  omega
theorem cnt_nameDel (h : RiseN T) {p k : Int} {s : ByteArray} {x : Nod} (hx : nodeAt T p = some x) (hr : RiseE x.names) (hn : lookE x.names s = some k) (j : Int) :
    cnt (nameDel T p s) j + (if k = j then 1 else 0) = cnt T j := by
  unfold nameDel
  rw [hx]
  have h1 := cnt_put (x := { x with names := delE s x.names }) h (y := x) (by rw [(at_mem hx).2]; exact hx) j
  have h2 := c_del hr hn j
  simp only at h1 ⊢
  omega
/-- the same node but for its names -/
structure Like (x y : Nod) : Prop where
  num : y.num = x.num
  dir : y.dir = x.dir
  links : y.links = x.links
  data : y.data = x.data
theorem Like.refl (x : Nod) : Like x x := ⟨rfl, rfl, rfl, rfl⟩
end
end Go.Proofs.YtfokdmijkniomaaGreatDoor

