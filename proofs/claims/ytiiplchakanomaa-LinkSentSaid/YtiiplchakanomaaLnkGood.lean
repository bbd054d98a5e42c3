/-
  What waits and is late was sent, or is one that was, with one byte turned.
-/
import Derived.Test.YtiiplchakanomaaLnkNear
import Derived.Test.YtiiplchakanomaaLnkMath
namespace Go.Proofs.Ytiiplchakanomaa
open Go.RowKit Go

def Near1 (S : List ByteArray) (x : ByteArray) : Prop := ∃ s ∈ S, nearB x s = true
def Good (S L : List ByteArray) (T : List Lte) : Prop := (∀ x ∈ L, Near1 S x) ∧ ∀ q ∈ T, Near1 S q.1
theorem Near1.mono {S S' : List ByteArray} {x : ByteArray} (h : Near1 S x) (hs : ∀ s ∈ S, s ∈ S') : Near1 S' x := by
  obtain ⟨s, h1, h2⟩ := h
  exact ⟨s, hs s h1, h2⟩
theorem Good.mono {S S' L : List ByteArray} {T : List Lte} (h : Good S L T) (hs : ∀ s ∈ S, s ∈ S') : Good S' L T := ⟨fun x hx => (h.1 x hx).mono hs, fun q hq => (h.2 q hq).mono hs⟩
theorem near_comes {S L : List ByteArray} {room : Nat} {y : ByteArray} (h : ∀ x ∈ L, Near1 S x) (hy : Near1 S y) : ∀ x ∈ comesL room L y, Near1 S x := by
  intro x hx
  unfold comesL at hx
  split at hx
  · rcases List.mem_append.1 hx with h1 | h1
    · exact h x h1
    · obtain rfl := List.mem_singleton.1 h1
      exact hy
  · exact h x hx
theorem near_step {S : List ByteArray} {room : Nat} : ∀ {T : List Lte} {L : List ByteArray}, (∀ x ∈ L, Near1 S x) → (∀ q ∈ T, Near1 S q.1) → ∀ x ∈ stepL room L T, Near1 S x
  | [], _, h, _ => h
  | q :: T, L, h, hT => by
    rw [stepL_cons]
    refine near_step ?_ (fun q hq => hT q (List.mem_cons_of_mem _ hq))
    split
    · exact near_comes h (hT q List.mem_cons_self)
    · exact h
theorem left_mem {T : List Lte} {q : Lte} (h : q ∈ leftT T) : ∃ p ∈ T, p.2 ≠ 1 ∧ q = (p.1, p.2 - 1) := by
  unfold leftT at h
  rw [List.mem_flatMap] at h
  obtain ⟨p, hp, hq⟩ := h
  split at hq
  · cases hq
  · rename_i hn
    exact ⟨p, hp, hn, List.mem_singleton.1 hq⟩
theorem Good.step {S L : List ByteArray} {T : List Lte} (h : Good S L T) (room : Nat) : Good S (stepL room L T) (leftT T) :=
  ⟨near_step h.1 h.2, fun q hq => by
    obtain ⟨p, hp, -, rfl⟩ := left_mem hq
    exact h.2 p hp⟩
theorem Good.send {S L : List ByteArray} {T : List Lte} (h : Good S L T) (room : Nat) (s : ByteArray) (f : Fte) (hm : mayV f = true) : Good (S ++ [s]) (sendL room L s f) (sendT T s f) := by
  have h2 := h.mono (S' := S ++ [s]) (fun x hx => List.mem_append_left _ hx)
  have hn : Near1 (S ++ [s]) s := ⟨s, by simp, near_self s⟩
  constructor
  · unfold sendL
    rw [if_pos hm]
    unfold nowL
    split
    · exact near_comes h2.1 hn
    · split
      · exact near_comes (near_comes h2.1 hn) hn
      · split
        · exact near_comes h2.1 ⟨s, by simp, near_turn s _ _⟩
        · exact h2.1
  · unfold sendT
    split
    · intro q hq
      rcases List.mem_append.1 hq with h3 | h3
      · exact h2.2 q h3
      · obtain rfl := List.mem_singleton.1 h3
        exact hn
    · exact h2.2
theorem Good.no {S L : List ByteArray} {T : List Lte} (h : Good S L T) (room : Nat) (s : ByteArray) (f : Fte) (hm : mayV f = false) : Good S (sendL room L s f) (sendT T s f) := by
  have e1 : sendL room L s f = L := by simp [sendL, hm]
  have e2 : sendT T s f = T := by simp [sendT, hm]
  rw [e1, e2]
  exact h
theorem comes_len1 (room : Nat) (L : List ByteArray) (s : ByteArray) : (comesL room L s).length ≤ L.length + 1 := by
  unfold comesL
  split <;> simp
theorem step_len1 (room : Nat) : ∀ (T : List Lte) (L : List ByteArray), (stepL room L T).length + (leftT T).length ≤ L.length + T.length
  | [], L => Nat.le_refl _
  | q :: T, L => by
    have e : leftT (q :: T) = (if q.2 = 1 then [] else [(q.1, q.2 - 1)]) ++ leftT T := by simp [leftT]
    rw [stepL_cons, e, List.length_append, List.length_cons]
    by_cases h : q.2 = 1
    · rw [if_pos h, if_pos h]
      have := step_len1 room T (comesL room L q.1)
      have := comes_len1 room L q.1
      simp only [List.length_nil]
      omega
    · rw [if_neg h, if_neg h]
      have := step_len1 room T L
      simp only [List.length_singleton]
      omega
theorem send_len1 (room : Nat) (L : List ByteArray) (T : List Lte) (s : ByteArray) (f : Fte) : (sendL room L s f).length + (sendT T s f).length ≤ L.length + T.length + 2 := by
  have h1 := comes_len1 room L s
  have h2 := comes_len1 room (comesL room L s) s
  have h3 := comes_len1 room L (turnB s f.n f.mask)
  unfold sendL sendT nowL
  by_cases hm : mayV f = true
  · rw [if_pos hm]
    by_cases h0 : f.kind = 3
    · simp [hm, h0]
      omega
    · have : ¬ ((mayV f && f.kind == 3) = true) := by simp [h0]
      rw [if_neg this]
      split
      · omega
      · split
        · omega
        · split <;> omega
  · have : ¬ ((mayV f && f.kind == 3) = true) := by simp [hm]
    rw [if_neg hm, if_neg this]
    omega
/-- how late they are at most -/
def Due (T : List Lte) (j : Nat) : Prop := ∀ q ∈ T, q.2 + j ≤ 8
theorem Due.left {T : List Lte} {j : Nat} (h : Due T j) (hT : LateOk T) : Due (leftT T) (j + 1) := by
  intro q hq
  obtain ⟨p, hp, hn, rfl⟩ := left_mem hq
  have h1 := h p hp
  have h2 := hT p hp
  simp only
  omega
theorem Due.none {T : List Lte} {j : Nat} (h : Due T j) (hT : LateOk T) (hj : 8 ≤ j) : T = [] := by
  cases T with
  | nil => rfl
  | cons q T =>
    have h1 := h q List.mem_cons_self
    have h2 := hT q List.mem_cons_self
    omega
theorem Due.of {T : List Lte} (hT : LateOk T) : Due T 0 := fun q hq => (hT q hq).2
end Go.Proofs.Ytiiplchakanomaa

