/-
  A link as values: what waits, what is late; what each call makes of it.
-/
import Derived.Test.YtiiplchakanomaaKitW
namespace Go.Proofs.Ytiiplchakanomaa
open Go.RowKit Go

abbrev Lte := ByteArray × Nat
/-- a message comes -/
def comesL (room : Nat) (L : List ByteArray) (s : ByteArray) : List ByteArray := if L.length < room then L ++ [s] else L
/-- those that are late by one step come -/
def stepL (room : Nat) (L : List ByteArray) (T : List Lte) : List ByteArray := T.foldl (fun L q => if q.2 = 1 then comesL room L q.1 else L) L
/-- the others -/
def leftT (T : List Lte) : List Lte := T.flatMap fun q => if q.2 = 1 then [] else [(q.1, q.2 - 1)]
/-- a fate -/
structure Fte where
  kind : Int
  n : Int
  mask : UInt8
/-- a text with one byte turned -/
def turnB (s : ByteArray) (n : Int) (m : UInt8) : ByteArray := if s.size = 0 then s else ⟨(s.data.toList.set (n.toNat % s.size) ((s.data.toList.getD (n.toNat % s.size) 0) ^^^ m)).toArray⟩
def mayV (f : Fte) : Bool := f.kind == 0 || f.kind == 1 || f.kind == 2 || (f.kind == 3 && decide (1 ≤ f.n) && decide (f.n ≤ 8)) || (f.kind == 4 && decide (0 ≤ f.n))
/-- what comes at once -/
def nowL (room : Nat) (L : List ByteArray) (s : ByteArray) (f : Fte) : List ByteArray :=
  if f.kind = 0 then comesL room L s else if f.kind = 2 then comesL room (comesL room L s) s else if f.kind = 4 then comesL room L (turnB s f.n f.mask) else L
def sendL (room : Nat) (L : List ByteArray) (s : ByteArray) (f : Fte) : List ByteArray := if mayV f then nowL room L s f else L
def sendT (T : List Lte) (s : ByteArray) (f : Fte) : List Lte := if mayV f && f.kind == 3 then T ++ [(s, f.n.toNat)] else T
def sendE (f : Fte) : Int := if mayV f then 0 else 180

theorem stepL_cons (room : Nat) (L : List ByteArray) (q : Lte) (T : List Lte) : stepL room L (q :: T) = stepL room (if q.2 = 1 then comesL room L q.1 else L) T := rfl
theorem stepL_snoc (room : Nat) (L : List ByteArray) (T : List Lte) (q : Lte) : stepL room L (T ++ [q]) = if q.2 = 1 then comesL room (stepL room L T) q.1 else stepL room L T := by
  simp [stepL, List.foldl_append]
theorem leftT_snoc (T : List Lte) (q : Lte) : leftT (T ++ [q]) = leftT T ++ (if q.2 = 1 then [] else [(q.1, q.2 - 1)]) := by
  simp [leftT, List.flatMap_append]
theorem leftT_len (T : List Lte) : (leftT T).length ≤ T.length := by
  induction T with
  | nil => simp [leftT]
  | cons q T ih =>
    have e : leftT (q :: T) = (if q.2 = 1 then [] else [(q.1, q.2 - 1)]) ++ leftT T := by simp [leftT]
    rw [e, List.length_append, List.length_cons]
    split <;> simp <;> omega
theorem comesL_len {room : Nat} {L : List ByteArray} {s : ByteArray} (h : L.length ≤ room) : (comesL room L s).length ≤ room := by
  unfold comesL
  split
  · simp; omega
  · exact h
theorem nowL_len {room : Nat} {L : List ByteArray} {s : ByteArray} {f : Fte} (h : L.length ≤ room) : (nowL room L s f).length ≤ room := by
  unfold nowL
  split
  · exact comesL_len h
  · split
    · exact comesL_len (comesL_len h)
    · split
      · exact comesL_len h
      · exact h
theorem sendL_len {room : Nat} {L : List ByteArray} {s : ByteArray} {f : Fte} (h : L.length ≤ room) : (sendL room L s f).length ≤ room := by
  unfold sendL
  split
  · exact nowL_len h
  · exact h
theorem stepL_len {room : Nat} {L : List ByteArray} {T : List Lte} (h : L.length ≤ room) : (stepL room L T).length ≤ room := by
  induction T generalizing L with
  | nil => exact h
  | cons q T ih =>
    rw [stepL_cons]
    apply ih
    split
    · exact comesL_len h
    · exact h
/-- late ones are late by some steps -/
def LateOk (T : List Lte) : Prop := ∀ q ∈ T, 1 ≤ q.2 ∧ q.2 ≤ 8
theorem LateOk.left {T : List Lte} (h : LateOk T) : LateOk (leftT T) := by
  intro q hq
  unfold leftT at hq
  rw [List.mem_flatMap] at hq
  obtain ⟨x, hx, hq⟩ := hq
  split at hq
  · cases hq
  · obtain rfl := List.mem_singleton.1 hq
    have := h x hx
    simp only
    omega
theorem mayV_late {f : Fte} (h : mayV f = true) (h3 : f.kind = 3) : 1 ≤ f.n ∧ f.n ≤ 8 := by
  unfold mayV at h
  rw [h3] at h
  simpa using h
theorem mayV_turn {f : Fte} (h : mayV f = true) (h4 : f.kind = 4) : 0 ≤ f.n := by
  unfold mayV at h
  rw [h4] at h
  simpa using h
theorem mayV_kind {f : Fte} (h : mayV f = true) : f.kind = 0 ∨ f.kind = 1 ∨ f.kind = 2 ∨ f.kind = 3 ∨ f.kind = 4 := by
  unfold mayV at h
  simp at h
  omega
theorem LateOk.send {T : List Lte} (h : LateOk T) (s : ByteArray) (f : Fte) : LateOk (sendT T s f) := by
  unfold sendT
  split
  · rename_i hm
    simp at hm
    obtain ⟨h1, h2⟩ := mayV_late hm.1 hm.2
    intro q hq
    rcases List.mem_append.1 hq with hq | hq
    · exact h q hq
    · obtain rfl := List.mem_singleton.1 hq
      simp only
      omega
  · exact h
theorem sendT_len (T : List Lte) (s : ByteArray) (f : Fte) : (sendT T s f).length ≤ T.length + 1 := by
  unfold sendT
  split <;> simp
theorem turnB_size (s : ByteArray) (n : Int) (m : UInt8) : (turnB s n m).size = s.size := by
  unfold turnB
  split
  · rfl
  · have : ∀ l : List UInt8, (⟨l.toArray⟩ : ByteArray).size = l.length := fun l => rfl
    rw [this, List.length_set]
    simp
end Go.Proofs.Ytiiplchakanomaa

