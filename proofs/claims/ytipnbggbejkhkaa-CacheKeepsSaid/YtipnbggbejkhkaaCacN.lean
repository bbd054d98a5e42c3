/-
  Two caches side by side; of the same puts and gets the one with less room has the first things of the other one.
-/
import Derived.Test.YtipnbggbejkhkaaCacIX
namespace Go.Proofs.Ytipnbggbejkhkaa
open Go.RowKit Go

section
variable {K V : Type} [DecidableEq K]
theorem drop_len {A : List (K × V)} (hn : (keysL A).Nodup) (k : K) : A.length ≤ (dropL A k).length + 1 := by
  induction A with
  | nil => simp
  | cons x A ih =>
    unfold keysL at hn
    rw [List.map_cons, List.nodup_cons] at hn
    unfold dropL
    by_cases e : x.1 = k
    · rw [List.filter_cons_of_neg (by simpa using e), List.filter_eq_self.2 (fun y hy => by
        have : y.1 ≠ k := fun e2 => hn.1 (List.mem_map.2 ⟨y, hy, e2.trans e.symm⟩)
        simpa using this)]
      simp
    · rw [List.filter_cons_of_pos (by simpa using e)]
      have := ih hn.2
      unfold dropL at this
      simpa using this
theorem drop_take {B : List (K × V)} (hn : (keysL B).Nodup) (k : Nat) (x : K) : ∃ R, dropL B x = dropL (B.take k) x ++ R ∧ (k ≤ (dropL (B.take k) x).length + 1 ∨ R = []) := by
  refine ⟨dropL (B.drop k) x, ?_, ?_⟩
  · unfold dropL
    rw [← List.filter_append, List.take_append_drop]
  · rcases Nat.lt_or_ge B.length k with h | h
    · right
      rw [List.drop_of_length_le (by omega)]; rfl
    · left
      have hnA : (keysL (B.take k)).Nodup := (List.Sublist.map _ (List.take_sublist k B)).nodup hn
      have := drop_len hnA x
      rw [List.length_take] at this
      omega
theorem less_put {B : List (K × V)} (hn : (keysL B).Nodup) (k : Nat) (x : K) (v : V) : putL k (B.take k) x v = (putL (k + 1) B x v).take k := by
  unfold putL
  rw [List.take_take, Nat.min_eq_left (by omega)]
  obtain ⟨R, e, h⟩ := drop_take hn k x
  rw [e]
  rcases h with h | rfl
  · cases k with
    | zero => rfl
    | succ k =>
      rw [List.take_succ_cons, List.take_succ_cons, List.take_append_of_le_length (by omega)]
  · rw [List.append_nil]
theorem get_take {B : List (K × V)} {k : Nat} {x : K} {v : V} (h : getL (B.take k) x = some v) : getL B x = some v := by
  unfold getL at *
  rw [← List.take_append_drop k B, List.find?_append]
  cases e : (B.take k).find? (fun y => decide (y.1 = x)) with
  | none => rw [e] at h; cases h
  | some y => rw [e] at h; simpa using h
theorem mem_of_getL {A : List (K × V)} {x : K} {v : V} (h : getL A x = some v) : x ∈ keysL A := by
  have := getL_some A x
  rw [h] at this
  simpa using this.symm
theorem less_get {B : List (K × V)} (hn : (keysL B).Nodup) {k : Nat} {x : K} {v : V} (h : getL (B.take k) x = some v) : (x, v) :: dropL (B.take k) x = ((x, v) :: dropL B x).take k := by
  have hm := mem_of_getL h
  have hnA : (keysL (B.take k)).Nodup := (List.Sublist.map _ (List.take_sublist k B)).nodup hn
  have hk : 1 ≤ k := by
    cases k with
    | zero => simp [keysL] at hm
    | succ k => omega
  have hlt : (dropL (B.take k) x).length < (B.take k).length := by
    rw [show (dropL (B.take k) x).length = (keysL (dropL (B.take k) x)).length by unfold keysL; rw [List.length_map], keysL_drop]
    rw [show (B.take k).length = (keysL (B.take k)).length by unfold keysL; rw [List.length_map]]
    exact List.length_filter_lt_length_iff_exists.2 ⟨x, hm, by simp⟩
  obtain ⟨R, e, h2⟩ := drop_take hn k x
  rw [e]
  obtain ⟨k', rfl⟩ : ∃ k', k = k' + 1 := ⟨k - 1, by omega⟩
  rw [List.take_succ_cons]
  congr 1
  have hl : (B.take (k' + 1)).length ≤ k' + 1 := by rw [List.length_take]; omega
  rcases h2 with h2 | rfl
  · rw [List.take_append_of_le_length (by omega)]
    exact (List.take_of_length_le (by omega)).symm
  · rw [List.append_nil]
    exact (List.take_of_length_le (by omega)).symm
end

/-- two caches of numbers, which share no block -/
structure Twin (w0 : World) (F : Nat → Prop) (c k : Nat) (A : List (Int × ByteArray)) (G : Nat → Prop) (d l : Nat) (B : List (Int × ByteArray)) (w : World) : Prop where
  a : CI.CX w0 F c k A w
  b : CI.CX w0 G d l B w
  apart : ∀ i, F i → ¬ G i
section
variable {w0 w w' : World} {F F' G G' : Nat → Prop} {c k d l : Nat} {A A' B B' : List (Int × ByteArray)}
theorem Twin.left (h : Twin w0 F c k A G d l B w) (hc : CI.CX w0 F' c k A' w') (hs : Step F F' w w') : Twin w0 F' c k A' G d l B w' :=
  ⟨hc, h.b.stay hs.1 (fun i hi hF => h.apart i hF hi) (fun i hi => h.a.1.low hi), fun i hi hG => by
    rcases hs.2 i hi with h1 | h1
    · exact h.apart i h1 hG
    · have := h.b.lt hG; omega⟩
theorem Twin.right (h : Twin w0 F c k A G d l B w) (hc : CI.CX w0 G' d l B' w') (hs : Step G G' w w') : Twin w0 F c k A G' d l B' w' :=
  ⟨h.a.stay hs.1 (fun i hi => h.apart i hi) (fun i hi => h.b.1.low hi), hc, fun i hi hG => by
    rcases hs.2 i hG with h1 | h1
    · exact h.apart i hi h1
    · have := h.a.lt hi; omega⟩
theorem Twin.later (h : Twin w0 F c k A G d l B w) (x : Below w.heap.size w w') : Twin w0 F c k A G d l B w' :=
  ⟨h.a.later x, h.b.later x, h.apart⟩
end
end Go.Proofs.Ytipnbggbejkhkaa
