/-
  A row of bytes that may bear the run-time's mark behind the bytes that count ('[]byte(s)'): a store, a text copied into it.
-/
import Derived.Test.YtmbknpipefbelaaKitW
import Derived.Lib.BufferWrite
namespace Go.Proofs.Ytmbknpipefbelaa
open Go.RowKit Go

/-- no cell ahead of N bears the mark -/
def Free (f : Nat × Nat) (N : Nat) : Prop := f = (0, 0) ∨ N ≤ f.1
theorem frozen_free {w : World} {g i N : Nat} {cur : Array Value} {t : TypeId} {f : Nat × Nat} (h : w.heap[g]? = some (.cells cur t f)) (hf : Free f N) (hi : i < N) : w.frozen? ⟨g, i, none⟩ = false := by
  rcases hf with rfl | hf
  · simp [World.frozen?, h]
  · have : ¬ f.1 ≤ i := by omega
    simp [World.frozen?, h, this]
theorem storeCells_free (P : Program) (g o : Nat) (t : TypeId) (f : Nat × Nat) (N : Nat) (hf : Free f N) : ∀ (vs : List Value) (i : Nat) (cur : Array Value) (w : World), w.heap[g]? = some (.cells cur t f) → o + i + vs.length ≤ cur.size → o + i + vs.length ≤ N → (∀ v ∈ vs, v.oneCell' = true) →
    (storeCells ⟨g, o, none⟩ vs i).run P w = .ok () (w.setRow g (cur.toList.take (o + i) ++ vs ++ cur.toList.drop (o + i + vs.length)).toArray)
  | [], i, cur, w, hg, _, _, _ => by
    simp only [storeCells, List.append_nil, List.length_nil, Nat.add_zero, List.take_append_drop, Array.toArray_toList]
    rw [setRow_self w g cur t f hg]
    rfl
  | v :: r, i, cur, w, hg, hl, hN, h1 => by
    rw [List.length_cons] at hl hN
    have hi : o + i < cur.size := by omega
    have hadd : (⟨g, o, none⟩ : Addr).add i = ⟨g, o + i, none⟩ := Addr.add_lit ..
    have hcell : w.cell? ⟨g, o + i, none⟩ = some cur[o + i] := by simp [World.cell?, hg, hi]
    have hfro := frozen_free hg hf (show o + i < N by omega)
    have hst : (store ((⟨g, o, none⟩ : Addr).add i) v).run P w = .ok () (w.setRow g (cur.setIfInBounds (o + i) v)) := by
      rw [hadd, run_store P w _ v _ (h1 v (by simp)), hcell]
      simp [hfro, setCell_eq_setRow w g (o + i) cur t f v hg]
    have ih := storeCells_free P g o t f N hf r (i + 1) (cur.setIfInBounds (o + i) v) (w.setRow g (cur.setIfInBounds (o + i) v)) (setRow_heap w g cur _ t _ hg) (by simp; omega) (by omega) (fun x hx => h1 x (by simp [hx]))
    simp only [storeCells, Sem.run_bind, hst, Result.andThen_ok, ih, setRow_setRow]
    congr 3
    apply List.ext_getElem?
    intro j
    simp only [Array.toList_setIfInBounds, List.getElem?_append, List.getElem?_take, List.getElem?_drop, List.getElem?_set, List.length_append, List.length_take, List.length_set, List.length_cons, Array.length_toList, List.getElem?_cons]
    have e1 : min (o + (i + 1)) cur.size = o + i + 1 := by omega
    have e2 : min (o + i) cur.size = o + i := by omega
    rw [e1, e2]
    by_cases h2 : j < o + i
    · have : j < o + i + 1 + r.length := by omega
      have h4 : j < o + (i + 1) := by omega
      have h5 : j < o + i + (r.length + 1) := by omega
      have h6 : j < o + i + 1 := by omega
      have h7 : ¬ o + i = j := by omega
      simp [h2, this, h4, h5, h6, h7]
    · by_cases h3 : j = o + i
      · subst h3
        simp [hi]
        omega
      · by_cases h4 : j < o + i + 1 + r.length
        · have h5 : ¬ j < o + i + 1 := by omega
          have h6 : j < o + i + (r.length + 1) := by omega
          have h7 : j - (o + i) ≠ 0 := by omega
          have h8 : j - (o + i) - 1 = j - (o + i + 1) := by omega
          simp [h2, h4, h5, h6, h7, h8]
        · have h5 : ¬ j < o + i + (r.length + 1) := by omega
          have h6 : ¬ o + i = o + (i + 1) + r.length + (j - (o + i + 1 + r.length)) := by omega
          have h7 : o + (i + 1) + r.length + (j - (o + i + 1 + r.length)) = o + i + (r.length + 1) + (j - (o + i + (r.length + 1))) := by omega
          rw [if_neg h4, if_neg h5, if_neg h6, h7]
/-- 'copy(row[o:], s)' -/
theorem run_copy_free {P : Program} (w : World) (dT sT ty elem : TypeId) (g o dLen dCap : Nat) (s : ByteArray) (cur : Array Value) (t : TypeId) (f : Nat × Nat) (N : Nat)
    (hu : P.underlying dT = some (.slice elem)) (hs : (P.info? elem).map (·.size) = some 1) (hg : w.heap[g]? = some (.cells cur t f)) (hf : Free f N) (hle : s.size ≤ dLen) (hfit : o + s.size ≤ cur.size) (hN : o + s.size ≤ N) :
    (Builtin.copy_ #[dT, sT] ty #[.slice (some ⟨g, o, none⟩) dLen dCap, .string s]).run P w =
      .ok (goInt s.size) (w.setRow g (cur.toList.take o ++ Lib.byteCells s.data.toList ++ cur.toList.drop (o + s.size)).toArray) := by
  have hlen : (Lib.byteCells s.data.toList).length = s.size := by rw [Lib.byteCells_length]; simp
  have hst := storeCells_free P g o t f N hf (Lib.byteCells s.data.toList) 0 cur w hg (by rw [hlen]; omega) (by rw [hlen]; omega) (Lib.byteCells_one _)
  rw [hlen] at hst
  have htk : List.take s.size (List.map (fun b : UInt8 => Value.int IntKind.u8 (b.toNat : Int)) s.data.toList) = Lib.byteCells s.data.toList := List.take_of_length_le (by rw [List.length_map]; simp)
  cases hq : P.info? elem with
  | none => simp [hq] at hs
  | some i =>
    simp [Builtin.copy_, run_underlying hu, Builtin.lenOf, Builtin.firstCells, sizeOf, typeInfo, hq, Nat.min_eq_left hle]
    rw [htk, hst]
    simp [Result.andThen]
end Go.Proofs.Ytmbknpipefbelaa
