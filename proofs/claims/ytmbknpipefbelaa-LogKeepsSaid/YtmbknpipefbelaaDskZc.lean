/-
  The reference's disk: Bad.
-/
import Derived.Test.YtmbknpipefbelaaDskZb
namespace Go.Proofs.Ytmbknpipefbelaa
open Go.RowKit Go Go.Maps SM

theorem infoInt : (Try.prog.info? 3).map (fun i => (i.zero, i.size, i.bytes)) = some (some (.int .i64 0), 1, 8) := by kernel_rfl
def filt (zs : List Int) (n : Int) (k : Nat) : List Int := (zs.take k).filter fun z => decide (z ≠ n)
theorem filt_skip {zs : List Int} {n : Int} {k : Nat} (h : k < zs.length) (e : zs[k] = n) : filt zs n (k + 1) = filt zs n k := by
  simp [filt, List.take_succ_eq_append_getElem h, e]
theorem filt_take {zs : List Int} {n : Int} {k : Nat} (h : k < zs.length) (e : zs[k] ≠ n) : filt zs n (k + 1) = filt zs n k ++ [zs[k]] := by
  have e2 : ([zs[k]].filter fun z => decide (z ≠ n)) = [zs[k]] := by rw [List.filter_cons, if_pos (decide_eq_true e), List.filter_nil]
  unfold filt
  rw [List.take_succ_eq_append_getElem h, List.filter_append, e2]
theorem filt_le (zs : List Int) (n : Int) (k : Nat) : (filt zs n k).length ≤ zs.length :=
  Nat.le_trans (List.length_filter_le _ _) (by rw [List.length_take]; omega)
theorem filt_mem (zs : List Int) (n j : Int) : j ∈ filt zs n zs.length ↔ j ∈ zs ∧ j ≠ n := by simp [filt]
theorem intVals_snoc (l : List Int) (z : Int) : intVals l ++ [.int .i64 z] = intVals (l ++ [z]) := by simp [intVals]

section
variable {r base : Nat} {s : DS} {zs : List Int} {v0 v1 v2 : Value} {kp : ByteArray} {w w' : World}
/-- the list of bad ones is another one -/
theorem RefAt.newBad (h : RefAt r base s zs v0 v1 v2 kp w) (hB : Below w.heap.size w w') {zs' : List Int} {v' : Value} (hr : w'.ownsRow w.heap.size 3 1 v' zs'.length (intVals zs')) (hf : zs'.length ≤ 1099511627776) {s' : DS} (hb : ∀ k, decide (k ∈ zs') = s'.bad k)
    (h1 : s'.stay = s.stay) (h2 : s'.loose = s.loose) (h3 : s'.made = s.made) (h4 : s'.armed = s.armed) (h5 : s'.keep = s.keep) (h6 : s'.dead = s.dead) :
    RefAt r base s' zs' v0 v1 v' kp (w'.setCell ⟨r, 2, none⟩ v') := by
  have h' := h.below hB
  have hlt := lt_of_heap h.obj
  refine ⟨by rw [heap_set h'.obj, h3, h4, h6]; simp [RO], by rw [h1]; exact owns_other h'.st h'.obj (by decide) _, by rw [h2]; exact owns_other h'.lo h'.obj (by decide) _, owns_other (hr.mono (by have := h.low; omega)) h'.obj (by decide) _, hb, hf, by rw [h4, h5]; exact h.keep, h.kple, h.low⟩

end
end Go.Proofs.Ytmbknpipefbelaa
