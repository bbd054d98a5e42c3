/-
  A text laid into so many bytes, noughts behind it, as a text.
-/
import Derived.Test.YteboacjniokfpaaGreatDoorMD
import Derived.Test.YteboacjniokfpaaGreatDoorMA
namespace Go.Proofs.YteboacjniokfpaaGreatDoor
open Go.RowKit Go Go.Maps SM

/-- 'copy(row, s)', however long the text is -/
theorem run_copy_min {P : Program} (w : World) (dT sT ty elem : TypeId) (g dLen dCap : Nat) (s : ByteArray) (cur : Array Value) (t : TypeId) (f : Nat × Nat) (N : Nat)
    (hu : P.underlying dT = some (.slice elem)) (hs : (P.info? elem).map (·.size) = some 1) (hg : w.heap[g]? = some (.cells cur t f)) (hf : Free f N) (hfit : min dLen s.size ≤ cur.size) (hN : min dLen s.size ≤ N) :
    (Builtin.copy_ #[dT, sT] ty #[.slice (some ⟨g, 0, none⟩) dLen dCap, .string s]).run P w =
      .ok (goInt (min dLen s.size : Nat)) (w.setRow g (Lib.byteCells (s.data.toList.take dLen) ++ cur.toList.drop (min dLen s.size)).toArray) := by
  have hsz : s.data.toList.length = s.size := by simp
  have hlen : (Lib.byteCells (s.data.toList.take dLen)).length = min dLen s.size := by rw [Lib.byteCells_length, List.length_take, hsz]
  have hst := storeCells_free P g 0 t f N hf (Lib.byteCells (s.data.toList.take dLen)) 0 cur w hg (by rw [hlen]; omega) (by rw [hlen]; omega) (Lib.byteCells_one _)
  rw [hlen] at hst
  have hmm : s.size.min dLen = min dLen s.size := Nat.min_comm _ _
  have htk : List.take (min dLen s.size) (List.map (fun b : UInt8 => Value.int IntKind.u8 (b.toNat : Int)) s.data.toList) = Lib.byteCells (s.data.toList.take dLen) := by
    rw [Lib.byteCells, List.map_take]
    conv => rhs; rw [List.take_eq_take_min]
    rw [List.length_map, hsz]
  cases hq : P.info? elem with
  | none => simp [hq] at hs
  | some i =>
    simp [Builtin.copy_, run_underlying hu, Builtin.lenOf, Builtin.firstCells, sizeOf, typeInfo, hq]
    rw [hmm, htk, hst]
    simp [Result.andThen]
/-- a text in so many bytes -/
def filled (s : ByteArray) (n : Nat) : ByteArray := ⟨(s.data.toList.take n ++ List.replicate (n - s.size) 0).toArray⟩
theorem filled_list (s : ByteArray) (n : Nat) : (filled s n).data.toList = s.data.toList.take n ++ List.replicate (n - s.size) 0 := by simp [filled]
theorem size_filled (s : ByteArray) (n : Nat) : (filled s n).size = n := by
  have : (filled s n).data.toList.length = n := by
    rw [filled_list, List.length_append, List.length_take, List.length_replicate]
    have : s.data.toList.length = s.size := by simp
    omega
  exact (len_of _).symm.trans this
set_option maxRecDepth 100000 in
theorem fill_text (w : World) (s : ByteArray) (n : Nat) (h : n ≤ 1048640) : ∃ w1 w2 : World,
    (Instr.makeSlice 74 (.int .i64 (n : Int)) (.int .i64 (n : Int))).run Tryz.prog w = .ok (.slice (some ⟨w.heap.size, 0, none⟩) n n) w1 ∧
    (Builtin.copy_ #[74, 9] 3 #[.slice (some ⟨w.heap.size, 0, none⟩) n n, .string s]).run Tryz.prog w1 = .ok (goInt (min n s.size : Nat)) w2 ∧
    Below w.heap.size w w2 ∧ w.heap.size < w2.heap.size ∧
    ∀ W, Below w2.heap.size w2 W → (convert 74 9 (.slice (some ⟨w.heap.size, 0, none⟩) n n)).run Tryz.prog W = .ok (.string (filled s n)) W := by
  obtain ⟨m1, _⟩ := made_text w n h
  have hinfo : (Tryz.prog.info? 5).map (·.size) = some 1 := by
    obtain ⟨i0, hi, hz0, hz1, hz2⟩ := info_parts info5e
    rw [hi]; simp [hz1]
  have hms : (madeCells #[Value.int .u8 0] n).size = n := by rw [size_madeCells] <;> simp
  have hml := made_bytes n
  have m2 := run_copy_min (P := Tryz.prog) (w.alloc (.cells (madeCells #[.int .u8 0] n) 5)) 74 9 3 5 w.heap.size n n s (madeCells #[.int .u8 0] n) 5 (0, 0) n Tryz.underlying74 hinfo (heap_alloc_new w _) (.inl rfl) (by rw [hms]; omega) (by omega)
  have hYl : Lib.byteCells (s.data.toList.take n) ++ (madeCells #[Value.int .u8 0] n).toList.drop (min n s.size) = Lib.byteCells (filled s n).data.toList := by
    rw [hml, filled_list]
    simp only [Lib.byteCells, List.map_append, ← List.map_drop, List.drop_replicate]
    congr 2
    rw [show n - min n s.size = n - s.size by omega]
  rw [hYl] at m2
  refine ⟨_, _, m1, m2, ?_, ?_, fun W hW => ?_⟩
  · exact ((Below.refl _ w).alloc (Nat.le_refl _) _).trans ⟨rfl, rfl, rfl, by simp, fun k hk => setRow_other _ _ _ _ (by omega)⟩
  · simp
  · have hg : W.heap[w.heap.size]? = some (.cells (Lib.byteCells (filled s n).data.toList).toArray 5 (0, 0)) := keeps_of hW (setRow_heap _ _ _ _ 5 (0, 0) (heap_alloc_new w _))
    have hl : (filled s n).data.toList.length = n := by rw [len_of, size_filled]
    have := run_convert_bytes_back W 74 9 5 ⟨w.heap.size, 0, none⟩ n (filled s n).data.toList Tryz.underlying74 Tryz.underlying5 Tryz.underlying9 (fun j hj => by
      rw [Addr.add_lit, Nat.zero_add]
      have hj' : j < (Lib.byteCells (filled s n).data.toList).toArray.size := by simpa [Lib.byteCells] using hj
      simp only [World.cell?, hg]
      rw [Array.getElem?_eq_getElem hj']
      simp [Lib.byteCells])
    rw [hl] at this
    simpa using this
end Go.Proofs.YteboacjniokfpaaGreatDoor

