/-
  The law's notes, new.
-/
import Derived.Test.YthnpdiopaeommaaGreatBlkN
namespace Go.Proofs.YthnpdiopaeommaaGreat
open Go.ChangeShapes Go.WideShapes Go.ChangeAt Go.RowKit Go Go.Maps SM

theorem infoS8n : (Tryz.prog.info? 9).map (fun i => (i.zero, i.size, i.bytes)) = some (some (.string ⟨#[]⟩), 1, 16) := by kernel_rfl
theorem infoB8n : (Tryz.prog.info? 4).map (fun i => (i.zero, i.size, i.bytes)) = some (some (.bool false), 1, 1) := by kernel_rfl
theorem make_strs (W : World) : (Instr.makeSlice 38 (.int .i64 8) (.int .i64 8)).run Tryz.prog W = .ok (.slice (some ⟨W.heap.size, 0, none⟩) 8 8) (W.alloc (strsO fun _ => none0)) := by
  obtain ⟨i0, hi, hz0, hz1, hz2⟩ := info_parts infoS8n
  have h := run_makeSlice (P := Tryz.prog) (w := W) 38 9 i0 (.string ⟨#[]⟩) Tryz.underlying38 hi hz0 .i64 .i64 8 8 (by omega) (by omega) (by rw [hz1]; omega) (by rw [hz2]; omega) (by omega)
  rw [hz1, show madeCells (Value.string ⟨#[]⟩).cells (Int.toNat 8 * 1) = ((List.range 8).map (fun _ => Value.string none0)).toArray by kernel_rfl] at h
  exact h
theorem make_bools (W : World) : (Instr.makeSlice 39 (.int .i64 8) (.int .i64 8)).run Tryz.prog W = .ok (.slice (some ⟨W.heap.size, 0, none⟩) 8 8) (W.alloc (boolsO fun _ => false)) := by
  obtain ⟨i0, hi, hz0, hz1, hz2⟩ := info_parts infoB8n
  have h := run_makeSlice (P := Tryz.prog) (w := W) 39 4 i0 (.bool false) Tryz.underlying39 hi hz0 .i64 .i64 8 8 (by omega) (by omega) (by rw [hz1]; omega) (by rw [hz2]; omega) (by omega)
  rw [hz1, show madeCells (Value.bool false).cells (Int.toNat 8 * 1) = ((List.range 8).map (fun _ => Value.bool false)).toArray by kernel_rfl] at h
  exact h
theorem five (w : World) (A B C D E : Obj) : (((((w.alloc A).alloc B).alloc C).alloc D).alloc E).heap[w.heap.size]? = some A ∧ (((((w.alloc A).alloc B).alloc C).alloc D).alloc E).heap[w.heap.size + 1]? = some B ∧ (((((w.alloc A).alloc B).alloc C).alloc D).alloc E).heap[w.heap.size + 1 + 1]? = some C ∧
    (((((w.alloc A).alloc B).alloc C).alloc D).alloc E).heap[w.heap.size + 1 + 1 + 1]? = some D ∧ (((((w.alloc A).alloc B).alloc C).alloc D).alloc E).heap[w.heap.size + 1 + 1 + 1 + 1]? = some E := by
  have a := heap_alloc_new w A
  have b := heap_alloc_new (w.alloc A) B
  have c := heap_alloc_new ((w.alloc A).alloc B) C
  have d := heap_alloc_new (((w.alloc A).alloc B).alloc C) D
  have e := heap_alloc_new ((((w.alloc A).alloc B).alloc C).alloc D) E
  simp only [World.size_alloc] at a b c d e
  exact ⟨heap_alloc_old (heap_alloc_old (heap_alloc_old (heap_alloc_old a _) _) _) _, heap_alloc_old (heap_alloc_old (heap_alloc_old b _) _) _, heap_alloc_old (heap_alloc_old c _) _, heap_alloc_old d _, e⟩
theorem below5 (w : World) (A B C D E : Obj) : Below w.heap.size w (((((w.alloc A).alloc B).alloc C).alloc D).alloc E) :=
  (((((Below.refl _ w).alloc (Nat.le_refl _) _).alloc (by simp) _).alloc (by simp; omega) _).alloc (by simp; omega) _).alloc (by simp; omega) _
set_option maxRecDepth 100000 in
set_option maxHeartbeats 8000000 in
theorem newNotes_any (w : World) :
    Calls Tryz.prog 13 #[] w fun e w' => ∃ q hp np sp lp, e = .returned (.pointer (some ⟨q, 0, none⟩)) ∧ NotesAt w.heap.size q hp np sp lp NT.new w' ∧ Below w.heap.size w w' := by
  have MS := fun W => make_strs W
  have MB := fun W => make_bools W
  generalize hA : strsO (fun _ => none0) = A at MS
  generalize hB : boolsO (fun _ => false) = B at MB
  have HA := Lib.hid hA
  have HB := Lib.hid hB
  clear hA hB
  go_enter Tryz.func13, Tryz.ntmps13
  go_wp2
  go_region
  all_goals (
    go_wp2
    go_ret
    refine ⟨_, _, _, _, _, rfl, NotesAt.drew ⟨(five _ _ _ _ _ _).2.2.2.2, ?_, ?_, ?_, ?_, ?_, ?_⟩, (below5 _ _ _ _ _ _).drew⟩
    · rw [show strsO NT.new.has = A from HA.out]
      first | exact (five _ _ _ _ _ _).1 | exact (five _ _ _ _ _ _).2.1 | exact (five _ _ _ _ _ _).2.2.1 | exact (five _ _ _ _ _ _).2.2.2.1
    · rw [show strsO NT.new.now = A from HA.out]
      first | exact (five _ _ _ _ _ _).1 | exact (five _ _ _ _ _ _).2.1 | exact (five _ _ _ _ _ _).2.2.1 | exact (five _ _ _ _ _ _).2.2.2.1
    · rw [show boolsO NT.new.sure = B from HB.out]
      first | exact (five _ _ _ _ _ _).1 | exact (five _ _ _ _ _ _).2.1 | exact (five _ _ _ _ _ _).2.2.1 | exact (five _ _ _ _ _ _).2.2.2.1
    · rw [show boolsO NT.new.loose = B from HB.out]
      first | exact (five _ _ _ _ _ _).1 | exact (five _ _ _ _ _ _).2.1 | exact (five _ _ _ _ _ _).2.2.1 | exact (five _ _ _ _ _ _).2.2.2.1
    · omega
    · omega)
end Go.Proofs.YthnpdiopaeommaaGreat

