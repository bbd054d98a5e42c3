/-
  A text's copy (strings.Clone), of any size.
-/
import Derived.Test.YtiiplchakanomaaKitW
import Derived.Lib.Walk
import Derived.Lib.BufferWrite
import Derived.Lib.UnsafeStr
import Derived.Laws.MakeOwn
namespace Go.Proofs.Ytiiplchakanomaa
open Go.RowKit Go

theorem info5e : (Try.prog.info? 5).map (fun i => (i.zero, i.size, i.bytes)) = some (some (.int .u8 0), 1, 1) := by kernel_rfl
theorem cells5 : Try.prog.cellsOf 5 = 1 := by kernel_rfl

/-! ### A text's copy -/
set_option maxRecDepth 100000 in
set_option maxHeartbeats 1000000 in
theorem copy_any (s : ByteArray) (hs : s.size ≤ 140737488351232) (w : World) :
    Calls Try.prog 26 #[.string s] w fun e w' => e = .returned (.string s) ∧ Below w.heap.size w w' := by
  by_cases h0 : s.size = 0
  · obtain rfl : s = ⟨#[]⟩ := ByteArray.ext (Array.eq_empty_of_size_eq_zero h0)
    clear h0
    go_enter Try.func26, Try.ntmps26
    go_wp2
    go_ret
    exact ⟨rfl, Below.refl _ _⟩
  · obtain ⟨i0, hi, hz0, hz1, hz2⟩ := info_parts info5e
    have hinfo : (Try.prog.info? 5).map (·.size) = some 1 := by rw [hi]; simp [hz1]
    have hmk := run_make (P := Try.prog) w 48 5 i0 (.int .u8 0) Try.underlying48 hi hz0 .i64 .i64 (s.size : Int) (s.size : Int) (by omega) (by omega) (by rw [hz2]; omega) (by omega)
    rw [hz1, Nat.mul_one, Int.toNat_natCast, show Value.cells (.int .u8 0) = #[.int .u8 0] from rfl] at hmk
    obtain ⟨M, hM⟩ : ∃ M, madeCells #[Value.int .u8 0] s.size = M := ⟨_, rfl⟩
    have hMs : M.size = s.size := by rw [← hM, size_madeCells]
    rw [hM] at hmk
    have hcp := Lib.run_copy_row_string (P := Try.prog) (w.alloc (.cells M 5)) 48 9 3 5 w.heap.size 0 s.size s.size s M 5 Try.underlying48 hinfo (heap_alloc_new w _) (Nat.le_refl _) (by omega)
    obtain ⟨Y, hY⟩ : ∃ Y, (M.toList.take 0 ++ Lib.byteCells s.data.toList ++ M.toList.drop (0 + s.size)).toArray = Y := ⟨_, rfl⟩
    rw [hY] at hcp
    have hYl : Y.toList = Lib.byteCells s.data.toList := by
      rw [← hY, List.toList_toArray, List.take_zero, List.nil_append, List.drop_of_length_le (by rw [Array.length_toList]; omega), List.append_nil]
    have hsl : s.size = s.data.toList.length := Lib.size_eq s
    have hYs : Y.size = s.size := by rw [← Array.length_toList, hYl, Lib.byteCells_length, hsl]
    obtain ⟨u, hu⟩ : ∃ u, (w.alloc (.cells M 5)).setRow w.heap.size Y = u := ⟨_, rfl⟩
    have hgu : u.heap[w.heap.size]? = some (.cells Y 5 (0, 0)) := by rw [← hu]; exact setRow_heap _ _ M _ 5 (0, 0) (heap_alloc_new w _)
    have hub : Below w.heap.size w u := by
      rw [← hu]
      exact ((Below.refl _ w).alloc (Nat.le_refl _) _).trans ⟨rfl, rfl, rfl, by simp, fun k hk => setRow_other _ _ _ _ (by omega)⟩
    have hne : s.data.toList ≠ [] := fun e => h0 (by rw [hsl, e]; rfl)
    have hus := Lib.run_unsafeString_row (P := Try.prog) u 66 3 9 5 Try.underlying66 cells5 w.heap.size Y.size (by unfold World.shape?; rw [hgu]) s.data.toList hne (by omega) (by omega)
      (fun j x hx => Lib.cells_of_row hgu Y.size j _ (by rw [List.take_of_length_le (by rw [Array.length_toList]; exact Nat.le_refl _), hYl]; simp [Lib.byteCells, hx]))
    rw [← hsl] at hus
    have HU := Lib.hid hub
    have hn0 : ((s.size : Int) == 0) = false := beq_eq_false_iff_ne.2 (by omega)
    have hp0 : (0 : Int) < (s.size : Int) := by omega
    clear hM hY hYl hgu hub hne h0 hsl hYs hMs
    go_enter Try.func26, Try.ntmps26
    go_wp2
    go_ret
    exact ⟨rfl, Lib.below_freeze HU.out (p := ⟨w.heap.size, 0, none⟩) (Nat.le_refl _) _⟩
theorem clone_any (s : ByteArray) (hs : s.size ≤ 140737488351232) (w : World) :
    Calls Try.prog 19 #[.string s] w fun e w' => e = .returned (.string s) ∧ Below w.heap.size w w' := by
  go_enter Try.func19, Try.ntmps19
  go_wp2_with fail
  refine (copy_any s hs _).mono ?_
  rintro e w' ⟨rfl, hB⟩
  go_wp2_with fail
  go_ret
  exact ⟨rfl, hB⟩

end Go.Proofs.Ytiiplchakanomaa

