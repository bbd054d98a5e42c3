/-
  A reader: bytes, Num, Text, End.
-/
import Derived.Test.YtgeggiafjojgdaaDoorWirD
import Derived.Lib.Walk
import Derived.Lib.BufferWrite
import Derived.Lib.UnsafeStr
import Derived.Laws.MakeOwn
namespace Go.Proofs.YtgeggiafjojgdaaDoor
open Go.RowKit Go

theorem info5e : (Tryd.prog.info? 5).map (fun i => (i.zero, i.size, i.bytes)) = some (some (.int .u8 0), 1, 1) := by kernel_rfl
theorem cells5 : Tryd.prog.cellsOf 5 = 1 := by kernel_rfl

/-! ### A text's copy -/
set_option maxRecDepth 100000 in
set_option maxHeartbeats 1000000 in
theorem copy_any (s : ByteArray) (hs : s.size ≤ 1048576) (w : World) :
    Calls Tryd.prog 58 #[.string s] w fun e w' => e = .returned (.string s) ∧ Below w.heap.size w w' := by
  by_cases h0 : s.size = 0
  · obtain rfl : s = ⟨#[]⟩ := ByteArray.ext (Array.eq_empty_of_size_eq_zero h0)
    clear h0
    go_enter Tryd.func58, Tryd.ntmps58
    go_wp2
    go_ret
    exact ⟨rfl, Below.refl _ _⟩
  · obtain ⟨i0, hi, hz0, hz1, hz2⟩ := info_parts info5e
    have hinfo : (Tryd.prog.info? 5).map (·.size) = some 1 := by rw [hi]; simp [hz1]
    have hmk := run_makeSlice (P := Tryd.prog) (w := w) 33 5 i0 (.int .u8 0) Tryd.underlying33 hi hz0 .i64 .i64 (s.size : Int) (s.size : Int) (by omega) (by omega) (by rw [hz1]; omega) (by rw [hz2]; omega) (by omega)
    rw [hz1, Nat.mul_one, Int.toNat_natCast, show Value.cells (.int .u8 0) = #[.int .u8 0] from rfl] at hmk
    obtain ⟨M, hM⟩ : ∃ M, madeCells #[Value.int .u8 0] s.size = M := ⟨_, rfl⟩
    have hMs : M.size = s.size := by rw [← hM, size_madeCells]
    rw [hM] at hmk
    have hcp := Lib.run_copy_row_string (P := Tryd.prog) (w.alloc (.cells M 5)) 33 9 3 5 w.heap.size 0 s.size s.size s M 5 Tryd.underlying33 hinfo (heap_alloc_new w _) (Nat.le_refl _) (by omega)
    obtain ⟨Y, hY⟩ : ∃ Y, (M.toList.take 0 ++ Lib.byteCells s.data.toList ++ M.toList.drop (0 + s.size)).toArray = Y := ⟨_, rfl⟩
    rw [hY] at hcp
    have hYl : Y.toList = Lib.byteCells s.data.toList := by
      rw [← hY, List.toList_toArray, List.take_zero, List.nil_append, List.drop_of_length_le (by rw [Array.length_toList]; omega), List.append_nil]
    have hsl : s.size = s.data.toList.length := Lib.size_eq s
    have hYs : Y.size = s.size := by rw [← Array.length_toList, hYl, Lib.byteCells_length, hsl]
    obtain ⟨u, hu⟩ : ∃ u, (w.alloc (.cells M 5)).setRow w.heap.size Y = u := ⟨_, rfl⟩
    have hgu : u.heap[w.heap.size]? = some (.cells Y 5 (0, 0)) := by rw [← hu]; exact setRow_heap _ _ M _ 5 (0, 0) (heap_alloc_new w _)
    have hub : Below w.heap.size w u := by
      rw [← hu]
      exact ((Below.refl _ w).alloc (Nat.le_refl _) _).trans ⟨rfl, rfl, rfl, by simp, fun k hk => setRow_other _ _ _ _ (by omega)⟩
    have hne : s.data.toList ≠ [] := fun e => h0 (by rw [hsl, e]; rfl)
    have hus := Lib.run_unsafeString_row (P := Tryd.prog) u 114 3 9 5 Tryd.underlying114 cells5 w.heap.size Y.size (by unfold World.shape?; rw [hgu]) s.data.toList hne (by omega) (by omega)
      (fun j x hx => Lib.cells_of_row hgu Y.size j _ (by rw [List.take_of_length_le (by rw [Array.length_toList]; exact Nat.le_refl _), hYl]; simp [Lib.byteCells, hx]))
    rw [← hsl] at hus
    have HU := Lib.hid hub
    have hn0 : ((s.size : Int) == 0) = false := beq_eq_false_iff_ne.2 (by omega)
    have hp0 : (0 : Int) < (s.size : Int) := by omega
    clear hM hY hYl hgu hub hne h0 hsl hYs hMs
    go_enter Tryd.func58, Tryd.ntmps58
    go_wp2
    go_ret
    exact ⟨rfl, Lib.below_freeze HU.out (p := ⟨w.heap.size, 0, none⟩) (Nat.le_refl _) _⟩
theorem clone_any (s : ByteArray) (hs : s.size ≤ 1048576) (w : World) :
    Calls Tryd.prog 52 #[.string s] w fun e w' => e = .returned (.string s) ∧ Below w.heap.size w w' := by
  go_enter Tryd.func52, Tryd.ntmps52
  go_wp2_with fail
  refine (copy_any s hs _).mono ?_
  rintro e w' ⟨rfl, hB⟩
  go_wp2_with fail
  go_ret
  exact ⟨rfl, hB⟩

/-! ### A reader's steps, by what it answers -/
theorem rd_self (r : Rd) : (⟨(bs r.rest).data.toList, r.err⟩ : Rd) = r := by rw [bs_list]
theorem rnum_any (b : Nat) (r : Rd) (most : Int) (hs : r.rest.length ≤ 281474976710656) (w : World) (hb : w.heap[b]? = some (RO r)) :
    Calls Tryd.prog 41 #[.pointer (some ⟨b, 0, none⟩), .int .i64 most] w fun v w' => v = .returned (.int .i64 (numR r most).1) ∧ Moved b (RO (numR r most).2) w w' := by
  have h := rnum_raw b (bs r.rest) r.err most (by rw [bs_size]; exact hs) w hb
  rwa [rd_self] at h

set_option maxRecDepth 100000 in
set_option maxHeartbeats 1000000 in
theorem rbytes_raw (b : Nat) (s : ByteArray) (e : Int) (n : Nat) (_hs : s.size ≤ 281474976710656) (hn : n ≤ 65536) (w : World) (hb : w.heap[b]? = some (RObj s e)) :
    Calls Tryd.prog 43 #[.pointer (some ⟨b, 0, none⟩), .int .i64 n] w fun v w' => v = .returned (.string (bs (bytesR ⟨s.data.toList, e⟩ n).1)) ∧ Moved b (RO (bytesR ⟨s.data.toList, e⟩ n).2) w w' := by
  have c0 := RObj.c0 hb
  have c1 := RObj.c1 hb
  have fr := RObj.fr hb
  have HM := Moved.refl hb
  by_cases he : e = 0
  · subst he
    rw [errV_zero] at c1
    by_cases hl : n ≤ s.size
    · have HR := Lib.hid (show bytesR ⟨s.data.toList, 0⟩ n = (s.data.toList.take n, ⟨s.data.toList.drop n, 0⟩) by unfold bytesR; rw [if_pos rfl, if_pos (by simpa using hl)])
      have hx := Lib.hid (show bs (s.data.toList.drop n) = s.extract n s.size by rw [← extract_drop]; rfl)
      have hy := Lib.hid (show bs (s.data.toList.take n) = s.extract 0 n by rw [← extract_take]; rfl)
      have hl1 : (n : Int) ≤ (s.size : Int) := by omega
      have hz : (s.extract 0 n).size ≤ 1048576 := by simp; omega
      have HZ := Lib.hid hz
      clear hz hl
      go_enter Tryd.func43, Tryd.ntmps43
      go_wp2_with fail
      refine (clone_any (s.extract 0 n) HZ.out _).mono ?_
      rintro e w1 ⟨rfl, hB⟩
      have hM1 := HM.and hB
      have fr1 := RObj.fr hM1.here
      have c01 := RObj.c0 hM1.here
      have HM2 := Lib.hid (hM1.set0 (s.extract n s.size))
      clear HM hB hM1 c0 c1 fr
      go_wp2
      go_ret
      rw [HR.out, hy.out]
      exact ⟨rfl, by unfold RO; rw [hx.out]; exact HM2.out⟩
    · have HR := Lib.hid (show bytesR ⟨s.data.toList, 0⟩ n = ([], ⟨s.data.toList, 32⟩) by unfold bytesR; rw [if_pos rfl, if_neg (by simpa using hl)])
      have hl1 : (s.size : Int) < (n : Int) := by omega
      have hm := HM.set1 32
      have c2 := RObj.c1 hm.here
      have HM2 := Lib.hid hm
      rw [errV_ne (by decide)] at c2
      have c3 : (w.setCell ⟨b, 1, none⟩ (flt 32)).cell? ⟨b, 1, none⟩ = some (flt 32) := c2
      clear hm hl HM
      go_enter Tryd.func43, Tryd.ntmps43
      go_wp2
      go_ret
      rw [HR.out]
      exact ⟨rfl, HM2.out⟩
  · have HR := Lib.hid (show bytesR ⟨s.data.toList, e⟩ n = ([], ⟨s.data.toList, e⟩) by unfold bytesR; rw [if_neg he])
    rw [errV_ne he] at c1
    clear he
    go_enter Tryd.func43, Tryd.ntmps43
    go_wp2
    go_ret
    rw [HR.out]
    exact ⟨rfl, HM⟩
theorem rbytes_any (b : Nat) (r : Rd) (n : Nat) (hs : r.rest.length ≤ 281474976710656) (hn : n ≤ 65536) (w : World) (hb : w.heap[b]? = some (RO r)) :
    Calls Tryd.prog 43 #[.pointer (some ⟨b, 0, none⟩), .int .i64 n] w fun v w' => v = .returned (.string (bs (bytesR r n).1)) ∧ Moved b (RO (bytesR r n).2) w w' := by
  have h := rbytes_raw b (bs r.rest) r.err n (by rw [bs_size]; exact hs) hn w hb
  rwa [rd_self] at h
theorem RO.c1 {w : World} {b : Nat} {r : Rd} (h : w.heap[b]? = some (RO r)) : w.cell? ⟨b, 1, none⟩ = some (errV r.err) := RObj.c1 h
theorem RO.c0 {w : World} {b : Nat} {r : Rd} (h : w.heap[b]? = some (RO r)) : w.cell? ⟨b, 0, none⟩ = some (.string (bs r.rest)) := RObj.c0 h

/-- what is told of a number that was read -/
def numV (p : Nat × Rd) : Value := .tuple #[.int .i64 p.1, .int .i64 p.2.err]
def textV (p : List UInt8 × Rd) : Value := .tuple #[.string (bs p.1), .int .i64 p.2.err]

theorem qnum_any (b : Nat) (hb0 : b ≠ 0) (r : Rd) (most : Int) (hs : r.rest.length ≤ 281474976710656) (w : World) (hg : GE w) (hb : w.heap[b]? = some (RO r)) :
    Calls Tryd.prog 29 #[.pointer (some ⟨b, 0, none⟩), .int .i64 most] w fun v w' => v = .returned (numV (numR r most)) ∧ Moved b (RO (numR r most).2) w w' := by
  obtain ⟨p, hp⟩ : ∃ p, numR r most = p := ⟨_, rfl⟩
  have C := rnum_any b r most hs
  rw [hp] at C ⊢
  go_enter Tryd.func29, Tryd.ntmps29
  go_wp2_with fail
  refine (C _ hb).mono ?_
  rintro e w1 ⟨rfl, hM⟩
  have c1 := RO.c1 hM.here
  have hg1 := hg.moved hM hb0
  go_wp2_with fail
  refine (errno_any _ _ hg1).mono ?_
  rintro e w2 ⟨rfl, hB⟩
  go_wp2_with fail
  go_ret2
  exact ⟨rfl, hM.and hB⟩

theorem bytesR_rest (r : Rd) (n : Nat) : (bytesR r n).2.rest.length ≤ r.rest.length := by
  unfold bytesR; split
  · split
    · simp
    · simp
  · simp
theorem numR_rest (r : Rd) (m : Int) : (numR r m).2.rest.length ≤ r.rest.length := by
  unfold numR; split
  · split
    · simp
    · simp
    · split <;> simp
  · simp
theorem textR_rest (r : Rd) (m : Int) : (textR r m).2.rest.length ≤ r.rest.length := Nat.le_trans (bytesR_rest _ _) (numR_rest _ _)
theorem low_walk (m : Int) : min m 65536 = low m := by
  unfold low; rw [Int.min_def]

theorem qend_any (b : Nat) (r : Rd) (w : World) (hg : GE w) (hb : w.heap[b]? = some (RO r)) :
    Calls Tryd.prog 31 #[.pointer (some ⟨b, 0, none⟩)] w fun v w' => v = .returned (.int .i64 (endR r)) ∧ Below w.heap.size w w' := by
  have c0 := RO.c0 hb
  have c1 := RO.c1 hb
  by_cases he : r.err = 0
  · by_cases hr : r.rest = []
    · have HR := Lib.hid (show endR r = 0 by unfold endR; rw [if_pos he, if_pos hr])
      rw [hr] at c0
      rw [he, errV_zero] at c1
      rw [show bs [] = ⟨#[]⟩ from rfl] at c0
      clear he hr
      go_enter Tryd.func31, Tryd.ntmps31
      go_wp2_with fail
      refine (errno_nil _).mono ?_
      rintro e w3 ⟨rfl, hB⟩
      go_wp2_with fail
      go_ret
      rw [HR.out]
      exact ⟨rfl, hB⟩
    · have HR := Lib.hid (show endR r = 32 by unfold endR; rw [if_pos he, if_neg hr])
      have hne : (bs r.rest).toList.isEmpty = false := by
        rw [ByteArray.toList_eq, bs_list]
        simpa using hr
      rw [he, errV_zero] at c1
      generalize bs r.rest = s at *
      clear he hr
      go_enter Tryd.func31, Tryd.ntmps31
      go_wp2
      go_ret
      rw [HR.out]
      exact ⟨rfl, Below.refl _ _⟩
  · have HR := Lib.hid (show endR r = r.err by unfold endR; rw [if_neg he])
    rw [errV_ne he] at c1
    have C := fun w => errno_flt r.err w
    clear he
    generalize r.err = e0 at *
    go_enter Tryd.func31, Tryd.ntmps31
    go_wp2_with fail
    refine (C _ hg).mono ?_
    rintro e w3 ⟨rfl, hB⟩
    go_wp2_with fail
    go_ret
    rw [HR.out]
    exact ⟨rfl, hB⟩
end Go.Proofs.YtgeggiafjojgdaaDoor

