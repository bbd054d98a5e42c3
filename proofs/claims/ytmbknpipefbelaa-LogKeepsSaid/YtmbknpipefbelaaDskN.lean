/-
  A disk: New, Open, Clone.
-/
import Derived.Test.YtmbknpipefbelaaDskE
namespace Go.Proofs.Ytmbknpipefbelaa
open Go.RowKit Go Go.Maps SM

section
variable {b g cap m : Nat} {B : ByteArray} {a : Int} {s : DS} {cur : Array Value} {D : DataW Unit} {w w' : World}

theorem over_any (g N cap : Nat) (w : World) :
    Calls Try.prog 44 #[.slice (some ⟨g, 0, none⟩) N cap] w fun e w' => e = .returned (.pointer (some ⟨w.heap.size + 1, 0, none⟩)) ∧ (w.alloc (.map #[] 0)).alloc (.cells #[.slice (some ⟨g, 0, none⟩) N cap, .map (some w.heap.size), .string ⟨#[]⟩, .int .i64 0, .int .i64 0, .string ⟨#[]⟩, .bool false] 68) = w' := by
  have hmm := @run_makeMap Try.prog
  go_enter Try.func44, Try.ntmps44
  go_wp2
  go_ret
  exact ⟨rfl, rfl⟩

/-! ### a copy of a row, of a map -/
/-! ### New -/
def zero64 : ByteArray := ⟨(List.replicate 64 (0 : UInt8)).toArray⟩
theorem size_zero64 : zero64.size = 64 := by simp [zero64, ByteArray.size]
def blank (n : Nat) : List ByteArray := List.replicate n zero64
theorem blank_size (n : Nat) : ∀ b ∈ blank n, b.size = 64 := fun b hb => by rw [List.eq_of_mem_replicate hb]; exact size_zero64
theorem flat_blank : ∀ n : Nat, flat (blank n) = List.replicate (64 * n) (0 : UInt8)
  | 0 => rfl
  | n + 1 => by
    have h := flat_blank n
    show flat (zero64 :: blank n) = _
    rw [flat_cons, h, show 64 * (n + 1) = 64 + 64 * n by omega, ← List.replicate_append_replicate]
    simp [zero64]
theorem blank_ok {n : Nat} (h1 : 1 ≤ n) (h2 : n ≤ 16384) : (fresh (blank n)).Ok := fresh_ok (by simpa [blank] using h1) (by simpa [blank] using h2) (blank_size n)
theorem made_bytes (k : Nat) : (madeCells #[.int .u8 0] k).toList = Lib.byteCells (List.replicate k (0 : UInt8)) := by
  rw [toList_madeCells_one]; simp [Lib.byteCells]
theorem made_row (w : World) (k : Nat) (h : k ≤ 1048640) : RowIs w.heap.size k (List.replicate k (0 : UInt8)) (w.alloc (.cells (madeCells #[.int .u8 0] k) 5)) (madeCells #[.int .u8 0] k) :=
  ⟨⟨_, heap_alloc_new _ _, .inl rfl⟩, size_madeCells _ _, by unfold maxLen; omega, by simp, by rw [made_bytes, List.length_replicate, List.take_of_length_le (by rw [Lib.byteCells_length]; simp)]⟩

/-- what a new disk's blocks are -/
theorem disk_new {w1 : World} {st : List ByteArray} (hok : (fresh st).Ok) {g cap : Nat} {cur : Array Value} (hr : RowIs g cap (flat st) w1 cur) :
    DiskAt (w1.heap.size + 1) g w1.heap.size (fresh st) ((w1.alloc (.map #[] 0)).alloc (.cells #[.slice (some ⟨g, 0, none⟩) (64 * st.length) cap, .map (some w1.heap.size), .string ⟨#[]⟩, .int .i64 0, .int .i64 0, .string ⟨#[]⟩, .bool false] 68)) := by
  have hs : (w1.alloc (.map #[] 0)).heap.size = w1.heap.size + 1 := by simp
  refine ⟨hok, cap, ⟨#[]⟩, cur, .map [], ?_, ?_, ?_, Nat.zero_le _, fun k => ?_⟩
  · have := heap_alloc_new (w1.alloc (.map #[] 0)) (.cells #[.slice (some ⟨g, 0, none⟩) (64 * st.length) cap, .map (some w1.heap.size), .string ⟨#[]⟩, .int .i64 0, .int .i64 0, .string ⟨#[]⟩, .bool false] 68)
    rw [hs] at this
    rw [this]
    rfl
  · exact hr.stay (Stir.of_below (F := fun _ => False) (((Below.refl _ w1).alloc (Nat.le_refl _) _).alloc (by simp) _)) (fun h => h)
  · exact (looseAt_new w1).below ((Below.refl _ _).alloc (Nat.le_refl _) _)
  · simp [bitI, bit, gd, fresh]

set_option maxRecDepth 100000 in
theorem new_yes (n : Nat) (h1 : 1 ≤ n) (h2 : n ≤ 16384) (w : World) :
    Calls Try.prog 28 #[.int .i64 n] w fun e w' => ∃ b g m, e = .returned (.tuple #[.pointer (some ⟨b, 0, none⟩), .int .i64 0]) ∧ DiskAt b g m (fresh (blank n)) w' ∧ (w.heap.size ≤ b ∧ w.heap.size ≤ g ∧ w.heap.size ≤ m) ∧ Below w.heap.size w w' := by
  obtain ⟨i0, hi, hz0, hz1, hz2⟩ := info_parts info5e
  have hmk := run_makeSlice (P := Try.prog) (w := w) 43 5 i0 (.int .u8 0) Try.underlying43 hi hz0 .i64 .i64 ((64 * n : Nat) : Int) ((64 * n : Nat) : Int) (by omega) (by omega) (by rw [hz1]; omega) (by rw [hz2]; omega) (by omega)
  rw [hz1, Nat.mul_one, Int.toNat_natCast, show Value.cells (.int .u8 0) = #[.int .u8 0] from rfl] at hmk
  have hrow := made_row w (64 * n) (by omega)
  rw [← flat_blank] at hrow
  obtain ⟨M, hM⟩ : ∃ M, madeCells #[Value.int .u8 0] (64 * n) = M := ⟨_, rfl⟩
  rw [hM] at hmk hrow
  have hX := disk_new (blank_ok h1 h2) hrow
  rw [show (blank n).length = n by simp [blank]] at hX
  obtain ⟨w1, hw1⟩ : ∃ w1, w.alloc (.cells M 5) = w1 := ⟨_, rfl⟩
  have hs1 : w1.heap.size = w.heap.size + 1 := by rw [← hw1]; simp
  have hB1 : Below w.heap.size w w1 := by rw [← hw1]; exact (Below.refl _ w).alloc (Nat.le_refl _) _
  rw [hw1] at hX hmk
  have HX := Lib.hid hX
  have HS := Lib.hid hs1
  have HB := Lib.hid hB1
  have C := fun w => over_any w1.heap.size (64 * n) (64 * n) w
  have e64 : ((64 * n : Nat) : Int) = (n : Int) * 64 := by omega
  rw [e64] at hmk
  have C := fun gg w => over_any gg (64 * n) (64 * n) w
  clear hX hs1 hB1 hrow hM hi hz0 hz1 hz2 hw1 e64
  go_enter Try.func28, Try.ntmps28
  go_wp2_with fail
  refine (C _ _).mono ?_
  rintro e w2 ⟨rfl, rfl⟩
  go_wp2
  go_ret2
  exact ⟨_, _, _, rfl, HX.out, ⟨by have := HS.out; omega, Nat.le_refl _, by have := HS.out; omega⟩, (HB.out.alloc (by have := HS.out; omega) _).alloc (by have := HS.out; simp; omega) _⟩

theorem new_no (n : Int) (h : n < 1 ∨ 16384 < n) (w : World) :
    Calls Try.prog 28 #[.int .i64 n] w fun e w' => e = .returned (.tuple #[.pointer none, .int .i64 60]) ∧ w = w' := by
  by_cases h1 : n < 1
  · clear h
    go_enter Try.func28, Try.ntmps28
    go_wp2
    go_ret2
    exact ⟨rfl, rfl⟩
  · have h2 : 16384 < n := by omega
    clear h
    go_enter Try.func28, Try.ntmps28
    go_wp2
    go_ret2
    exact ⟨rfl, rfl⟩
end
end Go.Proofs.Ytmbknpipefbelaa
