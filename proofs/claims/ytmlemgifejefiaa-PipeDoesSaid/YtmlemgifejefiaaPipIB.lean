/-
  One instance of a pipe: New, Len, Close, letsIn, Either, Move.
-/
import Derived.Test.YtmlemgifejefiaaPipIA
import Derived.Test.YtmlemgifejefiaaPipSA
import Derived.RegionTactic
import Derived.BigRegion
namespace Go.Proofs.Ytmlemgifejefiaa.PI
open Go.RowKit Go Go.Conc

theorem bytesP : ∃ i, Try.prog.info? 63 = some i ∧ i.bytes = 8 := by
  have h : (Try.prog.info? 63).map (·.bytes) = some 8 := by kernel_rfl
  obtain ⟨i, hi, hb⟩ := Option.map_eq_some_iff.1 h
  exact ⟨i, hi, hb⟩
theorem mk_chan (n : Nat) (h : n ≤ 4096) (w : World) : (Instr.makeChan 60 (.int .i64 n)).run Try.prog w = .ok (.chan (some w.heap.size)) (w.alloc (.chan n #[] false 0 0 false)) := by
  obtain ⟨i, hi, hb⟩ := bytesP
  exact run_makeChan (P := Try.prog) (w := w) Try.underlying60 hi .i64 n (by omega) (by rw [hb]; omega)

set_option maxRecDepth 100000 in
theorem new_any (room : Nat) (h1 : 1 ≤ room) (h2 : room ≤ 4096) (w : World) :
    Calls Try.prog 11 #[.int .i64 room] w fun e w' => ∃ p c, e = .returned (.tuple #[.pointer (some ⟨p, 0, none⟩), .int .i64 0]) ∧ PipeAt p c room false [] w' ∧ w.heap.size ≤ p ∧ w.heap.size ≤ c ∧ Below w.heap.size w w' := by
  have hmc := mk_chan room h2 w
  have h3 : (1 : Int) ≤ (room : Int) := by omega
  have h4 : (room : Int) ≤ 4096 := by omega
  have HM := Lib.hid h2
  clear h1 h2
  go_enter Try.func11, Try.ntmps11
  go_wp2
  go_ret2
  refine ⟨w.heap.size + 1, w.heap.size, rfl, ⟨?_, ⟨[], 0, 0, ?_, trivial⟩, Nat.zero_le _, HM.out⟩, by omega, Nat.le_refl _, ((Below.refl _ w).alloc (Nat.le_refl _) _).alloc (by simp) _⟩
  · have := heap_alloc_new (w.alloc (.chan room #[] false 0 0 false)) (PObj w.heap.size false)
    rw [World.size_alloc] at this
    exact this
  · exact heap_alloc_old (heap_alloc_new w (.chan room #[] false 0 0 false)) _
theorem new_bad (n : Int) (h : n < 1 ∨ 4096 < n) (w : World) :
    Calls Try.prog 11 #[.int .i64 n] w fun e w' => e = .returned (.tuple #[.pointer none, .int .i64 50]) ∧ Below w.heap.size w w' := by
  by_cases h1 : n < 1
  · clear h
    go_enter Try.func11, Try.ntmps11
    go_wp2
    go_ret2
    exact ⟨rfl, Below.refl _ w⟩
  · have h2 : 4096 < n := by omega
    clear h
    go_enter Try.func11, Try.ntmps11
    go_wp2
    go_ret2
    exact ⟨rfl, Below.refl _ w⟩

section
variable {w w' : World} {p c q d room room' : Nat} {closed closed' : Bool} {L M : List Int} {x : Int}
theorem PipeAt.run_len (h : PipeAt p c room closed L w) (ty : TypeId) : (Builtin.len_ #[60] ty #[.chan (some c)]).run Try.prog w = .ok (.int .i64 L.length) w := by
  obtain ⟨bs, s, r, hc, hh⟩ := h.chan
  have := run_len_chan (P := Try.prog) 60 ty Try.underlying60 hc
  simpa [hh.len, goInt] using this
theorem PipeAt.run_cap (h : PipeAt p c room closed L w) (ty : TypeId) : (Builtin.cap_ #[60] ty #[.chan (some c)]).run Try.prog w = .ok (.int .i64 room) w := by
  obtain ⟨bs, s, r, hc, hh⟩ := h.chan
  exact run_cap_chan (P := Try.prog) 60 ty Try.underlying60 hc
theorem len_any (h : PipeAt p c room closed L w) :
    Calls Try.prog 22 #[.pointer (some ⟨p, 0, none⟩)] w fun e w' => e = .returned (.int .i64 L.length) ∧ w' = w := by
  have c0 := PObj.c0 h.obj
  have hl := h.run_len
  clear h
  go_enter Try.func22, Try.ntmps22
  go_wp2
  go_ret
  exact ⟨rfl, rfl⟩
set_option maxRecDepth 100000 in
theorem letsIn_any (h : PipeAt p c room closed L w) :
    Calls Try.prog 26 #[.pointer (some ⟨p, 0, none⟩)] w fun e w' => e = .returned (.bool (!closed && decide (L.length < room))) ∧ Below w.heap.size w w' := by
  have h' : PipeAt p c room closed L w.drew := h.later (below_drewN (Below.refl _ w) 1)
  have c0 := PObj.c0 h.obj
  have c1 := PObj.c1 h.obj
  have hl := h'.run_len
  have hp := h'.run_cap
  clear h h'
  cases closed
  · go_enter Try.func26, Try.ntmps26
    go_wp2
    go_region
    all_goals (go_wp2; go_ret; exact ⟨by simp, (Below.refl _ w).drew⟩)
  · go_enter Try.func26, Try.ntmps26
    go_wp2
    go_region
    all_goals (go_wp2; go_ret; exact ⟨by simp, (Below.refl _ w).drew⟩)
end
end Go.Proofs.Ytmlemgifejefiaa.PI
