/-
  One instance of a cache: a key that is one, a key's link, a link out of the ring and into it.
-/
import Derived.Test.YtipnbggbejkhkaaCacW
import Derived.Defers
import Derived.Recover
import Derived.BigRegion
import Derived.RegionTactic
namespace Go.Proofs.Ytipnbggbejkhkaa.CI
open Go.RowKit Go Go.Maps

theorem law : Keyed Try.prog 3 :=
  int_keyed Try.underlying3
def lit (k : Int) : Lit := .int .i64 k
def Ok (k : Int) : Prop := -9223372036854775808 ≤ k ∧ k ≤ 9223372036854775807
theorem lit_inj {a b : Int} (h : lit a = lit b) : a = b := by
  simpa [lit] using h
theorem lit_key (k : Int) : WideAt.IsKeyLit (lit k) := trivial
theorem key_of {k : Int} (h : Ok k) : keyOf Try.prog 3 (.int .i64 k) = some (lit k) := by
  have e1 : IntKind.i64.min = -9223372036854775808 := by decide
  have e2 : IntKind.i64.max = 9223372036854775807 := by decide
  exact keyOf_int_mk Try.underlying3 (by unfold Ok at h; simp [Lit.wf, e1, e2, h.1, h.2])

/-! ### isKey -/
theorem catch_idle (p : Addr) (w : World) :
    CallsD Try.prog 35 #[.pointer (some p)] .returning w fun e u' w' => e = .returned (.tuple #[]) ∧ u' = .returning ∧ w' = w := by
  refine callsD_of_wpS Try.func35 rfl fun c₀ cs hu => ?_
  apply wpS_seq
  apply wpS_region
  simp [wpOpsS, go_sem, recoverD, hu, Try.ntmps35, Exit.thenS]
  refine wpS_cond (t := false) (by simp [Act.eval, Array.replicate]) ?_
  simp only [Bool.false_eq_true, if_false]
  refine wpS_of_wp (wp_skip ?_)
  cases c₀
  simp_all [bodyPostS, results, Try.results35]

set_option maxHeartbeats 800000 in
theorem isKey_any (k : Int) (w : World) :
    Calls Try.prog 30 #[.int .i64 k] w fun e w' => e = .returned (.bool true) ∧ Below w.heap.size w w' := by
  have hmf : ∀ (fn : Fn) (first cap : Array Value) (w : World), (Instr.makeFunc fn first cap).run Try.prog w = .ok (.func fn first cap) w := fun _ _ _ _ => rfl
  go_enter_defers Try.func30, Try.ntmps30
  go_wp2
  refine leaves_cons (f := 35) (args := #[.pointer (some ⟨w.heap.size, 0, none⟩)]) (by simp) (by simp [go_sem]) ?_
  refine (catch_idle ⟨w.heap.size, 0, none⟩ _).mono ?_
  rintro e u' w'' ⟨rfl, rfl, rfl⟩
  simp [Leaves, settle, results, Try.results30, go_sem]
  exact (Below.refl _ w).alloc (Nat.le_refl _) _
end Go.Proofs.Ytipnbggbejkhkaa.CI
