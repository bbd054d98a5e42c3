/-
  One instance of a cache: a key that is one, a key's link, a link out of the ring and into it.
-/
import Derived.Test.YtipnbggbejkhkaaCacW
import Derived.Defers
import Derived.Recover
import Derived.BigRegion
import Derived.RegionTactic
namespace Go.Proofs.Ytipnbggbejkhkaa.CS
open Go.RowKit Go Go.Maps

theorem law : Keyed Try.prog 9 :=
  string_keyed Try.underlying9
def lit (k : ByteArray) : Lit := .string k.data.toList
def Ok (k : ByteArray) : Prop := k.size ≤ 281474976710656
theorem lit_inj {a b : ByteArray} (h : lit a = lit b) : a = b := by
  unfold lit at h; cases a; cases b; simp at h; rw [h]
theorem lit_key (k : ByteArray) : WideAt.IsKeyLit (lit k) := trivial
theorem key_of {k : ByteArray} (h : Ok k) : keyOf Try.prog 9 (.string k) = some (lit k) := by
  exact WideMaps.keyOf_string_mk Try.underlying9 (by unfold Ok at h; unfold maxLen; omega)

/-! ### isKey -/
theorem catch_idle (p : Addr) (w : World) :
    CallsD Try.prog 36 #[.pointer (some p)] .returning w fun e u' w' => e = .returned (.tuple #[]) ∧ u' = .returning ∧ w' = w := by
  refine callsD_of_wpS Try.func36 rfl fun c₀ cs hu => ?_
  apply wpS_seq
  apply wpS_region
  simp [wpOpsS, go_sem, recoverD, hu, Try.ntmps36, Exit.thenS]
  refine wpS_cond (t := false) (by simp [Act.eval, Array.replicate]) ?_
  simp only [Bool.false_eq_true, if_false]
  refine wpS_of_wp (wp_skip ?_)
  cases c₀
  simp_all [bodyPostS, results, Try.results36]

set_option maxHeartbeats 800000 in
theorem isKey_any (k : ByteArray) (w : World) :
    Calls Try.prog 34 #[.string k] w fun e w' => e = .returned (.bool true) ∧ Below w.heap.size w w' := by
  have hmf : ∀ (fn : Fn) (first cap : Array Value) (w : World), (Instr.makeFunc fn first cap).run Try.prog w = .ok (.func fn first cap) w := fun _ _ _ _ => rfl
  go_enter_defers Try.func34, Try.ntmps34
  go_wp2
  refine leaves_cons (f := 36) (args := #[.pointer (some ⟨w.heap.size, 0, none⟩)]) (by simp) (by simp [go_sem]) ?_
  refine (catch_idle ⟨w.heap.size, 0, none⟩ _).mono ?_
  rintro e u' w'' ⟨rfl, rfl, rfl⟩
  simp [Leaves, settle, results, Try.results34, go_sem]
  exact (Below.refl _ w).alloc (Nat.le_refl _) _
end Go.Proofs.Ytipnbggbejkhkaa.CS
