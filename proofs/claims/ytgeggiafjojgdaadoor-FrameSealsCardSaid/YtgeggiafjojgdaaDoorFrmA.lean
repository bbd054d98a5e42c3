/-
  What package frame asks of single things: a number's bounds, the nearest message, whether a message may be; a text's sum; two messages held against each other.
-/
import Derived.Test.YtgeggiafjojgdaaDoorFrmMath
import Derived.Test.YtgeggiafjojgdaaDoorDigE
import Derived.Test.YtgeggiafjojgdaaDoorWirI
import Derived.Laws.StructEq
import Derived.Laws.Cover1
import Derived.Deep.RegionWith
namespace Go.Proofs.YtgeggiafjojgdaaDoor
open Go.RowKit Go

theorem sumV_key (s : ByteArray) : DG.sumV keyF.data.toList s.data.toList = .tuple #[.string (bs (sumL s.data.toList)), .int .i64 0] := by
  unfold DG.sumV; rw [if_pos (by rfl)]; rfl
theorem dig_any (s : ByteArray) (hs : s.size ≤ 281474976710656) (w : World) :
    Calls Tryd.prog 26 #[.string keyF, .string s] w fun e w' => e = .returned (.tuple #[.string (bs (sumL s.data.toList)), .int .i64 0]) ∧ Below w.heap.size w w' := by
  have h := DG.dsum_any keyF s (by decide) hs w
  rw [sumV_key] at h
  exact h
theorem fsum_any (s : ByteArray) (hs : s.size ≤ 281474976710656) (w : World) :
    Calls Tryd.prog 15 #[.string s] w fun e w' => e = .returned (.string (bs (sumL s.data.toList))) ∧ Below w.heap.size w w' := by
  have C := dig_any s hs w
  unfold keyF at C
  generalize bs (sumL s.data.toList) = D at *
  go_enter Tryd.func15, Tryd.ntmps15
  go_wp2_with fail
  refine C.mono ?_
  rintro e w1 ⟨rfl, hB⟩
  go_wp2
  go_ret
  exact ⟨rfl, hB⟩

/-- the nearest number within bounds -/
def nearI (n m : Int) : Int := if n < 0 then 0 else if n ≤ m then n else m
theorem fwithin_any (n m : Int) (hm : 0 < m) (w : World) :
    Calls Tryd.prog 35 #[.int .i64 n, .int .i64 m] w fun e w' => e = .returned (.int .i64 (nearI n m)) ∧ w = w' := by
  obtain ⟨R, hR⟩ : ∃ R, nearI n m = R := ⟨_, rfl⟩
  rw [hR]
  by_cases h0 : n < 0
  · have HR := Lib.hid (show R = 0 by rw [← hR]; exact if_pos h0)
    have k1 : min n m = n := by omega
    have k2 : max (0 : Int) n = 0 := by omega
    clear hR
    go_enter Tryd.func35, Tryd.ntmps35
    go_wp2
    go_ret
    refine ⟨by rw [HR.out]; go_num, rfl⟩
  · by_cases h1 : n ≤ m
    · have HR := Lib.hid (show R = n by rw [← hR]; unfold nearI; rw [if_neg h0, if_pos h1])
      have k1 : min n m = n := by omega
      have k2 : max (0 : Int) n = n := by omega
      have k3 : ¬ n < 0 := h0
      clear hR
      go_enter Tryd.func35, Tryd.ntmps35
      go_wp2
      go_ret
      refine ⟨by rw [HR.out]; go_num, rfl⟩
    · have HR := Lib.hid (show R = m by rw [← hR]; unfold nearI; rw [if_neg h0, if_neg h1])
      have k1 : min n m = m := by omega
      have k2 : max (0 : Int) m = m := by omega
      have k3 : m < n := by omega
      clear hR
      go_enter Tryd.func35, Tryd.ntmps35
      go_wp2
      go_ret
      refine ⟨by rw [HR.out]; go_num, rfl⟩
theorem ba_ext' {d d' : ByteArray} (h : d.data.toList = d'.data.toList) : d = d' := ByteArray.ext (Array.toList_inj.1 h)
/-- two messages held against each other -/
theorem fr_eql (f g : Fr) : ∃ b : Bool, (∀ w : World, (binOp .eql 23 (frV f) (frV g)).run Tryd.prog w = .ok (.bool b) w) ∧ (∀ w : World, (binOp .neq 23 (frV f) (frV g)).run Tryd.prog w = .ok (.bool !b) w) ∧ (b = true ↔ f = g) := by
  refine ⟨(f.kind == g.kind && (f.ses == g.ses && (f.seq == g.seq && f.body.toList == g.body.toList))), fun w => ?_, fun w => ?_, ?_⟩
  · unfold frV
    rw [run_eql_struct, run_equalIn_agg _ _ _ _ _ (by kernel_rfl) (by kernel_rfl)]
    have hu := Tryd.underlying23
    have hf : (Tryd.prog.fieldsOf 23).toList = (Tryd.prog.fieldsOf 23).toList := rfl
    conv at hf => rhs; unfold Program.fieldsOf; rw [hu]
    simp only at hf
    rw [hf]
    clear hf hu
    have u3 := Tryd.underlying3
    have u9 := Tryd.underlying9
    by_cases e1 : f.kind = g.kind
    · by_cases e2 : f.ses = g.ses
      · by_cases e3 : f.seq = g.seq
        · by_cases e4 : f.body.toList = g.body.toList
          · simp [go_sem, Op.eqFields, u3, u9, e1, e2, e3, e4, Result.andThen]
          · simp [go_sem, Op.eqFields, u3, u9, e1, e2, e3, e4, Result.andThen]
        · simp [go_sem, Op.eqFields, u3, e1, e2, e3, Result.andThen]
      · simp [go_sem, Op.eqFields, u3, e1, e2, Result.andThen]
    · simp [go_sem, Op.eqFields, u3, e1, Result.andThen]
  · unfold frV
    rw [run_neq_struct, run_equalIn_agg _ _ _ _ _ (by kernel_rfl) (by kernel_rfl)]
    have hu := Tryd.underlying23
    have hf : (Tryd.prog.fieldsOf 23).toList = (Tryd.prog.fieldsOf 23).toList := rfl
    conv at hf => rhs; unfold Program.fieldsOf; rw [hu]
    simp only at hf
    rw [hf]
    clear hf hu
    have u3 := Tryd.underlying3
    have u9 := Tryd.underlying9
    by_cases e1 : f.kind = g.kind
    · by_cases e2 : f.ses = g.ses
      · by_cases e3 : f.seq = g.seq
        · by_cases e4 : f.body.toList = g.body.toList
          · simp [go_sem, Op.eqFields, u3, u9, e1, e2, e3, e4, Result.andThen]
          · simp [go_sem, Op.eqFields, u3, u9, e1, e2, e3, e4, Result.andThen]
        · simp [go_sem, Op.eqFields, u3, e1, e2, e3, Result.andThen]
      · simp [go_sem, Op.eqFields, u3, e1, e2, Result.andThen]
    · simp [go_sem, Op.eqFields, u3, e1, Result.andThen]
  · obtain ⟨a, b, c, d⟩ := f
    obtain ⟨a', b', c', d'⟩ := g
    simp only [Fr.mk.injEq, Bool.and_eq_true, beq_iff_eq]
    have : d.toList = d'.toList ↔ d = d' := ⟨fun h => by
      rw [ByteArray.toList_eq, ByteArray.toList_eq] at h
      exact ba_ext' h, fun h => by rw [h]⟩
    rw [this]
theorem fr_guard (f g : Fr) (w : World) (a b : Operand) : (eqGuard .eql 23 a b (frV f) (frV g)).run Tryd.prog w = .ok () w := run_eqGuard_agg w _ _ _ _ _ _ (by kernel_rfl)
theorem fr_guard2 (f g : Fr) (w : World) (a b : Operand) : (eqGuard .neq 23 a b (frV f) (frV g)).run Tryd.prog w = .ok () w := run_eqGuard_agg w _ _ _ _ _ _ (by kernel_rfl)

/-- the nearest message that may be -/
def nearF (f : Fr) : Fr := ⟨nearI f.kind 7, nearI f.ses 1073741824, nearI f.seq 1073741824, f.body.extract 0 (min f.body.size 2000)⟩
theorem nearI_iff {n m : Int} (_hm : 0 < m) : n = nearI n m ↔ 0 ≤ n ∧ n ≤ m := by
  unfold nearI; split
  · omega
  · split <;> omega
theorem nearF_iff (f : Fr) : f = nearF f ↔ FrOk f := by
  obtain ⟨k, s, q, b⟩ := f
  unfold nearF
  simp only [Fr.mk.injEq]
  rw [nearI_iff (by decide), nearI_iff (by decide), nearI_iff (by decide)]
  have hb : (b = b.extract 0 (min b.size 2000)) ↔ b.size ≤ 2000 := by
    constructor
    · intro e
      have : b.size = (b.extract 0 (min b.size 2000)).size := congrArg _ e
      rw [ByteArray.size_extract] at this
      omega
    · intro h
      rw [Nat.min_eq_left h]
      simp
  rw [hb]
  exact ⟨fun ⟨h1, h2, h3, h4⟩ => ⟨h1.1, h1.2, h2.1, h2.2, h3.1, h3.2, h4⟩, fun h => ⟨⟨h.k0, h.k1⟩, ⟨h.s0, h.s1⟩, ⟨h.q0, h.q1⟩, h.b⟩⟩
end Go.Proofs.YtgeggiafjojgdaaDoor

