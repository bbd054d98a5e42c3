/-
  Two lists of nodes as others see them, held against each other.
-/
import Derived.Test.YtfokdmijkniomaaGreatDoorFilFr
import Derived.Laws.StructEq
import Derived.Test.YtfokdmijkniomaaGreatDoorKS
namespace Go.Proofs.YtfokdmijkniomaaGreatDoor
open Go.RowKit Go Go.Maps

theorem nde_neq (r q : Nde) (w : World) : ∃ b : Bool, (binOp .neq 38 (ndeV r) (ndeV q)).run Tryz.prog w = .ok (.bool b) w ∧ (b = false ↔ r = q) := by
  refine ⟨!(r.num == q.num && (r.dir == q.dir && (r.links == q.links && r.data.toList == q.data.toList))), ?_, ?_⟩
  · unfold ndeV
    rw [run_neq_struct, run_equalIn_agg _ _ _ _ _ (by kernel_rfl) (by kernel_rfl)]
    have hu := Tryz.underlying38
    have hf : (Tryz.prog.fieldsOf 38).toList = (Tryz.prog.fieldsOf 38).toList := rfl
    conv at hf => rhs; unfold Program.fieldsOf; rw [hu]
    simp only at hf
    rw [hf]
    clear hf hu
    have u3 := Tryz.underlying3
    have u4 := Tryz.underlying4
    have u9 := Tryz.underlying9
    by_cases e1 : r.num = q.num
    · by_cases e2 : r.dir = q.dir
      · by_cases e3 : r.links = q.links
        · by_cases e4 : r.data.toList = q.data.toList
          · simp [go_sem, Op.eqFields, u3, u4, u9, e1, e2, e3, e4, Result.andThen]
          · simp [go_sem, Op.eqFields, u3, u4, u9, e1, e2, e3, e4, Result.andThen]
        · simp [go_sem, Op.eqFields, u3, u4, e1, e2, e3, Result.andThen]
      · simp [go_sem, Op.eqFields, u3, u4, e1, e2, Result.andThen]
    · simp [go_sem, Op.eqFields, u3, e1, Result.andThen]
  · obtain ⟨a, b, c, d⟩ := r
    obtain ⟨a', b', c', d'⟩ := q
    simp only [Nde.mk.injEq, Bool.not_eq_false', Bool.and_eq_true, beq_iff_eq]
    have : d.toList = d'.toList ↔ d = d' := ⟨fun h => by
      rw [ByteArray.toList_eq, ByteArray.toList_eq] at h
      exact ba_ext h, fun h => by rw [h]⟩
    rw [this]
theorem nde_guard (r q : Nde) (w : World) (a b : Operand) : (eqGuard .neq 38 a b (ndeV r) (ndeV q)).run Tryz.prog w = .ok () w := run_eqGuard_agg w _ _ _ _ _ _ (by kernel_rfl)
section
variable {w w' : World}
set_option maxRecDepth 100000 in
set_option maxHeartbeats 4000000 in
theorem nsame_any {x y : Value} {A B : List Nde} (hx : LstAt ndeC 4 w x A) (hy : LstAt ndeC 4 w y B) (hA : A.length ≤ 9223372036854775806) (hB : B.length ≤ 9223372036854775807) :
    Calls Tryz.prog 10 #[x, y] w fun e w' => Asks (A = B) e ∧ Below w.heap.size w w' := by
  obtain ⟨a, ca, rfl, ha⟩ := hx
  obtain ⟨b, cb, rfl, hb⟩ := hy
  by_cases hl : A.length = B.length
  · have HA := Lib.hid ha
    have HB := Lib.hid hb
    have HL := Lib.hid hl
    have hlb : ((A.length : Int) != (B.length : Int)) = false := by rw [hl]; simp
    clear ha hb hl
    go_enter Tryz.func10, Tryz.ntmps10
    go_wp2
    go_loopw [5] (fun i wr => ∃ j : Nat, j ≤ A.length ∧ i = .int .i64 j ∧ Hid (A.take j = B.take j) ∧ Below w.heap.size w wr) (fun i _ => A.length - (intOf i).toNat)
    case atStart => exact ⟨0, Nat.zero_le _, rfl, Lib.hid (by simp), Below.refl _ _⟩
    case round =>
      obtain ⟨j, hj, rfl, HT, hBw⟩ := hrel
      have HBw := Lib.hid hBw
      by_cases hlt : j < A.length
      · have hlt2 : j < B.length := by rw [← HL.out]; exact hlt
        obtain ⟨ba, oa, rfl, hba, hca⟩ := HA.out (by rintro rfl; simp at hlt)
        obtain ⟨bb, ob, rfl, hbb, hcb⟩ := HB.out (by rintro rfl; simp at hlt2)
        have ha : ∀ i, wr.cell? ⟨ba, i, none⟩ = w.cell? ⟨ba, i, none⟩ := fun i => World.cell?_of_block (hBw.block ba hba)
        have hb : ∀ i, wr.cell? ⟨bb, i, none⟩ = w.cell? ⟨bb, i, none⟩ := fun i => World.cell?_of_block (hBw.block bb hbb)
        have p0 : wr.cell? ⟨ba, oa + j * 4, none⟩ = some (.int .i64 A[j].num) := by rw [ha]; exact hca j hlt 0 (by omega)
        have p1 : wr.cell? ⟨ba, oa + j * 4 + 1, none⟩ = some (.bool A[j].dir) := by rw [ha]; exact hca j hlt 1 (by omega)
        have p2 : wr.cell? ⟨ba, oa + j * 4 + 2, none⟩ = some (.int .i64 A[j].links) := by rw [ha]; exact hca j hlt 2 (by omega)
        have p3 : wr.cell? ⟨ba, oa + j * 4 + 3, none⟩ = some (.string A[j].data) := by rw [ha]; exact hca j hlt 3 (by omega)
        have q0 : wr.cell? ⟨bb, ob + j * 4, none⟩ = some (.int .i64 B[j].num) := by rw [hb]; exact hcb j hlt2 0 (by omega)
        have q1 : wr.cell? ⟨bb, ob + j * 4 + 1, none⟩ = some (.bool B[j].dir) := by rw [hb]; exact hcb j hlt2 1 (by omega)
        have q2 : wr.cell? ⟨bb, ob + j * 4 + 2, none⟩ = some (.int .i64 B[j].links) := by rw [hb]; exact hcb j hlt2 2 (by omega)
        have q3 : wr.cell? ⟨bb, ob + j * 4 + 3, none⟩ = some (.string B[j].data) := by rw [hb]; exact hcb j hlt2 3 (by omega)
        have hji : (j : Int) < (A.length : Int) := by omega
        have hjb : (j : Int) < (B.length : Int) := by omega
        have HTn := Lib.hid (fun (e : A[j] = B[j]) => show A.take (j + 1) = B.take (j + 1) by rw [List.take_succ_eq_append_getElem hlt, List.take_succ_eq_append_getElem hlt2, HT.out, e])
        have HNe := Lib.hid (fun (e : A[j] ≠ B[j]) => show A ≠ B from fun e2 => e (by subst e2; rfl))
        generalize A[j] = X at *
        generalize B[j] = Y at *
        have hgd := fun w => nde_guard X Y w
        obtain ⟨bo, hbo⟩ : ∃ bo : Bool, ∀ w, (binOp .neq 38 (ndeV X) (ndeV Y)).run Tryz.prog w = .ok (.bool bo) w ∧ (bo = false ↔ X = Y) := by
          obtain ⟨bo, _, h2⟩ := nde_neq X Y w
          refine ⟨bo, fun w' => ?_⟩
          obtain ⟨b2, h3, h4⟩ := nde_neq X Y w'
          have : b2 = bo := by
            cases b2 <;> cases bo <;> simp_all
          subst this
          exact ⟨h3, h2⟩
        have hbe := fun w => (hbo w).1
        have hbi := (hbo w).2
        unfold ndeV at hgd hbe
        clear hca hcb hBw ha hb hbo
        cases bo with
        | false =>
          have HTn' := Lib.hid (HTn.out (hbi.1 rfl))
          clear HTn HNe hbi
          go_wp2
          go_quiet (fail)
          go_wp2
          go_roundw
          case rel => exact ⟨j + 1, by omega, by go_num, HTn', below_drewN HBw.out _⟩
          case measure => simp [intOf]; omega
        | true =>
          have HX := Lib.hid (HNe.out (fun e => by have := hbi.2 e; cases this))
          clear HTn HNe hbi
          go_wp2
          go_quiet (fail)
          go_wp2
          go_ret
          exact ⟨.no HX.out rfl, below_drewN HBw.out _⟩
      · have HX := Lib.hid (show A = B by
          have h := HT.out
          have hj1 : j = A.length := by omega
          rw [hj1, List.take_length, HL.out, List.take_length] at h
          exact h)
        have hji : ¬ (j : Int) < (A.length : Int) := by omega
        clear hBw
        go_wp2
        go_ret
        exact ⟨.yes HX.out rfl, HBw.out⟩
  · have hlb : ((A.length : Int) != (B.length : Int)) = true := by
      rw [bne_iff_ne]; omega
    have HX := Lib.hid (show A ≠ B from fun e => hl (by rw [e]))
    clear ha hb hl
    go_enter Tryz.func10, Tryz.ntmps10
    go_wp2
    go_ret
    exact ⟨.no HX.out rfl, Below.refl _ _⟩
end
end Go.Proofs.YtfokdmijkniomaaGreatDoor

