/-
  KitL / KitS / KitT.
-/
import Derived.Test.YtfokdmijkniomaaGreatDoorCmdKL
import Derived.Deep.RegionHeld3
import Derived.Deep.QuietTactic

namespace Go.Proofs.YtfokdmijkniomaaGreatDoor
open Go.ChangeShapes Go.WideShapes Go.ChangeAt Go.RowKit Go
theorem cells9 : Tryz.prog.cellsOf 9 = 1 := by kernel_rfl
section
variable {H : Type} {enc : TypeId × Value → H} {W : World} {base : Nat} {v : Value} {d : DataW H} {p : List MemPlace} {ts : List TypeId} {ds : List (DataW H)} {j : Nat}
/-- a list of texts, at a world -/
def StrsAt (W : World) (v : Value) (l : List ByteArray) : Prop :=
  ∃ a cap, v = .slice a l.length cap ∧ (l ≠ [] → ∃ b off, a = some ⟨b, off, none⟩ ∧ b < W.heap.size ∧ ∀ j (h : j < l.length), W.cell? ⟨b, off + j, none⟩ = some (.string l[j]))
end
theorem StrsAt.later {W W' : World} {v : Value} {l : List ByteArray} (h : StrsAt W v l) (hB : Below W.heap.size W W') : StrsAt W' v l := by
  obtain ⟨a, cap, h1, h2⟩ := h
  refine ⟨a, cap, h1, fun hne => ?_⟩
  obtain ⟨b, off, e, hb, hc⟩ := h2 hne
  exact ⟨b, off, e, Nat.lt_of_lt_of_le hb hB.size, fun j hj => (World.cell?_of_block (w := W) (hB.block b hb)).trans (hc j hj)⟩
end Go.Proofs.YtfokdmijkniomaaGreatDoor

namespace Go.Proofs.YtfokdmijkniomaaGreatDoor
open Go.RowKit Go

theorem texts_ne {a b : ByteArray} (h : a ≠ b) : (a.toList == b.toList) = false ∧ (a.toList != b.toList) = true := by
  have : (a.toList == b.toList) = false := by
    rw [ByteArray.toList_eq, ByteArray.toList_eq]
    exact beq_eq_false_iff_ne.2 (fun e => h (ByteArray.ext (Array.toList_inj.1 e)))
  exact ⟨this, by rw [bne, this]; rfl⟩
def TextsAt (W : World) (v : Value) (l : List ByteArray) : Prop :=
  ∃ a cap, v = .slice a l.length cap ∧ (l ≠ [] → ∃ b off, a = some ⟨b, off, none⟩ ∧ ∀ j (h : j < l.length), W.cell? ⟨b, off + j, none⟩ = some (.string l[j]))
theorem texts_of_row {W : World} {base : Nat} {v : Value} {l : List ByteArray} (h : W.ownsRow base 9 1 v l.length (strVals l)) : TextsAt W v l := by
  rcases h.2 with ⟨rfl, h0⟩ | ⟨g, cap, cur, rfl, _, hg, h4, h5, h6, h7⟩
  · exact ⟨none, 0, by rw [h0], fun hne => absurd (List.eq_nil_of_length_eq_zero h0) hne⟩
  · refine ⟨_, cap, rfl, fun _ => ⟨g, 0, rfl, fun i hi => ?_⟩⟩
    have := h.cellAt (g := g) (cap := cap) i (by omega)
    rw [Nat.zero_add, this]
    simp [strVals, hi]
theorem lt_of_cell {W : World} {a : Addr} {v : Value} (h : W.cell? a = some v) : a.block < W.heap.size := by
  rcases Nat.lt_or_ge a.block W.heap.size with h' | h'
  · exact h'
  · simp [World.cell?, Array.getElem?_eq_none h'] at h
set_option maxRecDepth 100000 in
set_option maxHeartbeats 1000000 in
theorem rsame_any {x y : Value} {A B : List ByteArray} {w : World} (hx : TextsAt w x A) (hy : TextsAt w y B) (hA : A.length ≤ 9223372036854775806) (hB : B.length ≤ 9223372036854775807) :
    Calls Tryz.prog 17 #[x, y] w fun e w' => e = .returned (.bool (decide (A = B))) ∧ Below w.heap.size w w' := by
  obtain ⟨a, ca, rfl, ha⟩ := hx
  obtain ⟨b, cb, rfl, hb⟩ := hy
  by_cases hl : A.length = B.length
  · have HA := Lib.hid ha
    have HB := Lib.hid hb
    have HL := Lib.hid hl
    have hlb : ((A.length : Int) != (B.length : Int)) = false := by rw [hl]; simp
    clear ha hb hl
    go_enter Tryz.func17, Tryz.ntmps17
    go_wp2
    go_loopw [5] (fun i wr => ∃ j : Nat, j ≤ A.length ∧ i = .int .i64 j ∧ Hid (A.take j = B.take j) ∧ Below w.heap.size w wr) (fun i _ => A.length - (intOf i).toNat)
    case atStart => exact ⟨0, Nat.zero_le _, rfl, Lib.hid (by simp), Below.refl _ _⟩
    case round =>
      obtain ⟨j, hj, rfl, HT, hBw⟩ := hrel
      have HBw := Lib.hid hBw
      by_cases hlt : j < A.length
      · have hlt2 : j < B.length := by rw [← HL.out]; exact hlt
        obtain ⟨ba, oa, rfl, hca⟩ := HA.out (by rintro rfl; simp at hlt)
        obtain ⟨bb, ob, rfl, hcb⟩ := HB.out (by rintro rfl; simp at hlt2)
        have hc1 : wr.cell? ⟨ba, oa + j, none⟩ = some (.string A[j]) := (hBw.cell (p := ⟨ba, oa + j, none⟩) (lt_of_cell (hca j hlt))).trans (hca j hlt)
        have hc2 : wr.cell? ⟨bb, ob + j, none⟩ = some (.string B[j]) := (hBw.cell (p := ⟨bb, ob + j, none⟩) (lt_of_cell (hcb j hlt2))).trans (hcb j hlt2)
        have hji : (j : Int) < (A.length : Int) := by omega
        have hjb : (j : Int) < (B.length : Int) := by omega
        have HTn := Lib.hid (fun (e : A[j] = B[j]) => show A.take (j + 1) = B.take (j + 1) by rw [List.take_succ_eq_append_getElem hlt, List.take_succ_eq_append_getElem hlt2, HT.out, e])
        have HNe := Lib.hid (fun (e : A[j] ≠ B[j]) => show A ≠ B from fun e2 => e (by subst e2; rfl))
        generalize A[j] = X at *
        generalize B[j] = Y at *
        clear hca hcb hBw
        by_cases hXY : X = Y
        · subst hXY
          have HTn' := Lib.hid (HTn.out rfl)
          have hE : (X.toList == X.toList) = true := by simp
          have hE2 : (X.toList != X.toList) = false := by simp
          clear HTn HNe
          go_wp2
          go_quiet (fail)
          go_wp2
          go_roundw
          case rel => exact ⟨j + 1, by omega, by go_num, HTn', below_drewN HBw.out _⟩
          case measure => simp [intOf]; omega
        · obtain ⟨hE, hE2⟩ := texts_ne hXY
          have HX := Lib.hid (show decide (A = B) = false from decide_eq_false (HNe.out hXY))
          clear HTn HNe hXY
          go_wp2
          go_quiet (fail)
          go_wp2
          go_ret
          exact ⟨by rw [HX.out]; rfl, below_drewN HBw.out _⟩
      · have HX := Lib.hid (show decide (A = B) = true from decide_eq_true (by
          have h := HT.out
          have hj1 : j = A.length := by omega
          rw [hj1, List.take_length, HL.out, List.take_length] at h
          exact h))
        have hji : ¬ (j : Int) < (A.length : Int) := by omega
        clear hBw
        go_wp2
        go_ret
        exact ⟨by rw [HX.out]; rfl, HBw.out⟩
  · have hlb : ((A.length : Int) != (B.length : Int)) = true := by
      rw [bne_iff_ne]; omega
    have HX := Lib.hid (show decide (A = B) = false from decide_eq_false (fun e => hl (by rw [e])))
    rw [HX.out]
    clear ha hb hl
    go_enter Tryz.func17, Tryz.ntmps17
    go_wp2
    go_ret
    exact ⟨rfl, Below.refl _ _⟩
theorem TextsAt.later {W W' : World} {v : Value} {l : List ByteArray} (h : TextsAt W v l) (hB : Below W.heap.size W W') : TextsAt W' v l := by
  obtain ⟨a, cap, rfl, hc⟩ := h
  refine ⟨a, cap, rfl, fun hne => ?_⟩
  obtain ⟨b, off, rfl, hx⟩ := hc hne
  exact ⟨b, off, rfl, fun j hj => (hB.cell (p := ⟨b, off + j, none⟩) (lt_of_cell (hx j hj))).trans (hx j hj)⟩
end Go.Proofs.YtfokdmijkniomaaGreatDoor

