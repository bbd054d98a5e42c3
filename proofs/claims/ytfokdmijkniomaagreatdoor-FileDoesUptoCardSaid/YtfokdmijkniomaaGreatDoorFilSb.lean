/-
  The document's tree: put, drop.
-/
import Derived.Test.YtfokdmijkniomaaGreatDoorFilSa
import Derived.OwnWalk
import Derived.Laws.AppendOwnNone
import Derived.Test.YtfokdmijkniomaaGreatDoorKG
import Derived.Deep.CutRange
namespace Go.Proofs.YtfokdmijkniomaaGreatDoor
open Go.RowKit Go Go.Maps

theorem flat_snoc (acc : List Nde) (r : Nde) : (acc ++ [r]).flatMap ndeC = acc.flatMap ndeC ++ ndeC r := by rw [List.flatMap_append, List.flatMap_singleton]
section
variable {tb : Nat} {lv : Value} {T : List Nod} {w w' : World}
/-- a list's node, at a world -/
theorem lst_node {W : World} {b off : Nat} {A : List Nde} (hc : ∀ j (_ : j < A.length) (i : Nat) (_ : i < 4), W.cell? ⟨b, off + j * 4 + i, none⟩ = (ndeC A[j])[i]?) {j : Nat} (hj : j < A.length) :
    W.cell? ⟨b, off + j * 4, none⟩ = some (.int .i64 A[j].num) ∧ W.cell? ⟨b, off + j * 4 + 1, none⟩ = some (.bool A[j].dir) ∧ W.cell? ⟨b, off + j * 4 + 2, none⟩ = some (.int .i64 A[j].links) ∧ W.cell? ⟨b, off + j * 4 + 3, none⟩ = some (.string A[j].data) :=
  ⟨hc j hj 0 (by omega), hc j hj 1 (by omega), hc j hj 2 (by omega), hc j hj 3 (by omega)⟩
theorem putF_step {r y : Nde} {acc A R : List Nde} {d : Bool} (h : acc ++ putF r d (y :: A) = R) :
    (acc ++ ((if d = false ∧ r.num ≤ y.num then [r] else []) ++ (if y.num = r.num then [] else [y]))) ++ putF r (d || decide (r.num ≤ y.num)) A = R := by
  rw [← h, putF]; simp
theorem rput_close {U : List Nod} {w1 W : World} {v : Value} (h : RTIs tb lv T w) (hB0 : Below w.heap.size w w1) (hB : Below w1.heap.size w1 W) (hown : W.ownsRow w1.heap.size 38 4 v (tolds U).length ((tolds U).flatMap ndeC)) : RLeft tb lv U w (W.setCell ⟨tb, 0, none⟩ v) := by
  have h1 := h.later hB0
  have hW := h1.later hB
  have ht := h1.lt
  have hl := WT.lst_of_owns (C := ndeC) (fun _ => rfl) (by decide) hown
  refine ⟨v, hW.put hl (fun b off n cap e => ?_), ((Stir.of_below (hB0.trans (hB.mono hB0.size))).trans ((Stir.refl (fun i => i = tb) W).set (.inl rfl) _) (fun i hi => .inl hi)), fun k hk => ?_⟩
  · have := own_low hown e
    have := h.lt
    have := hB0.size
    omega
  · rcases hk with rfl | ⟨off, n, cap, e⟩
    · exact .inl (.inl rfl)
    · exact .inr (Nat.le_trans hB0.size (own_low hown e))
theorem NdeAt.later' {r : Nde} {b : Nat} {B : Nat} {w w' : World} (h : NdeAt r b w ∧ b < B) (hB : Below B w w') : NdeAt r b w' := ⟨(hB.block b h.2).trans h.1.obj⟩
set_option maxRecDepth 100000 in
set_option maxHeartbeats 16000000 in
theorem rput_any (h : RTIs tb lv T w) (hr : RiseN T) (hl : T.length ≤ 1000) (hne : T ≠ []) (x : Nod) :
    Calls Tryz.prog 36 #[.pointer (some ⟨tb, 0, none⟩), ndeV (told x)] w fun e w' => e = .returned (.tuple #[]) ∧ RLeft tb lv (putN x T) w w' := by
  obtain ⟨r, hrr⟩ : ∃ r, told x = r := ⟨_, rfl⟩
  obtain ⟨A, hA⟩ : ∃ A, tolds T = A := ⟨_, rfl⟩
  obtain ⟨R, hR⟩ : ∃ R, putF r false A = R := ⟨_, rfl⟩
  have HRN := Lib.hid (show R = tolds (putN x T) from by rw [← hR, ← hA, ← hrr]; exact putF_is hr)
  have HR := Lib.hid hR
  have hAl : A.length ≤ 1000 := by rw [← hA, tolds_len]; exact hl
  have hA0 : A ≠ [] := fun e => hne (by rw [← hA] at e; exact List.map_eq_nil_iff.1 e)
  obtain ⟨w1, hw1⟩ : ∃ w1, w.alloc (NdeObj r) = w1 := ⟨_, rfl⟩
  have hB1 : Below w.heap.size w w1 := by rw [← hw1]; exact (Below.refl _ w).alloc (Nat.le_refl _) _
  have z1 : NdeAt r w.heap.size w1 := by rw [← hw1]; exact .new _ _
  have hs1 : w1.heap.size = w.heap.size + 1 := by rw [← hw1]; exact Array.size_push _
  obtain ⟨w2, hw2⟩ : ∃ w2, w1.alloc (.cells #[] 38) = w2 := ⟨_, rfl⟩
  have hB2 : Below w1.heap.size w1 w2 := by rw [← hw2]; exact (Below.refl _ w1).alloc (Nat.le_refl _) _
  have r2 : w2.ownsRow w1.heap.size 38 4 (.slice (some ⟨w1.heap.size, 0, none⟩) 0 0) 0 [] := by
    rw [← hw2]
    exact ⟨rfl, .inr ⟨w1.heap.size, 0, #[], rfl, Nat.le_refl _, heap_alloc_new _ _, Nat.le_refl _, by unfold maxLen; omega, rfl, rfl⟩⟩
  have HT1 := Lib.hid (h.later hB1)
  obtain ⟨a, cap, rfl, hc⟩ := h.list
  rw [hA] at hc HT1
  obtain ⟨b, off, rfl, hb, hc⟩ := hc hA0
  have HX := Lib.hid (fun (W : World) (hB : Below w1.heap.size w1 W) => show W.cell? ⟨tb, 0, none⟩ = some (.slice (some ⟨b, off, none⟩) A.length cap) ∧ ∀ j (_ : j < A.length), W.cell? ⟨b, off + j * 4, none⟩ = some (.int .i64 A[j].num) ∧ W.cell? ⟨b, off + j * 4 + 1, none⟩ = some (.bool A[j].dir) ∧ W.cell? ⟨b, off + j * 4 + 2, none⟩ = some (.int .i64 A[j].links) ∧ W.cell? ⟨b, off + j * 4 + 3, none⟩ = some (.string A[j].data) from by
    refine ⟨RTObj.c0 ((hB.block tb HT1.out.lt).trans HT1.out.obj), fun j hj => lst_node (fun j hj i hi => ?_) hj⟩
    rw [World.cell?_of_block (hB.block b (Nat.lt_of_lt_of_le hb hB1.size)), World.cell?_of_block (hB1.block b hb)]
    exact hc j hj i hi)
  have HZ := Lib.hid (show NdeAt r w.heap.size w1 ∧ w.heap.size < w1.heap.size from ⟨z1, by omega⟩)
  have HH := Lib.hid h
  have HB1 := Lib.hid hB1
  have HB2 := Lib.hid hB2
  have HR2 := Lib.hid r2
  have HAL := Lib.hid hAl
  obtain ⟨i0, hi, hz0, hz1, hz2⟩ := info_parts infoNde
  obtain ⟨c0, -⟩ := HX.out w2 hB2
  unfold NdeObj at hw1
  unfold ndeV
  rw [hrr]
  clear h hr hl hne hA hR hB1 z1 hs1 hB2 r2 hc hb hAl hA0 hrr
  go_enter Tryz.func36, Tryz.ntmps36
  go_wp2
  clear c0
  go_loopw [4, 5, 6] (fun v d i wr => ∃ (j : Nat) (dd : Bool) (acc : List Nde), j ≤ A.length ∧ i = .int .i64 j ∧ d = .bool dd ∧ Hid (wr.ownsRow w1.heap.size 38 4 v acc.length (acc.flatMap ndeC)) ∧ Hid (acc ++ putF r dd (A.drop j) = R ∧ acc.length ≤ 2 * j) ∧ Hid (Below w1.heap.size w1 wr)) (fun _ _ i _ => A.length - (intOf i).toNat)
  case atStart => exact ⟨0, false, [], Nat.zero_le _, rfl, rfl, HR2, Lib.hid ⟨by rw [List.drop_zero]; exact HR.out, Nat.le_refl _⟩, HB2⟩
  case round =>
    obtain ⟨j, dd, acc, hj, rfl, rfl, HRW, HI, HB⟩ := hrel
    have hrow := HRW.out
    obtain ⟨av, cv, rfl⟩ := WT.row_shape hrow
    clear hrow
    obtain ⟨c0, hq⟩ := HX.out wr HB.out
    by_cases hlt : j < A.length
    · have hji : (j : Int) < (A.length : Int) := by omega
      obtain ⟨y, hy⟩ : ∃ y, A[j] = y := ⟨_, rfl⟩
      have HQ := Lib.hid (fun (W : World) (hB : Below w1.heap.size w1 W) => show W.cell? ⟨tb, 0, none⟩ = some (.slice (some ⟨b, off, none⟩) A.length cap) ∧ W.cell? ⟨b, off + j * 4, none⟩ = some (.int .i64 y.num) ∧ W.cell? ⟨b, off + j * 4 + 1, none⟩ = some (.bool y.dir) ∧ W.cell? ⟨b, off + j * 4 + 2, none⟩ = some (.int .i64 y.links) ∧ W.cell? ⟨b, off + j * 4 + 3, none⟩ = some (.string y.data) from by
        obtain ⟨k0, k⟩ := HX.out W hB
        have := k j hlt
        rw [hy] at this
        exact ⟨k0, this⟩)
      have HST := Lib.hid (show (acc ++ ((if dd = false ∧ r.num ≤ y.num then [r] else []) ++ (if y.num = r.num then [] else [y]))) ++ putF r (dd || decide (r.num ≤ y.num)) (A.drop (j + 1)) = R from by
        have h := HI.out.1
        rw [List.drop_eq_getElem_cons hlt, hy] at h
        exact putF_step h)
      have HLT := Lib.hid hlt
      have HW2 := Lib.hid (show RowKit.wrap64 ((j : Int) + 1) = (j : Int) + 1 from w64_cnt (by omega) (by have := HAL.out; omega))
      have HAC := Lib.hid (show acc.length ≤ 2 * j ∧ j ≤ 1000 from ⟨HI.out.2, by have := HAL.out; omega⟩)
      obtain ⟨-, q0, q1, q2, q3⟩ := HQ.out wr HB.out
      obtain ⟨d0, d1, d2, d3⟩ := (NdeAt.later' HZ.out HB.out).cells
      clear hq hy
      cases dd with
      | true =>
        by_cases he : y.num = r.num
        · as_aux_lemma =>
          have hst := HST.out
          rw [if_neg (fun h => Bool.noConfusion h.1), if_pos he, show (true || decide (r.num ≤ y.num)) = true by simp] at hst
          have HFIN := Lib.hid (show acc ++ putF r true (A.drop (j + 1)) = R from by simpa using hst)
          clear hst HST HI
          go_wp2_with fail
          refine wp_region_held_drew (S := fun w' => w'.cell? ⟨tb, 0, none⟩ = some (.slice (some ⟨b, off, none⟩) A.length cap) ∧ w'.cell? ⟨b, off + j * 4, none⟩ = some (.int .i64 y.num) ∧ w'.cell? ⟨w.heap.size, 0, none⟩ = some (.int .i64 r.num)) (by kernel_rfl) ⟨c0, q0, d0⟩ (fun hHeld => ?_)
          refine tkH 17 (i := 0) (v := .bool true) (h := ?_)
          simp only [Act.put, stA, st0, st1]
          refine tkH 18 (i := 1) (v := .bool false) (h := ?_)
          simp only [Act.put, stA, st0, st1]
          refine tkH 19 (i := 2) (v := .bool false) (h := ?_)
          simp only [Act.put, stA, st0, st1]
          refine tkU 20 (i := 3) (v := undef) (h := ?_)
          simp only [Act.put, stA, st0, st1]
          refine tkU 21 (i := 4) (v := undef) (h := ?_)
          simp only [Act.put, stA, st0, st1]
          refine tkU 22 (i := 5) (v := undef) (h := ?_)
          simp only [Act.put, stA, st0, st1]
          refine tkU 23 (i := 6) (v := undef) (h := ?_)
          simp only [Act.put, stA, st0, st1]
          refine tkU 24 (i := 7) (v := undef) (h := ?_)
          simp only [Act.put, stA, st0, st1]
          refine tkU 25 (i := 8) (v := undef) (h := ?_)
          simp only [Act.put, stA, st0, st1]
          refine tkU 26 (i := 9) (v := undef) (h := ?_)
          simp only [Act.put, stA, st0, st1]
          refine tkU 27 (i := 10) (v := undef) (h := ?_)
          simp only [Act.put, stA, st0, st1]
          refine tkU 28 (i := 11) (v := undef) (h := ?_)
          simp only [Act.put, stA, st0, st1]
          refine tkU 29 (i := 12) (v := undef) (h := ?_)
          simp only [Act.put, stA, st0, st1]
          refine tkU 30 (i := 13) (v := undef) (h := ?_)
          simp only [Act.put, stA, st0, st1]
          refine tkH 31 (i := 14) (v := .bool false) (h := ?_)
          simp only [Act.put, stA, st0, st1]
          refine wpAnyH_done (by kernel_rfl) ?_ _
          clear hHeld c0 q0 q1 q2 q3 d0 d1 d2 d3
          have hst : Below wr.heap.size wr wr.drew := (Below.refl _ wr).drew
          generalize wr.drew = wa at hst ⊢
          have HBA := Lib.hid (HB.out.trans (hst.mono HB.out.size))
          have HOA := Lib.hid (WT.owns_later HRW.out hst)
          clear hst
          go_wp2_with fail
          obtain ⟨c0, q0, q1, q2, q3⟩ := HQ.out wa HBA.out
          obtain ⟨d0, d1, d2, d3⟩ := (NdeAt.later' HZ.out HBA.out).cells
          refine wp_region_held_drew (S := fun w' => w'.cell? ⟨tb, 0, none⟩ = some (.slice (some ⟨b, off, none⟩) A.length cap) ∧ w'.cell? ⟨b, off + j * 4, none⟩ = some (.int .i64 y.num) ∧ w'.cell? ⟨w.heap.size, 0, none⟩ = some (.int .i64 r.num)) (by kernel_rfl) ⟨c0, q0, d0⟩ (fun hHeld => ?_)
          refine tkH 36 (i := 0) (v := .pointer (some ⟨tb, 0, none⟩)) (h := ?_)
          simp only [Act.put, stA, st0, st1]
          refine tkH 37 (i := 1) (v := .pointer (some ⟨tb, 0, none⟩)) (h := ?_)
          simp only [Act.put, stA, st0, st1]
          refine tkH 38 (i := 2) (v := .pointer (some ⟨tb, 0, none⟩)) (h := ?_)
          simp only [Act.put, stA, st0, st1]
          refine tkH 39 (i := 3) (v := .slice (some ⟨b, off, none⟩) A.length cap) (h := ?_)
          simp only [Act.put, stA, st0, st1]
          refine tkH 40 (i := 4) (v := .int .i64 ((j : Nat) : Int)) (h := ?_)
          simp only [Act.put, stA, st0, st1]
          refine tkH 41 (i := 5) (v := .pointer (some ⟨b, off + j * 4, none⟩)) (h := ?_)
          simp only [Act.put, stA, st0, st1]
          refine tkH 42 (i := 6) (v := .pointer (some ⟨b, off + j * 4, none⟩)) (h := ?_)
          simp only [Act.put, stA, st0, st1]
          refine tkH 43 (i := 7) (v := .int .i64 y.num) (h := ?_)
          simp only [Act.put, stA, st0, st1]
          refine tkH 44 (i := 8) (v := .pointer (some ⟨w.heap.size, 0, none⟩)) (h := ?_)
          simp only [Act.put, stA, st0, st1]
          refine tkH 45 (i := 9) (v := .int .i64 r.num) (h := ?_)
          simp only [Act.put, stA, st0, st1]
          refine tkH 46 (i := 10) (v := .bool false) (h := ?_)
          simp only [Act.put, stA, st0, st1]
          refine wpAnyH_done (by kernel_rfl) ?_ _
          clear hHeld c0 q0 q1 q2 q3 d0 d1 d2 d3
          have hst : Below wa.heap.size wa wa.drew := (Below.refl _ wa).drew
          generalize wa.drew = wc at hst ⊢
          have HBC := Lib.hid (HBA.out.trans (hst.mono HBA.out.size))
          have HOC := Lib.hid (WT.owns_later HOA.out hst)
          clear hst
          clear he
          have hw2 := HW2.out
          go_wp2
          go_roundw
          case rel => exact ⟨j + 1, true, acc, HLT.out, (by first | exact num_up hw2 | rfl), rfl, HOC, Lib.hid ⟨HFIN.out, by clear hw2; have := HAC.out; simp; omega⟩, HBC⟩
          case measure => first | exact meas_v HLT.out hw2 rfl rfl | exact meas_u HLT.out rfl rfl
        · as_aux_lemma =>
          have hst := HST.out
          rw [if_neg (fun h => Bool.noConfusion h.1), if_neg he, show (true || decide (r.num ≤ y.num)) = true by simp] at hst
          have HFIN := Lib.hid (show (acc ++ [y]) ++ putF r true (A.drop (j + 1)) = R from by simpa using hst)
          clear hst HST HI
          go_wp2_with fail
          refine wp_region_held_drew (S := fun w' => w'.cell? ⟨tb, 0, none⟩ = some (.slice (some ⟨b, off, none⟩) A.length cap) ∧ w'.cell? ⟨b, off + j * 4, none⟩ = some (.int .i64 y.num) ∧ w'.cell? ⟨w.heap.size, 0, none⟩ = some (.int .i64 r.num)) (by kernel_rfl) ⟨c0, q0, d0⟩ (fun hHeld => ?_)
          refine tkH 17 (i := 0) (v := .bool true) (h := ?_)
          simp only [Act.put, stA, st0, st1]
          refine tkH 18 (i := 1) (v := .bool false) (h := ?_)
          simp only [Act.put, stA, st0, st1]
          refine tkH 19 (i := 2) (v := .bool false) (h := ?_)
          simp only [Act.put, stA, st0, st1]
          refine tkU 20 (i := 3) (v := undef) (h := ?_)
          simp only [Act.put, stA, st0, st1]
          refine tkU 21 (i := 4) (v := undef) (h := ?_)
          simp only [Act.put, stA, st0, st1]
          refine tkU 22 (i := 5) (v := undef) (h := ?_)
          simp only [Act.put, stA, st0, st1]
          refine tkU 23 (i := 6) (v := undef) (h := ?_)
          simp only [Act.put, stA, st0, st1]
          refine tkU 24 (i := 7) (v := undef) (h := ?_)
          simp only [Act.put, stA, st0, st1]
          refine tkU 25 (i := 8) (v := undef) (h := ?_)
          simp only [Act.put, stA, st0, st1]
          refine tkU 26 (i := 9) (v := undef) (h := ?_)
          simp only [Act.put, stA, st0, st1]
          refine tkU 27 (i := 10) (v := undef) (h := ?_)
          simp only [Act.put, stA, st0, st1]
          refine tkU 28 (i := 11) (v := undef) (h := ?_)
          simp only [Act.put, stA, st0, st1]
          refine tkU 29 (i := 12) (v := undef) (h := ?_)
          simp only [Act.put, stA, st0, st1]
          refine tkU 30 (i := 13) (v := undef) (h := ?_)
          simp only [Act.put, stA, st0, st1]
          refine tkH 31 (i := 14) (v := .bool false) (h := ?_)
          simp only [Act.put, stA, st0, st1]
          refine wpAnyH_done (by kernel_rfl) ?_ _
          clear hHeld c0 q0 q1 q2 q3 d0 d1 d2 d3
          have hst : Below wr.heap.size wr wr.drew := (Below.refl _ wr).drew
          generalize wr.drew = wa at hst ⊢
          have HBA := Lib.hid (HB.out.trans (hst.mono HB.out.size))
          have HOA := Lib.hid (WT.owns_later HRW.out hst)
          clear hst
          go_wp2_with fail
          obtain ⟨c0, q0, q1, q2, q3⟩ := HQ.out wa HBA.out
          obtain ⟨d0, d1, d2, d3⟩ := (NdeAt.later' HZ.out HBA.out).cells
          refine wp_region_held_drew (S := fun w' => w'.cell? ⟨tb, 0, none⟩ = some (.slice (some ⟨b, off, none⟩) A.length cap) ∧ w'.cell? ⟨b, off + j * 4, none⟩ = some (.int .i64 y.num) ∧ w'.cell? ⟨w.heap.size, 0, none⟩ = some (.int .i64 r.num)) (by kernel_rfl) ⟨c0, q0, d0⟩ (fun hHeld => ?_)
          refine tkH 36 (i := 0) (v := .pointer (some ⟨tb, 0, none⟩)) (h := ?_)
          simp only [Act.put, stA, st0, st1]
          refine tkH 37 (i := 1) (v := .pointer (some ⟨tb, 0, none⟩)) (h := ?_)
          simp only [Act.put, stA, st0, st1]
          refine tkH 38 (i := 2) (v := .pointer (some ⟨tb, 0, none⟩)) (h := ?_)
          simp only [Act.put, stA, st0, st1]
          refine tkH 39 (i := 3) (v := .slice (some ⟨b, off, none⟩) A.length cap) (h := ?_)
          simp only [Act.put, stA, st0, st1]
          refine tkH 40 (i := 4) (v := .int .i64 ((j : Nat) : Int)) (h := ?_)
          simp only [Act.put, stA, st0, st1]
          refine tkH 41 (i := 5) (v := .pointer (some ⟨b, off + j * 4, none⟩)) (h := ?_)
          simp only [Act.put, stA, st0, st1]
          refine tkH 42 (i := 6) (v := .pointer (some ⟨b, off + j * 4, none⟩)) (h := ?_)
          simp only [Act.put, stA, st0, st1]
          refine tkH 43 (i := 7) (v := .int .i64 y.num) (h := ?_)
          simp only [Act.put, stA, st0, st1]
          refine tkH 44 (i := 8) (v := .pointer (some ⟨w.heap.size, 0, none⟩)) (h := ?_)
          simp only [Act.put, stA, st0, st1]
          refine tkH 45 (i := 9) (v := .int .i64 r.num) (h := ?_)
          simp only [Act.put, stA, st0, st1]
          refine tkH 46 (i := 10) (v := .bool true) (h := ?_)
          simp only [Act.put, stA, st0, st1]
          refine wpAnyH_done (by kernel_rfl) ?_ _
          clear hHeld c0 q0 q1 q2 q3 d0 d1 d2 d3
          have hst : Below wa.heap.size wa wa.drew := (Below.refl _ wa).drew
          generalize wa.drew = wc at hst ⊢
          have HBC := Lib.hid (HBA.out.trans (hst.mono HBA.out.size))
          have HOC := Lib.hid (WT.owns_later HOA.out hst)
          clear hst
          clear he
          have hrow := HOC.out
          have hlo := HBC.out.size
          have hac := HAC.out
          obtain ⟨c0, q0, q1, q2, q3⟩ := HQ.out wc HBC.out
          obtain ⟨d0, d1, d2, d3⟩ := (NdeAt.later' HZ.out HBC.out).cells
          go_wp2_with (at_builtin; go_loud (refine wpList_append_own _ rfl _ _ 32 rfl w1.heap.size 38 i0 (.agg #[.int .i64 0, .bool false, .int .i64 0, .string ⟨#[]⟩]) 4 40 Tryz.underlying32 hi hz0 hz1 hz2 rfl (by decide) _ _ _ rfl (hrow.alloc _) ⟨wc.heap.size, 0, none⟩ 1 1 [.int .i64 y.num, .bool y.dir, .int .i64 y.links, .string y.data] rfl rfl (WT.cells_new wc [.int .i64 y.num, .bool y.dir, .int .i64 y.links, .string y.data] _) (by simp [Value.oneCell']) (by unfold maxLen; omega) (by omega) (by simp; omega) ?_; intro v' wd hown' hgrow _; have hG : Below w1.heap.size wc wd := ((Below.refl _ wc).alloc hlo _).grown hgrow (by simp; omega) (fun j ej => (hrow.lt j ej).1); have HO := Lib.hid hown'; obtain ⟨av2, cv2, rfl⟩ := WT.row_shape hown'; clear hown' hgrow))
          have HBD := Lib.hid (HBC.out.trans hG)
          have HOD := Lib.hid (show wd.ownsRow w1.heap.size 38 4 (.slice av2 (acc.length + 1) cv2) (acc ++ [y]).length ((acc ++ [y]).flatMap ndeC) from by rw [flat_snoc]; simp only [List.length_append, List.length_singleton]; exact HO.out)
          clear hG HO hrow c0 q0 q1 q2 q3 d0 d1 d2 d3
          have hw2 := HW2.out
          go_roundw
          case rel => exact ⟨j + 1, true, (acc ++ [y]), HLT.out, (by first | exact num_up hw2 | rfl), rfl, HOD, Lib.hid ⟨HFIN.out, by clear hw2; have := HAC.out; simp; omega⟩, HBD⟩
          case measure => first | exact meas_v HLT.out hw2 rfl rfl | exact meas_u HLT.out rfl rfl
      | false =>
        by_cases hle : r.num ≤ y.num
        · by_cases he : y.num = r.num
          · as_aux_lemma =>
            have hst := HST.out
            rw [if_pos ⟨rfl, hle⟩, if_pos he, show (false || decide (r.num ≤ y.num)) = true by simp [hle]] at hst
            have HFIN := Lib.hid (show (acc ++ [r]) ++ putF r true (A.drop (j + 1)) = R from by simpa using hst)
            clear hst HST HI
            have b1 : r.num ≤ y.num := by omega
            clear hle
            go_wp2_with fail
            refine wp_region_held_drew (S := fun w' => w'.cell? ⟨tb, 0, none⟩ = some (.slice (some ⟨b, off, none⟩) A.length cap) ∧ w'.cell? ⟨b, off + j * 4, none⟩ = some (.int .i64 y.num) ∧ w'.cell? ⟨w.heap.size, 0, none⟩ = some (.int .i64 r.num)) (by kernel_rfl) ⟨c0, q0, d0⟩ (fun hHeld => ?_)
            refine tkH 17 (i := 0) (v := .bool false) (h := ?_)
            simp only [Act.put, stA, st0, st1]
            refine tkH 18 (i := 1) (v := .bool true) (h := ?_)
            simp only [Act.put, stA, st0, st1]
            refine tkH 19 (i := 2) (v := .bool true) (h := ?_)
            simp only [Act.put, stA, st0, st1]
            refine tkH 20 (i := 3) (v := .pointer (some ⟨tb, 0, none⟩)) (h := ?_)
            simp only [Act.put, stA, st0, st1]
            refine tkH 21 (i := 4) (v := .pointer (some ⟨tb, 0, none⟩)) (h := ?_)
            simp only [Act.put, stA, st0, st1]
            refine tkH 22 (i := 5) (v := .pointer (some ⟨tb, 0, none⟩)) (h := ?_)
            simp only [Act.put, stA, st0, st1]
            refine tkH 23 (i := 6) (v := .slice (some ⟨b, off, none⟩) A.length cap) (h := ?_)
            simp only [Act.put, stA, st0, st1]
            refine tkH 24 (i := 7) (v := .int .i64 ((j : Nat) : Int)) (h := ?_)
            simp only [Act.put, stA, st0, st1]
            refine tkH 25 (i := 8) (v := .pointer (some ⟨b, off + j * 4, none⟩)) (h := ?_)
            simp only [Act.put, stA, st0, st1]
            refine tkH 26 (i := 9) (v := .pointer (some ⟨b, off + j * 4, none⟩)) (h := ?_)
            simp only [Act.put, stA, st0, st1]
            refine tkH 27 (i := 10) (v := .int .i64 y.num) (h := ?_)
            simp only [Act.put, stA, st0, st1]
            refine tkH 28 (i := 11) (v := .pointer (some ⟨w.heap.size, 0, none⟩)) (h := ?_)
            simp only [Act.put, stA, st0, st1]
            refine tkH 29 (i := 12) (v := .int .i64 r.num) (h := ?_)
            simp only [Act.put, stA, st0, st1]
            refine tkH 30 (i := 13) (v := .bool true) (h := ?_)
            simp only [Act.put, stA, st0, st1]
            refine tkH 31 (i := 14) (v := .bool true) (h := ?_)
            simp only [Act.put, stA, st0, st1]
            refine wpAnyH_done (by kernel_rfl) ?_ _
            clear hHeld c0 q0 q1 q2 q3 d0 d1 d2 d3
            have hst : Below wr.heap.size wr wr.drew := (Below.refl _ wr).drew
            generalize wr.drew = wa at hst ⊢
            have HBA := Lib.hid (HB.out.trans (hst.mono HB.out.size))
            have HOA := Lib.hid (WT.owns_later HRW.out hst)
            clear hst
            have hrow := HOA.out
            have hlo := HBA.out.size
            have hac := HAC.out
            obtain ⟨c0, q0, q1, q2, q3⟩ := HQ.out wa HBA.out
            obtain ⟨d0, d1, d2, d3⟩ := (NdeAt.later' HZ.out HBA.out).cells
            go_wp2_with (at_builtin; go_loud (refine wpList_append_own _ rfl _ _ 32 rfl w1.heap.size 38 i0 (.agg #[.int .i64 0, .bool false, .int .i64 0, .string ⟨#[]⟩]) 4 40 Tryz.underlying32 hi hz0 hz1 hz2 rfl (by decide) _ _ _ rfl (hrow.alloc _) ⟨wa.heap.size, 0, none⟩ 1 1 [.int .i64 r.num, .bool r.dir, .int .i64 r.links, .string r.data] rfl rfl (WT.cells_new wa [.int .i64 r.num, .bool r.dir, .int .i64 r.links, .string r.data] _) (by simp [Value.oneCell']) (by unfold maxLen; omega) (by omega) (by simp; omega) ?_; intro v' wb hown' hgrow _; have hG : Below w1.heap.size wa wb := ((Below.refl _ wa).alloc hlo _).grown hgrow (by simp; omega) (fun j ej => (hrow.lt j ej).1); have HO := Lib.hid hown'; obtain ⟨av2, cv2, rfl⟩ := WT.row_shape hown'; clear hown' hgrow))
            have HBB := Lib.hid (HBA.out.trans hG)
            have HOB := Lib.hid (show wb.ownsRow w1.heap.size 38 4 (.slice av2 (acc.length + 1) cv2) (acc ++ [r]).length ((acc ++ [r]).flatMap ndeC) from by rw [flat_snoc]; simp only [List.length_append, List.length_singleton]; exact HO.out)
            clear hG HO hrow c0 q0 q1 q2 q3 d0 d1 d2 d3
            obtain ⟨c0, q0, q1, q2, q3⟩ := HQ.out wb HBB.out
            obtain ⟨d0, d1, d2, d3⟩ := (NdeAt.later' HZ.out HBB.out).cells
            refine wp_region_held_drew (S := fun w' => w'.cell? ⟨tb, 0, none⟩ = some (.slice (some ⟨b, off, none⟩) A.length cap) ∧ w'.cell? ⟨b, off + j * 4, none⟩ = some (.int .i64 y.num) ∧ w'.cell? ⟨w.heap.size, 0, none⟩ = some (.int .i64 r.num)) (by kernel_rfl) ⟨c0, q0, d0⟩ (fun hHeld => ?_)
            refine tkH 36 (i := 0) (v := .pointer (some ⟨tb, 0, none⟩)) (h := ?_)
            simp only [Act.put, stA, st0, st1]
            refine tkH 37 (i := 1) (v := .pointer (some ⟨tb, 0, none⟩)) (h := ?_)
            simp only [Act.put, stA, st0, st1]
            refine tkH 38 (i := 2) (v := .pointer (some ⟨tb, 0, none⟩)) (h := ?_)
            simp only [Act.put, stA, st0, st1]
            refine tkH 39 (i := 3) (v := .slice (some ⟨b, off, none⟩) A.length cap) (h := ?_)
            simp only [Act.put, stA, st0, st1]
            refine tkH 40 (i := 4) (v := .int .i64 ((j : Nat) : Int)) (h := ?_)
            simp only [Act.put, stA, st0, st1]
            refine tkH 41 (i := 5) (v := .pointer (some ⟨b, off + j * 4, none⟩)) (h := ?_)
            simp only [Act.put, stA, st0, st1]
            refine tkH 42 (i := 6) (v := .pointer (some ⟨b, off + j * 4, none⟩)) (h := ?_)
            simp only [Act.put, stA, st0, st1]
            refine tkH 43 (i := 7) (v := .int .i64 y.num) (h := ?_)
            simp only [Act.put, stA, st0, st1]
            refine tkH 44 (i := 8) (v := .pointer (some ⟨w.heap.size, 0, none⟩)) (h := ?_)
            simp only [Act.put, stA, st0, st1]
            refine tkH 45 (i := 9) (v := .int .i64 r.num) (h := ?_)
            simp only [Act.put, stA, st0, st1]
            refine tkH 46 (i := 10) (v := .bool false) (h := ?_)
            simp only [Act.put, stA, st0, st1]
            refine wpAnyH_done (by kernel_rfl) ?_ _
            clear hHeld c0 q0 q1 q2 q3 d0 d1 d2 d3
            have hst : Below wb.heap.size wb wb.drew := (Below.refl _ wb).drew
            generalize wb.drew = wc at hst ⊢
            have HBC := Lib.hid (HBB.out.trans (hst.mono HBB.out.size))
            have HOC := Lib.hid (WT.owns_later HOB.out hst)
            clear hst
            clear he
            have hw2 := HW2.out
            go_wp2
            go_roundw
            case rel => exact ⟨j + 1, true, (acc ++ [r]), HLT.out, (by first | exact num_up hw2 | rfl), rfl, HOC, Lib.hid ⟨HFIN.out, by clear hw2; have := HAC.out; simp; omega⟩, HBC⟩
            case measure => first | exact meas_v HLT.out hw2 rfl rfl | exact meas_u HLT.out rfl rfl
          · as_aux_lemma =>
            have hst := HST.out
            rw [if_pos ⟨rfl, hle⟩, if_neg he, show (false || decide (r.num ≤ y.num)) = true by simp [hle]] at hst
            have HFIN := Lib.hid (show ((acc ++ [r]) ++ [y]) ++ putF r true (A.drop (j + 1)) = R from by simpa using hst)
            clear hst HST HI
            have b1 : r.num ≤ y.num := by omega
            clear hle
            go_wp2_with fail
            refine wp_region_held_drew (S := fun w' => w'.cell? ⟨tb, 0, none⟩ = some (.slice (some ⟨b, off, none⟩) A.length cap) ∧ w'.cell? ⟨b, off + j * 4, none⟩ = some (.int .i64 y.num) ∧ w'.cell? ⟨w.heap.size, 0, none⟩ = some (.int .i64 r.num)) (by kernel_rfl) ⟨c0, q0, d0⟩ (fun hHeld => ?_)
            refine tkH 17 (i := 0) (v := .bool false) (h := ?_)
            simp only [Act.put, stA, st0, st1]
            refine tkH 18 (i := 1) (v := .bool true) (h := ?_)
            simp only [Act.put, stA, st0, st1]
            refine tkH 19 (i := 2) (v := .bool true) (h := ?_)
            simp only [Act.put, stA, st0, st1]
            refine tkH 20 (i := 3) (v := .pointer (some ⟨tb, 0, none⟩)) (h := ?_)
            simp only [Act.put, stA, st0, st1]
            refine tkH 21 (i := 4) (v := .pointer (some ⟨tb, 0, none⟩)) (h := ?_)
            simp only [Act.put, stA, st0, st1]
            refine tkH 22 (i := 5) (v := .pointer (some ⟨tb, 0, none⟩)) (h := ?_)
            simp only [Act.put, stA, st0, st1]
            refine tkH 23 (i := 6) (v := .slice (some ⟨b, off, none⟩) A.length cap) (h := ?_)
            simp only [Act.put, stA, st0, st1]
            refine tkH 24 (i := 7) (v := .int .i64 ((j : Nat) : Int)) (h := ?_)
            simp only [Act.put, stA, st0, st1]
            refine tkH 25 (i := 8) (v := .pointer (some ⟨b, off + j * 4, none⟩)) (h := ?_)
            simp only [Act.put, stA, st0, st1]
            refine tkH 26 (i := 9) (v := .pointer (some ⟨b, off + j * 4, none⟩)) (h := ?_)
            simp only [Act.put, stA, st0, st1]
            refine tkH 27 (i := 10) (v := .int .i64 y.num) (h := ?_)
            simp only [Act.put, stA, st0, st1]
            refine tkH 28 (i := 11) (v := .pointer (some ⟨w.heap.size, 0, none⟩)) (h := ?_)
            simp only [Act.put, stA, st0, st1]
            refine tkH 29 (i := 12) (v := .int .i64 r.num) (h := ?_)
            simp only [Act.put, stA, st0, st1]
            refine tkH 30 (i := 13) (v := .bool true) (h := ?_)
            simp only [Act.put, stA, st0, st1]
            refine tkH 31 (i := 14) (v := .bool true) (h := ?_)
            simp only [Act.put, stA, st0, st1]
            refine wpAnyH_done (by kernel_rfl) ?_ _
            clear hHeld c0 q0 q1 q2 q3 d0 d1 d2 d3
            have hst : Below wr.heap.size wr wr.drew := (Below.refl _ wr).drew
            generalize wr.drew = wa at hst ⊢
            have HBA := Lib.hid (HB.out.trans (hst.mono HB.out.size))
            have HOA := Lib.hid (WT.owns_later HRW.out hst)
            clear hst
            have hrow := HOA.out
            have hlo := HBA.out.size
            have hac := HAC.out
            obtain ⟨c0, q0, q1, q2, q3⟩ := HQ.out wa HBA.out
            obtain ⟨d0, d1, d2, d3⟩ := (NdeAt.later' HZ.out HBA.out).cells
            go_wp2_with (at_builtin; go_loud (refine wpList_append_own _ rfl _ _ 32 rfl w1.heap.size 38 i0 (.agg #[.int .i64 0, .bool false, .int .i64 0, .string ⟨#[]⟩]) 4 40 Tryz.underlying32 hi hz0 hz1 hz2 rfl (by decide) _ _ _ rfl (hrow.alloc _) ⟨wa.heap.size, 0, none⟩ 1 1 [.int .i64 r.num, .bool r.dir, .int .i64 r.links, .string r.data] rfl rfl (WT.cells_new wa [.int .i64 r.num, .bool r.dir, .int .i64 r.links, .string r.data] _) (by simp [Value.oneCell']) (by unfold maxLen; omega) (by omega) (by simp; omega) ?_; intro v' wb hown' hgrow _; have hG : Below w1.heap.size wa wb := ((Below.refl _ wa).alloc hlo _).grown hgrow (by simp; omega) (fun j ej => (hrow.lt j ej).1); have HO := Lib.hid hown'; obtain ⟨av2, cv2, rfl⟩ := WT.row_shape hown'; clear hown' hgrow))
            have HBB := Lib.hid (HBA.out.trans hG)
            have HOB := Lib.hid (show wb.ownsRow w1.heap.size 38 4 (.slice av2 (acc.length + 1) cv2) (acc ++ [r]).length ((acc ++ [r]).flatMap ndeC) from by rw [flat_snoc]; simp only [List.length_append, List.length_singleton]; exact HO.out)
            clear hG HO hrow c0 q0 q1 q2 q3 d0 d1 d2 d3
            obtain ⟨c0, q0, q1, q2, q3⟩ := HQ.out wb HBB.out
            obtain ⟨d0, d1, d2, d3⟩ := (NdeAt.later' HZ.out HBB.out).cells
            refine wp_region_held_drew (S := fun w' => w'.cell? ⟨tb, 0, none⟩ = some (.slice (some ⟨b, off, none⟩) A.length cap) ∧ w'.cell? ⟨b, off + j * 4, none⟩ = some (.int .i64 y.num) ∧ w'.cell? ⟨w.heap.size, 0, none⟩ = some (.int .i64 r.num)) (by kernel_rfl) ⟨c0, q0, d0⟩ (fun hHeld => ?_)
            refine tkH 36 (i := 0) (v := .pointer (some ⟨tb, 0, none⟩)) (h := ?_)
            simp only [Act.put, stA, st0, st1]
            refine tkH 37 (i := 1) (v := .pointer (some ⟨tb, 0, none⟩)) (h := ?_)
            simp only [Act.put, stA, st0, st1]
            refine tkH 38 (i := 2) (v := .pointer (some ⟨tb, 0, none⟩)) (h := ?_)
            simp only [Act.put, stA, st0, st1]
            refine tkH 39 (i := 3) (v := .slice (some ⟨b, off, none⟩) A.length cap) (h := ?_)
            simp only [Act.put, stA, st0, st1]
            refine tkH 40 (i := 4) (v := .int .i64 ((j : Nat) : Int)) (h := ?_)
            simp only [Act.put, stA, st0, st1]
            refine tkH 41 (i := 5) (v := .pointer (some ⟨b, off + j * 4, none⟩)) (h := ?_)
            simp only [Act.put, stA, st0, st1]
            refine tkH 42 (i := 6) (v := .pointer (some ⟨b, off + j * 4, none⟩)) (h := ?_)
            simp only [Act.put, stA, st0, st1]
            refine tkH 43 (i := 7) (v := .int .i64 y.num) (h := ?_)
            simp only [Act.put, stA, st0, st1]
            refine tkH 44 (i := 8) (v := .pointer (some ⟨w.heap.size, 0, none⟩)) (h := ?_)
            simp only [Act.put, stA, st0, st1]
            refine tkH 45 (i := 9) (v := .int .i64 r.num) (h := ?_)
            simp only [Act.put, stA, st0, st1]
            refine tkH 46 (i := 10) (v := .bool true) (h := ?_)
            simp only [Act.put, stA, st0, st1]
            refine wpAnyH_done (by kernel_rfl) ?_ _
            clear hHeld c0 q0 q1 q2 q3 d0 d1 d2 d3
            have hst : Below wb.heap.size wb wb.drew := (Below.refl _ wb).drew
            generalize wb.drew = wc at hst ⊢
            have HBC := Lib.hid (HBB.out.trans (hst.mono HBB.out.size))
            have HOC := Lib.hid (WT.owns_later HOB.out hst)
            clear hst
            clear he
            have hrow := HOC.out
            have hlo := HBC.out.size
            have hac := HAC.out
            obtain ⟨c0, q0, q1, q2, q3⟩ := HQ.out wc HBC.out
            obtain ⟨d0, d1, d2, d3⟩ := (NdeAt.later' HZ.out HBC.out).cells
            obtain ⟨av1, hav1⟩ : ∃ x, av2 = x := ⟨_, rfl⟩
            obtain ⟨cv1, hcv1⟩ : ∃ x, cv2 = x := ⟨_, rfl⟩
            rw [hav1, hcv1] at hrow ⊢
            rw [List.length_append, List.length_singleton] at hrow
            clear hav1 hcv1
            go_wp2_with (at_builtin; go_loud (refine wpList_append_own _ rfl _ _ 32 rfl w1.heap.size 38 i0 (.agg #[.int .i64 0, .bool false, .int .i64 0, .string ⟨#[]⟩]) 4 40 Tryz.underlying32 hi hz0 hz1 hz2 rfl (by decide) _ _ _ rfl (hrow.alloc _) ⟨wc.heap.size, 0, none⟩ 1 1 [.int .i64 y.num, .bool y.dir, .int .i64 y.links, .string y.data] rfl rfl (WT.cells_new wc [.int .i64 y.num, .bool y.dir, .int .i64 y.links, .string y.data] _) (by simp [Value.oneCell']) (by unfold maxLen; omega) (by omega) (by simp; omega) ?_; intro v' wd hown' hgrow _; have hG : Below w1.heap.size wc wd := ((Below.refl _ wc).alloc hlo _).grown hgrow (by simp; omega) (fun j ej => (hrow.lt j ej).1); have HO := Lib.hid hown'; obtain ⟨av2, cv2, rfl⟩ := WT.row_shape hown'; clear hown' hgrow))
            have HBD := Lib.hid (HBC.out.trans hG)
            have HOD := Lib.hid (show wd.ownsRow w1.heap.size 38 4 (.slice av2 ((acc.length + 1) + 1) cv2) ((acc ++ [r]) ++ [y]).length (((acc ++ [r]) ++ [y]).flatMap ndeC) from by rw [flat_snoc]; simp only [List.length_append, List.length_singleton]; exact HO.out)
            clear hG HO hrow c0 q0 q1 q2 q3 d0 d1 d2 d3
            have hw2 := HW2.out
            go_roundw
            case rel => exact ⟨j + 1, true, ((acc ++ [r]) ++ [y]), HLT.out, (by first | exact num_up hw2 | rfl), rfl, HOD, Lib.hid ⟨HFIN.out, by clear hw2; have := HAC.out; simp; omega⟩, HBD⟩
            case measure => first | exact meas_v HLT.out hw2 rfl rfl | exact meas_u HLT.out rfl rfl
        · have he : ¬ y.num = r.num := fun e => hle (by omega)
          as_aux_lemma =>
            have hst := HST.out
            rw [if_neg (fun h => hle h.2), if_neg he, show (false || decide (r.num ≤ y.num)) = false by simp [hle]] at hst
            have HFIN := Lib.hid (show (acc ++ [y]) ++ putF r false (A.drop (j + 1)) = R from by simpa using hst)
            clear hst HST HI
            have b1 : ¬ r.num ≤ y.num := by omega
            clear hle
            go_wp2_with fail
            refine wp_region_held_drew (S := fun w' => w'.cell? ⟨tb, 0, none⟩ = some (.slice (some ⟨b, off, none⟩) A.length cap) ∧ w'.cell? ⟨b, off + j * 4, none⟩ = some (.int .i64 y.num) ∧ w'.cell? ⟨w.heap.size, 0, none⟩ = some (.int .i64 r.num)) (by kernel_rfl) ⟨c0, q0, d0⟩ (fun hHeld => ?_)
            refine tkH 17 (i := 0) (v := .bool false) (h := ?_)
            simp only [Act.put, stA, st0, st1]
            refine tkH 18 (i := 1) (v := .bool true) (h := ?_)
            simp only [Act.put, stA, st0, st1]
            refine tkH 19 (i := 2) (v := .bool true) (h := ?_)
            simp only [Act.put, stA, st0, st1]
            refine tkH 20 (i := 3) (v := .pointer (some ⟨tb, 0, none⟩)) (h := ?_)
            simp only [Act.put, stA, st0, st1]
            refine tkH 21 (i := 4) (v := .pointer (some ⟨tb, 0, none⟩)) (h := ?_)
            simp only [Act.put, stA, st0, st1]
            refine tkH 22 (i := 5) (v := .pointer (some ⟨tb, 0, none⟩)) (h := ?_)
            simp only [Act.put, stA, st0, st1]
            refine tkH 23 (i := 6) (v := .slice (some ⟨b, off, none⟩) A.length cap) (h := ?_)
            simp only [Act.put, stA, st0, st1]
            refine tkH 24 (i := 7) (v := .int .i64 ((j : Nat) : Int)) (h := ?_)
            simp only [Act.put, stA, st0, st1]
            refine tkH 25 (i := 8) (v := .pointer (some ⟨b, off + j * 4, none⟩)) (h := ?_)
            simp only [Act.put, stA, st0, st1]
            refine tkH 26 (i := 9) (v := .pointer (some ⟨b, off + j * 4, none⟩)) (h := ?_)
            simp only [Act.put, stA, st0, st1]
            refine tkH 27 (i := 10) (v := .int .i64 y.num) (h := ?_)
            simp only [Act.put, stA, st0, st1]
            refine tkH 28 (i := 11) (v := .pointer (some ⟨w.heap.size, 0, none⟩)) (h := ?_)
            simp only [Act.put, stA, st0, st1]
            refine tkH 29 (i := 12) (v := .int .i64 r.num) (h := ?_)
            simp only [Act.put, stA, st0, st1]
            refine tkH 30 (i := 13) (v := .bool false) (h := ?_)
            simp only [Act.put, stA, st0, st1]
            refine tkH 31 (i := 14) (v := .bool false) (h := ?_)
            simp only [Act.put, stA, st0, st1]
            refine wpAnyH_done (by kernel_rfl) ?_ _
            clear hHeld c0 q0 q1 q2 q3 d0 d1 d2 d3
            have hst : Below wr.heap.size wr wr.drew := (Below.refl _ wr).drew
            generalize wr.drew = wa at hst ⊢
            have HBA := Lib.hid (HB.out.trans (hst.mono HB.out.size))
            have HOA := Lib.hid (WT.owns_later HRW.out hst)
            clear hst
            go_wp2_with fail
            obtain ⟨c0, q0, q1, q2, q3⟩ := HQ.out wa HBA.out
            obtain ⟨d0, d1, d2, d3⟩ := (NdeAt.later' HZ.out HBA.out).cells
            refine wp_region_held_drew (S := fun w' => w'.cell? ⟨tb, 0, none⟩ = some (.slice (some ⟨b, off, none⟩) A.length cap) ∧ w'.cell? ⟨b, off + j * 4, none⟩ = some (.int .i64 y.num) ∧ w'.cell? ⟨w.heap.size, 0, none⟩ = some (.int .i64 r.num)) (by kernel_rfl) ⟨c0, q0, d0⟩ (fun hHeld => ?_)
            refine tkH 36 (i := 0) (v := .pointer (some ⟨tb, 0, none⟩)) (h := ?_)
            simp only [Act.put, stA, st0, st1]
            refine tkH 37 (i := 1) (v := .pointer (some ⟨tb, 0, none⟩)) (h := ?_)
            simp only [Act.put, stA, st0, st1]
            refine tkH 38 (i := 2) (v := .pointer (some ⟨tb, 0, none⟩)) (h := ?_)
            simp only [Act.put, stA, st0, st1]
            refine tkH 39 (i := 3) (v := .slice (some ⟨b, off, none⟩) A.length cap) (h := ?_)
            simp only [Act.put, stA, st0, st1]
            refine tkH 40 (i := 4) (v := .int .i64 ((j : Nat) : Int)) (h := ?_)
            simp only [Act.put, stA, st0, st1]
            refine tkH 41 (i := 5) (v := .pointer (some ⟨b, off + j * 4, none⟩)) (h := ?_)
            simp only [Act.put, stA, st0, st1]
            refine tkH 42 (i := 6) (v := .pointer (some ⟨b, off + j * 4, none⟩)) (h := ?_)
            simp only [Act.put, stA, st0, st1]
            refine tkH 43 (i := 7) (v := .int .i64 y.num) (h := ?_)
            simp only [Act.put, stA, st0, st1]
            refine tkH 44 (i := 8) (v := .pointer (some ⟨w.heap.size, 0, none⟩)) (h := ?_)
            simp only [Act.put, stA, st0, st1]
            refine tkH 45 (i := 9) (v := .int .i64 r.num) (h := ?_)
            simp only [Act.put, stA, st0, st1]
            refine tkH 46 (i := 10) (v := .bool true) (h := ?_)
            simp only [Act.put, stA, st0, st1]
            refine wpAnyH_done (by kernel_rfl) ?_ _
            clear hHeld c0 q0 q1 q2 q3 d0 d1 d2 d3
            have hst : Below wa.heap.size wa wa.drew := (Below.refl _ wa).drew
            generalize wa.drew = wc at hst ⊢
            have HBC := Lib.hid (HBA.out.trans (hst.mono HBA.out.size))
            have HOC := Lib.hid (WT.owns_later HOA.out hst)
            clear hst
            clear he
            have hrow := HOC.out
            have hlo := HBC.out.size
            have hac := HAC.out
            obtain ⟨c0, q0, q1, q2, q3⟩ := HQ.out wc HBC.out
            obtain ⟨d0, d1, d2, d3⟩ := (NdeAt.later' HZ.out HBC.out).cells
            go_wp2_with (at_builtin; go_loud (refine wpList_append_own _ rfl _ _ 32 rfl w1.heap.size 38 i0 (.agg #[.int .i64 0, .bool false, .int .i64 0, .string ⟨#[]⟩]) 4 40 Tryz.underlying32 hi hz0 hz1 hz2 rfl (by decide) _ _ _ rfl (hrow.alloc _) ⟨wc.heap.size, 0, none⟩ 1 1 [.int .i64 y.num, .bool y.dir, .int .i64 y.links, .string y.data] rfl rfl (WT.cells_new wc [.int .i64 y.num, .bool y.dir, .int .i64 y.links, .string y.data] _) (by simp [Value.oneCell']) (by unfold maxLen; omega) (by omega) (by simp; omega) ?_; intro v' wd hown' hgrow _; have hG : Below w1.heap.size wc wd := ((Below.refl _ wc).alloc hlo _).grown hgrow (by simp; omega) (fun j ej => (hrow.lt j ej).1); have HO := Lib.hid hown'; obtain ⟨av2, cv2, rfl⟩ := WT.row_shape hown'; clear hown' hgrow))
            have HBD := Lib.hid (HBC.out.trans hG)
            have HOD := Lib.hid (show wd.ownsRow w1.heap.size 38 4 (.slice av2 (acc.length + 1) cv2) (acc ++ [y]).length ((acc ++ [y]).flatMap ndeC) from by rw [flat_snoc]; simp only [List.length_append, List.length_singleton]; exact HO.out)
            clear hG HO hrow c0 q0 q1 q2 q3 d0 d1 d2 d3
            have hw2 := HW2.out
            go_roundw
            case rel => exact ⟨j + 1, false, (acc ++ [y]), HLT.out, (by first | exact num_up hw2 | rfl), rfl, HOD, Lib.hid ⟨HFIN.out, by clear hw2; have := HAC.out; simp; omega⟩, HBD⟩
            case measure => first | exact meas_v HLT.out hw2 rfl rfl | exact meas_u HLT.out rfl rfl
    · have hji : ¬ (j : Int) < (A.length : Int) := by omega
      obtain ⟨d0, d1, d2, d3⟩ := (NdeAt.later' HZ.out HB.out).cells
      have HE := Lib.hid (show acc ++ putF r dd [] = R from by
        have h := HI.out.1
        rw [List.drop_of_length_le (by omega)] at h
        exact h)
      have HAC := Lib.hid (show acc.length ≤ 2 * j ∧ j ≤ 1000 from ⟨HI.out.2, by have := HAL.out; omega⟩)
      have HRT := Lib.hid (fun (W : World) (hB : Below w1.heap.size w1 W) => show W.heap[tb]? = some (RTObj (.slice (some ⟨b, off, none⟩) A.length cap)) from (hB.block tb HT1.out.lt).trans HT1.out.obj)
      clear hq HI
      cases dd with
      | true => as_aux_lemma =>
        have HFin := Lib.hid (rput_close (U := putN x T) HH.out HB1.out HB.out (v := .slice av acc.length cv) (by rw [← HRN.out, ← HE.out, putF, if_pos rfl, List.append_nil]; exact HRW.out))
        have f0 := RTObj.fr (HRT.out wr HB.out)
        go_wp2
        go_end0
        exact ⟨rfl, HFin.out⟩
      | false => as_aux_lemma =>
        have hrow := HRW.out
        have hlo := HB.out.size
        have hac := HAC.out
        go_upto_region 13 with (at_builtin; go_loud (refine wpList_append_own _ rfl _ _ 32 rfl w1.heap.size 38 i0 (.agg #[.int .i64 0, .bool false, .int .i64 0, .string ⟨#[]⟩]) 4 40 Tryz.underlying32 hi hz0 hz1 hz2 rfl (by decide) _ _ _ rfl (hrow.alloc _) ⟨wr.heap.size, 0, none⟩ 1 1 [.int .i64 r.num, .bool r.dir, .int .i64 r.links, .string r.data] rfl rfl (WT.cells_new wr [.int .i64 r.num, .bool r.dir, .int .i64 r.links, .string r.data] _) (by simp [Value.oneCell']) (by unfold maxLen; omega) (by omega) (by simp; omega) ?_; intro v' wd hown' hgrow _; have hG : Below w1.heap.size wr wd := ((Below.refl _ wr).alloc hlo _).grown hgrow (by simp; omega) (fun j ej => (hrow.lt j ej).1); have HO := Lib.hid hown'; obtain ⟨av2, cv2, rfl⟩ := WT.row_shape hown'; clear hown' hgrow))
        have HBD := Lib.hid (HB.out.trans hG)
        have HFin := Lib.hid (rput_close (U := putN x T) HH.out HB1.out HBD.out (v := .slice av2 (acc.length + 1) cv2) (by rw [← HRN.out, ← HE.out, putF, if_neg (by simp), flat_snoc, List.length_append]; exact HO.out))
        have f0 := RTObj.fr (HRT.out wd HBD.out)
        have g0 := RTObj.c0 (HRT.out wd HBD.out)
        clear hG HO hrow d0 d1 d2 d3 c0
        go_wp2
        go_end0
        exact ⟨rfl, HFin.out⟩
end
end Go.Proofs.YtfokdmijkniomaaGreatDoor

