/-
  A node as others see it: told.
-/
import Derived.Test.YtfokdmijkniomaaGreatDoorF5
import Derived.Test.YtfokdmijkniomaaGreatDoorTabH
import Derived.Laws.ResultCell
import Derived.Deep.RegionHeld3
import Derived.Laws.OwnMore
import Derived.OwnWalk
namespace Go.Proofs.YtfokdmijkniomaaGreatDoor
open Go.RowKit Go Go.Maps

section
variable {w w' : World} {b : Nat} {p : Option Nat} {x : Nod}
set_option maxRecDepth 100000 in
set_option maxHeartbeats 8000000 in
theorem told_any (h : NodeAt w b p x) (hr : RiseE x.names) (hl : x.names.length ≤ 60) (hok : ∀ e ∈ x.names, EntOk e) :
    Calls Tryz.prog 39 #[.pointer (some ⟨b, 0, none⟩)] w fun e w' => e = .returned (ndeV (told x)) ∧ Below w.heap.size w w' := by
  obtain ⟨w1, hw1⟩ : ∃ w1, w.alloc (NdeObj zeroN) = w1 := ⟨_, rfl⟩
  have hB1 : Below w.heap.size w w1 := by rw [← hw1]; exact (Below.refl _ w).alloc (Nat.le_refl _) _
  have z1 : NdeAt zeroN w.heap.size w1 := by rw [← hw1]; exact .new _ _
  have hs1 : w1.heap.size = w.heap.size + 1 := by rw [← hw1]; exact Array.size_push _
  have o1 : w1.heap[b]? = some (NObj x p) := keeps_of hB1 h.obj
  have c0 := NObj.c0 o1
  have c1 := NObj.c1 o1
  have c2 := NObj.c2 o1
  have c3 := NObj.c3 o1
  have oz : (w1.alloc (NdeObj zeroN)).heap[b]? = some (NObj x p) := keeps_of ((Below.refl _ w1).alloc (Nat.le_refl _) _) o1
  have z0 := NObj.c0 oz
  have z1' := NObj.c1 oz
  have z2' := NObj.c2 oz
  have z3 := NObj.c3 oz
  unfold NdeObj zeroN at z0 z1' z2' z3
  simp only at z0 z1' z2' z3
  clear oz
  obtain ⟨w2, hw2⟩ : ∃ w2, w1.alloc (NdeObj ⟨x.num, x.dir, x.links, x.data⟩) = w2 := ⟨_, rfl⟩
  have hB2 : Below w1.heap.size w1 w2 := by rw [← hw2]; exact (Below.refl _ w1).alloc (Nat.le_refl _) _
  have n2 : NdeAt ⟨x.num, x.dir, x.links, x.data⟩ w1.heap.size w2 := by rw [← hw2]; exact .new _ _
  have z2 : NdeAt zeroN w.heap.size w2 := z1.later hB2
  have o2 := keeps_of hB2 o1
  have d0 := NObj.c0 o2
  have d1 := NObj.c1 o2
  have d2 := NObj.c2 o2
  have d3 := NObj.c3 o2
  have HH := Lib.hid h
  have HBW := Lib.hid (hB1.trans (hB2.mono hB1.size))
  have HO2 := Lib.hid o2
  have HN2 := Lib.hid n2
  have HZ2 := Lib.hid z2
  have HS1 := Lib.hid hs1
  have HNM := Lib.hid ((h.names.stay (Stir.of_below (F := fun _ => False) hB1) (fun _ _ f => f)).stay (Stir.of_below (F := fun _ => False) hB2) (fun _ _ f => f))
  have HR := Lib.hid hr
  have HL := Lib.hid hl
  have HOK := Lib.hid hok
  have hbl := lt_of_heap h.obj
  have HBL := Lib.hid hbl
  obtain ⟨q0, q1, q2, q3⟩ := n2.cells
  simp only at q0 q1 q2 q3
  unfold zeroN NdeObj at hw1
  unfold NdeObj at hw2
  simp only at hw1 hw2
  clear h hB1 z1 o1 hB2 n2 z2 o2 hr hl hok hbl hs1
  unfold ndeV told
  simp only
  obtain ⟨R, hR⟩ : ∃ R, toldB x = R := ⟨_, rfl⟩
  have HTB := Lib.hid hR
  rw [hR]
  clear hR
  cases hd : x.dir with
  | false =>
    rw [hd] at hw2 c1 d1 q1 z1'
    have HRE := Lib.hid (show x.data = R by rw [← HTB.out]; unfold toldB; simp [hd])
    obtain ⟨u1, u2, u3, u4, ⟨e1, e2, e3, e4⟩, ⟨s1, s2, s3, s4⟩, ⟨f1, f2, f3, f4⟩, ha6, hs6⟩ := nde_store ⟨x.num, false, x.links, x.data⟩ (show NdeAt zeroN w.heap.size w2.drew from ⟨HZ2.out.obj⟩)
    have HB6 := Lib.hid (((Stir.of_below (F := fun i => i = w.heap.size) HBW.out).drew.trans hs6 (fun i hi => .inl hi)).below (B := w.heap.size) (fun i hi => by omega) (Nat.le_refl _))
    obtain ⟨t0, t1, t2, t3⟩ := ha6.cells
    unfold zeroN at s1 s2 s3 s4
    simp only at s1 s2 s3 s4 e1 e2 e3 e4 t0 t1 t2 t3
    clear ha6 hs6
    go_enter Tryz.func39, Tryz.ntmps39
    go_wp2
    go_region_held3 (fun w' => w'.cell? ⟨b, 0, none⟩ = some (.int .i64 x.num) ∧ w'.cell? ⟨b, 1, none⟩ = some (.bool false) ∧ w'.cell? ⟨b, 2, none⟩ = some (.int .i64 x.links) ∧ w'.cell? ⟨b, 3, none⟩ = some (.string x.data))
      (first | exact ⟨c0, c1, c2, c3⟩ | exact ⟨d0, d1, d2, d3⟩ | exact ⟨z0, z1', z2', z3⟩) (fail)
    go_wp2
    refine bodyPost_ret ?_ rfl ⟨by rw [← HRE.out], HB6.out⟩
    rw [WT.results_cell_one rfl]
    go_simp
    try rfl
  | true =>
    rw [hd] at hw2 c1 d1 q1 z1'
    have hmay := may_of_rise HR.out (by have := HL.out; omega) HOK.out
    have HRE := Lib.hid (show bs (laidL kE x.names) = R by rw [← HTB.out]; unfold toldB; rw [if_pos hd])
    have hnm := HNM.out
    rw [hd] at hnm
    obtain ⟨g, hg⟩ := hnm.isSome
    rw [hg] at hnm
    have d4 := NObj.c4 HO2.out
    rw [hg] at d4
    have HNG := Lib.hid hnm
    have CK := keysS_any (some g) w2.drew
    have CS := sortedS_any (w := w2.drew) (b := g) hnm HR.out (by have := HL.out; omega)
    have HMAY := Lib.hid hmay
    have HD := Lib.hid hd
    clear hnm hmay
    obtain ⟨i0, hi, hz0, hz1, hz2⟩ := info_parts WT.infoEnt
    go_enter Tryz.func39, Tryz.ntmps39
    go_wp2
    go_region_held3 (fun w' => w'.cell? ⟨b, 0, none⟩ = some (.int .i64 x.num) ∧ w'.cell? ⟨b, 1, none⟩ = some (.bool true) ∧ w'.cell? ⟨b, 2, none⟩ = some (.int .i64 x.links) ∧ w'.cell? ⟨b, 3, none⟩ = some (.string x.data))
      (first | exact ⟨c0, c1, c2, c3⟩ | exact ⟨d0, d1, d2, d3⟩ | exact ⟨z0, z1', z2', z3⟩) (fail)
    go_wp2_with fail
    refine CK.mono ?_
    rintro e w3 ⟨rfl, rfl⟩
    go_wp2_with fail
    refine CS.mono ?_
    rintro e w4 ⟨v, rfl, hrow, hB4⟩
    have hB4' : Below w2.heap.size w2 w4 := ⟨hB4.os, hB4.tape, hB4.output, hB4.size, hB4.block⟩
    have hrow' : w4.ownsRow w2.heap.size 9 1 v x.names.length (strVals (x.names.map Ent.name)) := hrow
    obtain ⟨a, cap, rfl⟩ := WT.row_shape hrow'
    have HT := Lib.hid (texts_of_row (l := x.names.map Ent.name) (by rw [List.length_map]; exact hrow'))
    have HB4 := Lib.hid hB4'
    clear hrow hB4 hB4' hrow' CK CS c0 c1 c2 c3 d0 d2 d3 z0 z1' z2' z3
    go_wp2
    clear d4
    go_loopw [4, 35] (fun v i wr => ∃ j : Nat, j ≤ x.names.length ∧ i = .int .i64 j ∧ Hid (wr.ownsRow w4.heap.size 88 2 v j ((x.names.take j).flatMap entC)) ∧ Hid (Below w4.heap.size w4 wr)) (fun _ i _ => x.names.length - (intOf i).toNat)
    case atStart => exact ⟨0, Nat.zero_le _, rfl, Lib.hid (World.ownsRow_nil _ _ _ _), Lib.hid (Below.refl _ _)⟩
    case round =>
      obtain ⟨j, hj, rfl, HRW, HB⟩ := hrel
      have hrow0 := HRW.out
      obtain ⟨av0, cv0, rfl⟩ := WT.row_shape hrow0
      clear hrow0
      by_cases hlt : j < x.names.length
      · have hji : (j : Int) < (x.names.length : Int) := by omega
        obtain ⟨a', cap', ea, hcx⟩ := HT.out
        simp only [Value.slice.injEq] at ea
        obtain ⟨rfl, hdrop, rfl⟩ := ea
        clear hdrop
        obtain ⟨br, off, rfl, hca⟩ := hcx (by intro e; have e := List.map_eq_nil_iff.1 e; rw [e] at hlt; simp at hlt)
        have hcj := hca j (by rw [List.length_map]; exact hlt)
        rw [List.getElem_map] at hcj
        have q0' : wr.cell? ⟨br, off + j, none⟩ = some (.string x.names[j].name) := (HB.out.cell (p := ⟨br, off + j, none⟩) (lt_of_cell hcj)).trans hcj
        have hlk := HR.out.look (List.getElem_mem hlt)
        have hno := HOK.out x.names[j] (List.getElem_mem _)
        have hnsz : x.names[j].name.size ≤ maxLen := by have := hno.1.2.1; unfold maxLen; omega
        have HTK := Lib.hid (List.take_succ_eq_append_getElem hlt)
        have hbr : Below w2.heap.size w2 wr := HB4.out.trans (HB.out.mono HB4.out.size)
        have o5 := keeps_of hbr HO2.out
        have d4 := NObj.c4 o5
        rw [hg] at d4
        have n5 : NamesAt wr true x.names (some g) := HNG.out.stay (Stir.of_below (F := fun _ => False) hbr) (fun _ _ f => f)
        have hlook := n5.get hnsz
        rw [hlk] at hlook
        simp only [Option.getD_some] at hlook
        have hrow := HRW.out
        have hsz := HB.out.size
        have hj60 : j ≤ 60 := by have := HL.out; omega
        clear hca hcx hcj hlk hno hnsz hbr o5 n5
        generalize x.names[j] = en at *
        go_wp2_with (at_builtin; refine wpList_append_own _ rfl _ _ 85 rfl w4.heap.size 88 i0 (.agg #[.string ⟨#[]⟩, .int .i64 0]) 2 24 Tryz.underlying85 hi hz0 hz1 hz2 rfl (by decide) _ _ _ rfl (hrow.alloc _) ⟨wr.heap.size, 0, none⟩ 1 1 [.string en.name, .int .i64 en.num] rfl rfl (WT.cells_new wr [.string en.name, .int .i64 en.num] _) (by simp [Value.oneCell']) (by unfold maxLen; omega) (by omega) (by simp; omega) ?_; intro v' w5 hown' hgrow _; have hB5 : Below w4.heap.size wr w5 := ((Below.refl _ wr).alloc hsz _).grown hgrow (by simp; omega) (fun j ej => (hrow.lt j ej).1); have HB5 := Lib.hid (HB.out.trans hB5); have HO5 := Lib.hid hown'; obtain ⟨av2, cv2, rfl⟩ := WT.row_shape hown'; clear hown' hgrow hB5)
        go_roundw
        case rel => exact ⟨j + 1, by omega, by go_num, Lib.hid (by rw [HTK.out, List.flatMap_append, List.flatMap_singleton]; exact HO5.out), HB5⟩
        case measure => simp [intOf]; omega
      · have hji : ¬ (j : Int) < (x.names.length : Int) := by omega
        have hjl : j = x.names.length := by omega
        subst hjl
        have hrow := HRW.out
        rw [List.take_length] at hrow
        have CE := WT.ents_any _ x.names (by have := HL.out; omega) (fun y hy => by have := (HOK.out y hy).1.2.1; omega) wr (WT.lst_of_owns (C := entC) (fun _ => rfl) (by omega) hrow)
        rw [show WT.layV kE x.names = .tuple #[.string R, .int .i64 0] by rw [WT.layV_yes HMAY.out, HRE.out]] at CE
        have hB2r : Below w2.heap.size w2 wr := HB4.out.trans (HB.out.mono HB4.out.size)
        have HB2R := Lib.hid hB2r
        clear hrow hB2r
        go_wp2_with fail
        refine CE.mono ?_
        rintro e w5 ⟨rfl, hB5⟩
        have hB25 : Below w2.heap.size w2 w5 := HB2R.out.trans (hB5.mono HB2R.out.size)
        have n5 : NdeAt ⟨x.num, x.dir, x.links, x.data⟩ w1.heap.size w5 := HN2.out.later hB25
        rw [HD.out] at n5
        have f5 := n5.fr 3
        have g5 := n5.cells.2.2.2
        simp only at g5
        obtain ⟨w6, hw6⟩ : ∃ w6, w5.setCell ⟨w1.heap.size, 3, none⟩ (.string R) = w6 := ⟨_, rfl⟩
        have n6 : NdeAt ⟨x.num, true, x.links, R⟩ w1.heap.size w6 := ⟨by rw [← hw6, heap_set n5.obj]; rfl⟩
        obtain ⟨q0, q1, q2, q3⟩ := n6.cells
        simp only at q0 q1 q2 q3
        have S6 : Stir (fun i => i = w1.heap.size) w5 w6 := by rw [← hw6]; exact (Stir.refl (fun i => i = w1.heap.size) w5).set (.inl rfl) _
        have z6 : NdeAt zeroN w.heap.size w6 := ((HZ2.out.later hB25)).keep S6 (by have := HS1.out; omega)
        obtain ⟨u1, u2, u3, u4, ⟨e1, e2, e3, e4⟩, ⟨s1, s2, s3, s4⟩, ⟨f1, f2, f3, f4⟩, ha6, hs6⟩ := nde_store ⟨x.num, true, x.links, R⟩ z6
        have HB6 := Lib.hid ((((Stir.of_below (F := fun i => i = w.heap.size ∨ i = w1.heap.size) (HBW.out.trans (hB25.mono HBW.out.size))).trans S6 (fun i hi => .inl (.inr hi))).trans hs6 (fun i hi => .inl (.inl hi))).below (B := w.heap.size) (fun i hi => by have := HS1.out; omega) (Nat.le_refl _))
        obtain ⟨t0, t1, t2, t3⟩ := ha6.cells
        unfold zeroN at s1 s2 s3 s4
        simp only at s1 s2 s3 s4 e1 e2 e3 e4 t0 t1 t2 t3
        clear ha6 hs6 n5 n6 z6 S6 hB25 hB5 CE
        go_wp2
        refine bodyPost_ret ?_ rfl ⟨rfl, HB6.out⟩
        rw [WT.results_cell_one rfl]
        go_simp
        try rfl
end
end Go.Proofs.YtfokdmijkniomaaGreatDoor

