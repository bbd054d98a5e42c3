/-
  Lists' bytes: package tables' loop, at each of its three instances.
-/
import Derived.Test.YtfokdmijkniomaaGreatDoorT3
namespace Go.Proofs.YtfokdmijkniomaaGreatDoor.WT
open Go.RowKit Go

noncomputable def layV {T : Type} (K : Kd T) (l : List T) : Value := by classical exact if May K l then .tuple #[.string (bs (laidL K l)), .int .i64 0] else .tuple #[.string ⟨#[]⟩, .int .i64 120]
theorem layV_yes {T : Type} {K : Kd T} {l : List T} (h : May K l) : layV K l = .tuple #[.string (bs (laidL K l)), .int .i64 0] := by unfold layV; exact if_pos h
theorem layV_no {T : Type} {K : Kd T} {l : List T} (h : ¬ May K l) : layV K l = .tuple #[.string ⟨#[]⟩, .int .i64 120] := by unfold layV; exact if_neg h
theorem layV_form {T : Type} (K : Kd T) (l : List T) : ∃ (S : ByteArray) (e : Int), layV K l = .tuple #[.string S, .int .i64 e] := by
  by_cases h : May K l
  · exact ⟨_, _, layV_yes h⟩
  · exact ⟨_, _, layV_no h⟩
set_option maxRecDepth 100000 in
set_option maxHeartbeats 4000000 in
theorem entLay_any (v : Value) (l : List Ent) (hn : l.length ≤ 9223372036854775807) (hs : ∀ x ∈ l, x.name.size ≤ 140737488355328) (w : World) (h : LstAt entC 2 w v l) :
    Calls Tryz.prog 94 #[tblEnt, v] w fun e w' => e = .returned (layV kE l) ∧ Below w.heap.size w w' := by
  have CM := fun w' (hB : Below w.heap.size w w') => entMay_any v l hn hs w' (h.later hB)
  have HP := Lib.hid (fun (e : mayB kE l = true) => mayB_iff.1 e)
  have HQ := Lib.hid (show mayB kE l = false → ¬ May kE l from fun e k => absurd (mayB_iff.2 k) (by rw [e]; decide))
  obtain ⟨R, hR⟩ : ∃ R, layV kE l = R := ⟨_, rfl⟩
  rw [hR]
  have HR := Lib.hid hR
  clear hR
  obtain ⟨a, cap, rfl, hc⟩ := h
  generalize mayB kE l = p at *
  obtain ⟨N, hN⟩ : ∃ N, l.length = N := ⟨_, rfl⟩
  rw [hN] at hn CM ⊢
  obtain ⟨w0, hw0⟩ : ∃ w0, w.alloc tblOEnt = w0 := ⟨_, rfl⟩
  have HB0 := Lib.hid (show Below w.heap.size w w0 by rw [← hw0]; exact (Below.refl _ w).alloc (Nat.le_refl _) _)
  have HO := Lib.hid (show w0.heap[w.heap.size]? = some tblOEnt by rw [← hw0]; exact heap_alloc_new w _)
  unfold tblOEnt at hw0
  unfold tblEnt at CM ⊢
  have HT := Lib.hid (show ∀ W, Below w0.heap.size w0 W → W.cell? ⟨w.heap.size, 0, none⟩ = some (.func (.func 127) #[] #[]) ∧ W.cell? ⟨w.heap.size, 1, none⟩ = some (.func (.func 129) #[] #[]) ∧ W.cell? ⟨w.heap.size, 2, none⟩ = some (.func (.func 132) #[] #[]) ∧ W.cell? ⟨w.heap.size, 3, none⟩ = some (.func (.func 134) #[] #[]) from fun W hW => by
    have e := (hW.block _ (lt_of_heap HO.out)).trans HO.out
    exact ⟨by simp [World.cell?, e, tblOEnt], by simp [World.cell?, e, tblOEnt], by simp [World.cell?, e, tblOEnt], by simp [World.cell?, e, tblOEnt]⟩)
  have HC := Lib.hid hc
  have HN := Lib.hid hN
  clear hc hN hs
  obtain ⟨t0, t1, t2, t3⟩ := HT.out w0 (Below.refl _ _)
  have C1 := CM w0 HB0.out
  clear CM
  cases p with
  | false =>
    have HF := Lib.hid (show R = .tuple #[.string ⟨#[]⟩, .int .i64 120] by rw [← HR.out]; exact layV_no (HQ.out rfl))
    go_enter Tryz.func94, Tryz.ntmps94
    go_wp2_with fail
    refine C1.mono ?_
    rintro e w1 ⟨rfl, hB1⟩
    have HB1 := Lib.hid (HB0.out.trans (hB1.mono HB0.out.size))
    clear hB1
    go_wp2_with fail
    go_ret2
    exact ⟨by rw [HF.out]; rfl, HB1.out⟩
  | true =>
    have hmay := HP.out rfl
    have hN4 : N ≤ 4096 := by rw [← HN.out]; exact hmay.1
    have HM := Lib.hid hmay
    clear hmay
    have HF := Lib.hid (show R = .tuple #[.string (bs (laidL kE l)), .int .i64 0] by rw [← HR.out]; exact layV_yes HM.out)
    have CN := nums_new [(N : Int)] (by simp) (by intro z hz; obtain rfl := List.mem_singleton.1 hz; constructor <;> omega)
    simp only [List.map_cons, List.map_nil, List.length_cons, List.length_nil, Nat.reduceAdd, Int.toNat_natCast, layL_one] at CN
    obtain ⟨i0, hi, hz0, hz1, hz2⟩ := info_parts info9
    go_enter Tryz.func94, Tryz.ntmps94
    go_wp2_with fail
    refine C1.mono ?_
    rintro e w1 ⟨rfl, hB1⟩
    have HB1 := Lib.hid (show Below w0.heap.size w0 w1 from hB1.mono (Nat.le_refl _))
    clear hB1 C1 t0 t1 t2 t3
    go_wp2_with fail
    refine (CN _ _).mono ?_
    rintro e w2 ⟨rfl, hB2⟩
    have hB2' := HB1.out.trans (hB2.mono HB1.out.size)
    obtain ⟨w3, hw3⟩ : ∃ u, w2.alloc (.cells #[.string (bs (dg N))] 9) = u := ⟨_, rfl⟩
    have HB3 := Lib.hid (show Below w0.heap.size w0 w3 by rw [← hw3]; exact hB2'.alloc hB2'.size _)
    have HO3 := Lib.hid (show w3.ownsRow w0.heap.size 9 1 (.slice (some ⟨w2.heap.size, 0, none⟩) 1 1) 1 [.string (bs (dg N))] by rw [← hw3]; exact World.ownsRow_lit w2 #[.string (bs (dg N))] 1 hB2'.size (by decide) rfl)
    clear hB2 hB2' CN
    go_wp2_with fail
    go_loopw [6, 20] (fun v i wr => ∃ (j : Nat) (xs : List ByteArray), j ≤ N ∧ i = .int .i64 j ∧ xs.length = j + 1 ∧ flat xs = dg N ++ (l.take j).flatMap kE.enc ∧ wr.ownsRow w0.heap.size 9 1 v (j + 1) (strVs xs) ∧ Below w0.heap.size w0 wr) (fun _ i _ => N - (intOf i).toNat)
    case atStart => exact ⟨0, [bs (dg N)], Nat.zero_le _, rfl, rfl, by simp [flat, bs_list], HO3.out, HB3.out⟩
    case round =>
      obtain ⟨j, xs, hj, rfl, hxs, hfl, hrow, hB⟩ := hrel
      have HXS := Lib.hid hxs
      have HFL := Lib.hid hfl
      have HRW := Lib.hid hrow
      have HB := Lib.hid hB
      clear hxs hfl hrow hB
      by_cases hlt : j < N
      · have hl : j < l.length := by rw [HN.out]; exact hlt
        have hji : (j : Int) < (N : Int) := by omega
        obtain ⟨b, off, rfl, hb, hcells⟩ := HC.out (by intro e; rw [e] at hl; simp at hl)
        have HA := Lib.hid (HB0.out.trans (HB.out.mono HB0.out.size))
        obtain ⟨y, hy⟩ : ∃ y, l[j] = y := ⟨_, rfl⟩
        obtain ⟨c0, c1⟩ := ent_load (W := wr) (b := b) (off := off) (l := l) (fun j hj i hi => (World.cell?_of_block (w := w) (HA.out.block b hb)).trans (hcells j hj i hi)) j hl
        rw [hy] at c0 c1
        have HOK := Lib.hid (show kE.ok y by rw [← hy]; exact HM.out.ok (List.getElem_mem hl))
        have HTK := Lib.hid (show l.take (j + 1) = l.take j ++ [y] by rw [← hy]; exact List.take_succ_eq_append_getElem hl)
        clear hcells hb hy
        obtain ⟨u0, hu0⟩ : ∃ u, wr.alloc (.cells #[.string ⟨#[]⟩, .int .i64 0] 88) = u := ⟨_, rfl⟩
        have hx0 : u0.heap[wr.heap.size]? = some (.cells #[.string ⟨#[]⟩, .int .i64 0] 88 (0, 0)) := by rw [← hu0]; exact heap_alloc_new wr _
        have z0 : u0.cell? ⟨wr.heap.size, 0, none⟩ = some (.string ⟨#[]⟩) := by simp [World.cell?, hx0]
        have z1 : u0.cell? ⟨wr.heap.size, 1, none⟩ = some (.int .i64 0) := by simp [World.cell?, hx0]
        have f0 : u0.frozen? ⟨wr.heap.size, 0, none⟩ = false := by simp [World.frozen?, hx0]
        have f1 : u0.frozen? ⟨wr.heap.size, 1, none⟩ = false := by simp [World.frozen?, hx0]
        have hu : Below wr.heap.size wr u0 := by rw [← hu0]; exact (Below.refl _ wr).alloc (Nat.le_refl _) _
        obtain ⟨u1, hu1⟩ : ∃ u, ((u0.setCell ⟨wr.heap.size, 0, none⟩ (.string y.name)).setCell ⟨wr.heap.size, 1, none⟩ (.int .i64 y.num)) = u := ⟨_, rfl⟩
        have HX := Lib.hid (show u1.heap[wr.heap.size]? = some (.cells #[.string y.name, .int .i64 y.num] 88 (0, 0)) by rw [← hu1]; exact (heap_set (heap_set hx0 (i := 0) (.string y.name)) (i := 1) (.int .i64 y.num)))
        have HU := Lib.hid (show Below wr.heap.size wr u1 by rw [← hu1]; exact ((hu.setCell (p := ⟨wr.heap.size, 0, none⟩) (Nat.le_refl _) (.string y.name)).setCell (p := ⟨wr.heap.size, 1, none⟩) (Nat.le_refl _) (.int .i64 y.num)))
        clear hx0 hu
        have hr2 := HB.out.trans (HU.out.mono HB.out.size)
        obtain ⟨t0, t1, t2, t3⟩ := HT.out u1 hr2
        clear t1 t2 t3
        have hxx := HX.out
        have d0 : u1.cell? ⟨wr.heap.size, 0, none⟩ = some (.string y.name) := by simp [World.cell?, hxx]
        have d1 : u1.cell? ⟨wr.heap.size, 1, none⟩ = some (.int .i64 y.num) := by simp [World.cell?, hxx]
        clear hxx
        have HR2 := Lib.hid hr2
        clear hr2
        have C := fun w => entE_any y HOK.out w
        unfold entV at C
        obtain ⟨E, hE⟩ : ∃ E, entEnc y = E := ⟨_, rfl⟩
        rw [hE] at C
        have HE := Lib.hid hE
        clear hE
        go_wp2_with fail
        refine (C _).mono ?_
        rintro e w4 ⟨rfl, hB2⟩
        have hB3 := HR2.out.trans (hB2.mono HR2.out.size)
        have hrow2 := owns_below (owns_below HRW.out HU.out) hB2
        have hsz := hB3.size
        have HB3 := Lib.hid hB3
        clear hB2 hB3 C
        go_wp2_with (at_builtin; refine wpList_append_own _ rfl _ _ 45 rfl w0.heap.size 9 i0 (.string ⟨#[]⟩) 1 16 Tryz.underlying45 hi hz0 hz1 hz2 rfl (by decide) _ _ _ rfl (hrow2.alloc _) ⟨w4.heap.size, 0, none⟩ 1 1 [.string (bs E)] rfl rfl (cell_one_new _ _ _) (by simp [Value.oneCell']) (by unfold maxLen; omega) (by omega) (by simp; omega) ?_; intro v' w3 hown' hgrow _; have hB4 : Below w0.heap.size w4 w3 := ((Below.refl _ w4).alloc hsz _).grown hgrow (by simp; omega) (fun j ej => (hrow2.lt j ej).1); have HB4 := Lib.hid (HB3.out.trans hB4); have HO4 := Lib.hid hown'; clear hown' hgrow hB4)
        go_roundw
        case rel => exact ⟨j + 1, xs ++ [bs E], by omega, by go_num, by simp [HXS.out], by rw [flat_snoc, HFL.out, HTK.out, List.flatMap_append, bs_list, ← HE.out]; simp [kE], by rw [strVs_snoc]; exact HO4.out, HB4.out⟩
        case measure => simp [intOf]; omega
      · obtain rfl : j = N := by omega
        have hfull : l.take j = l := List.take_of_length_le (by rw [HN.out]; exact Nat.le_refl _)
        have hfl : flat xs = laidL kE l := by rw [HFL.out, hfull, laidL, HN.out]
        have hl2 : (flat xs).length ≤ 140737488355328 := by
          rw [hfl]
          have := laid_len (n := 20) (fun x hx => entEnc_len hx) HM.out
          rw [HN.out] at this
          omega
        have C := join_row _ xs wr w0.heap.size (by rw [HXS.out]; exact HRW.out) (by rw [HXS.out]; omega) hl2
        rw [hfl] at C
        clear hl2 hfull hfl
        go_wp2_with fail
        refine C.mono ?_
        rintro e w5 ⟨rfl, hB5⟩
        go_wp2_with fail
        go_ret2
        exact ⟨by rw [HF.out]; rfl, HB0.out.trans ((HB.out.trans (hB5.mono HB.out.size)).mono HB0.out.size)⟩
theorem ents_any (v : Value) (l : List Ent) (hn : l.length ≤ 9223372036854775807) (hs : ∀ x ∈ l, x.name.size ≤ 140737488355328) (w : World) (h : LstAt entC 2 w v l) :
    Calls Tryz.prog 70 #[v] w fun e w' => e = .returned (layV kE l) ∧ Below w.heap.size w w' := by
  have C1 := entT_any w
  have C2 := fun w' (hB : Below w.heap.size w w') => entLay_any v l hn hs w' (h.later hB)
  obtain ⟨S, e, hS⟩ := layV_form kE l
  rw [hS] at C2 ⊢
  go_enter Tryz.func70, Tryz.ntmps70
  go_wp2_with fail
  refine C1.mono ?_
  rintro e w1 ⟨rfl, hB1⟩
  go_wp2_with fail
  refine (C2 _ hB1).mono ?_
  rintro e w2 ⟨rfl, hB2⟩
  go_wp2_with fail
  go_ret2
  exact ⟨rfl, hB1.trans (hB2.mono hB1.size)⟩
end Go.Proofs.YtfokdmijkniomaaGreatDoor.WT

