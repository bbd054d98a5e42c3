/-
  The calls that every statement makes answer as the document says: fixed.
-/
import Derived.Test.YtfncoojpommfcaaGreatDoorFilFx
namespace Go.Proofs.YtfncoojpommfcaaGreatDoor
open Go.RowKit Go Go.Maps

theorem texts_stay {F : Nat → Prop} {w w' : World} {base : Nat} {v : Value} {l : List ByteArray} (h : w.ownsRow base 9 1 v l.length (strVals l)) (s : Stir F w w') (hF : ∀ k, F k → k < base) : TextsAt w' v l := by
  obtain ⟨a, cap, rfl, hc⟩ := texts_of_row h
  refine ⟨a, cap, rfl, fun hne => ?_⟩
  obtain ⟨b, off, rfl, hx⟩ := hc hne
  refine ⟨b, off, rfl, fun j hj => ?_⟩
  have hb : base ≤ b := by
    rcases h.2 with ⟨e, _⟩ | ⟨g, cap', cur, e, h2, _⟩
    · cases e
    · cases e; exact h2
  have hlt : b < w.heap.size := lt_of_cell (hx j hj)
  rw [World.cell?_of_block (w := w) (s.block b hlt (fun f => by have := hF b f; omega))]
  exact hx j hj
theorem lst_nil (w : World) : LstAt ndeC 4 w (.slice none 0 0) ([] : List Nde) := ⟨none, 0, rfl, fun h => absurd rfl h⟩
set_option maxRecDepth 100000 in
set_option maxHeartbeats 8000000 in
theorem fixed_any (w : World) (hg : GE w) : Calls Tryz.prog 25 #[] w fun e w' => e = .returned (.bool true) ∧ Below w.heap.size w w' := by
  have HG := Lib.hid hg
  have C := fnew w
  clear hg
  go_enter Tryz.func25, Tryz.ntmps25
  go_wp2_with fail
  refine C.mono ?_
  rintro e w1 ⟨c, rfl, hx1⟩
  have C1 := fdo hx1 good_new ⟨0, ⟨#[47, 97]⟩, ⟨#[]⟩, 0, ⟨#[]⟩⟩ ⟨⟨by decide, by decide⟩, ⟨by decide, by decide⟩, by decide, by decide, by decide⟩ (by decide) HG.out
  rw [fx1] at C1
  unfold cmdV at C1
  simp only at C1
  clear C hx1
  go_wp2_with fail
  refine C1.mono ?_
  rintro e w2 ⟨rfl, hx2⟩
  have C2 := fdo hx2 fxA_good ⟨4, ⟨#[47, 97]⟩, ⟨#[47, 98]⟩, 0, ⟨#[]⟩⟩ ⟨⟨by decide, by decide⟩, ⟨by decide, by decide⟩, by decide, by decide, by decide⟩ (by decide) HG.out
  rw [fx2] at C2
  unfold cmdV at C2
  simp only at C2
  clear C1 hx2
  go_wp2_with fail
  refine C2.mono ?_
  rintro e w3 ⟨rfl, hx3⟩
  have C3 := fdo hx3 fxB_good ⟨2, ⟨#[47, 98]⟩, ⟨#[]⟩, 0, ⟨#[120]⟩⟩ ⟨⟨by decide, by decide⟩, ⟨by decide, by decide⟩, by decide, by decide, by decide⟩ (by decide) HG.out
  rw [fx3] at C3
  unfold cmdV at C3
  simp only at C3
  clear C2 hx3
  go_wp2_with fail
  refine C3.mono ?_
  rintro e w4 ⟨rfl, hx4⟩
  have C4 := fread hx4 fxC_good (s := ⟨#[47, 97]⟩) (by decide) 0 9 ⟨by decide, by decide⟩ ⟨by decide, by decide⟩
  rw [fx4] at C4
  simp only at C4
  have HX4 := Lib.hid hx4
  clear C3 hx4
  go_wp2_with fail
  refine C4.mono ?_
  rintro e w5 ⟨rfl, hB5⟩
  have C5 := fdo (HX4.out.later hB5) fxC_good ⟨6, ⟨#[47, 97]⟩, ⟨#[]⟩, 0, ⟨#[]⟩⟩ ⟨⟨by decide, by decide⟩, ⟨by decide, by decide⟩, by decide, by decide, by decide⟩ (by decide) HG.out
  rw [fx5] at C5
  unfold cmdV at C5
  simp only at C5
  clear C4 hB5 HX4
  go_wp2_with fail
  refine C5.mono ?_
  rintro e w6 ⟨rfl, hx6⟩
  have C6 := fget hx6 fxD_good (s := ⟨#[47, 98]⟩) (by decide)
  rw [fx6] at C6
  unfold ndeV at C6
  simp only at C6
  have HX6 := Lib.hid hx6
  clear C5 hx6
  go_wp2_with fail
  refine C6.mono ?_
  rintro e w7 ⟨rfl, hB7⟩
  have HX7 := Lib.hid (HX6.out.later hB7)
  clear C6 hB7 HX6
  obtain ⟨w8, hw8⟩ : ∃ w8, w7.alloc (NdeObj zeroN) = w8 := ⟨_, rfl⟩
  have hB8 : Below w7.heap.size w7 w8 := by rw [← hw8]; exact (Below.refl _ w7).alloc (Nat.le_refl _) _
  have z8 : NdeAt zeroN w7.heap.size w8 := by rw [← hw8]; exact .new _ _
  obtain ⟨u1, u2, u3, u4, ⟨e1, e2, e3, e4⟩, ⟨s1, s2, s3, s4⟩, ⟨f1, f2, f3, f4⟩, ha4, hs4⟩ := nde_store ⟨2, false, 1, ⟨#[120]⟩⟩ z8
  have hB9 : Below w7.heap.size w7 u4 := ((Stir.of_below (F := fun _ => False) hB8).trans hs4 (fun i hi => .inr (by omega))).below (fun _ f => f.elim) (Nat.le_refl _)
  have HX9 := Lib.hid (HX7.out.later hB9)
  have HB79 := Lib.hid hB9
  have HN9 := Lib.hid ha4
  have C9 := flist HX9.out fxD_good (s := ⟨#[47]⟩) (by decide)
  rw [fx7] at C9
  unfold ListE at C9
  simp only at C9
  unfold zeroN NdeObj at hw8
  unfold zeroN at s1 s2 s3 s4
  simp only at hw8 s1 s2 s3 s4 e1 e2 e3 e4
  clear hB8 z8 ha4 hs4 hB9
  go_wp2_with fail
  refine C9.mono ?_
  rintro e w10 ⟨⟨v, rfl, hrow⟩, hB10⟩
  have HT10 := Lib.hid (texts_of_row hrow)
  have HX10 := Lib.hid (HX9.out.later hB10)
  have HN10 := Lib.hid (HN9.out.later hB10)
  obtain ⟨F, hT10, hFB⟩ : ∃ F, TreeIs w.heap.size F c fxD w10 ∧ ∀ k, F k → k < w7.heap.size := by
    obtain ⟨F, h1, h2⟩ := HX7.out
    exact ⟨F, (h1.later HB79.out).later hB10, fun k hk => h1.lt hk⟩
  have C10 := do_short hT10 fxD_good ⟨7, ⟨#[115]⟩, ⟨#[]⟩, 0, ⟨#[]⟩⟩ ⟨⟨by decide, by decide⟩, ⟨by decide, by decide⟩, by decide, by decide, by decide⟩ (by decide) (HG.out.below HX10.out.below)
  rw [fx8] at C10
  unfold cmdV at C10
  simp only at C10
  have HT10 := Lib.hid hT10
  have HFB := Lib.hid hFB
  have HROW := Lib.hid hrow
  have HS79 := Lib.hid (show w7.heap.size < u4.heap.size from by
    have := lt_of_heap HN9.out.obj
    exact this)
  clear C9 hB10 hrow hT10 hFB
  go_wp2_with fail
  refine C10.mono ?_
  rintro e w11 ⟨rfl, hL⟩
  obtain ⟨F', h1, h2, _⟩ := id hL
  have HX11 := Lib.hid (FxAt.left HT10.out HX10.out.below hL)
  have HN11 := Lib.hid (HN10.out.keep h2 (fun f => by have := HFB.out _ f; omega))
  have HT11 := Lib.hid (texts_stay HROW.out h2 (fun k hk => by have := HFB.out k hk; have := HS79.out; omega))
  have C11 := fget HX11.out fxD_good (s := ⟨#[98]⟩) (by decide)
  rw [fx9] at C11
  unfold ndeV zeroN at C11
  simp only at C11
  clear C10 hL h1 h2 HROW HN10 HT10 HX10 HFB HS79 HN9 HX9
  go_wp2_with fail
  refine C11.mono ?_
  rintro e w12 ⟨rfl, hB12⟩
  obtain ⟨w13, hw13⟩ : ∃ w13, w12.alloc (NdeObj zeroN) = w13 := ⟨_, rfl⟩
  have hB13 : Below w12.heap.size w12 w13 := by rw [← hw13]; exact (Below.refl _ w12).alloc (Nat.le_refl _) _
  have z13 : NdeAt zeroN w12.heap.size w13 := by rw [← hw13]; exact .new _ _
  obtain ⟨y1, y2, y3, y4, ⟨g1, g2, g3, g4⟩, ⟨r1, r2, r3, r4⟩, ⟨k1, k2, k3, k4⟩, hb4, ht4⟩ := nde_store zeroN z13
  have hB14 : Below w12.heap.size w12 y4 := ((Stir.of_below (F := fun _ => False) hB13).trans ht4 (fun i hi => .inr (by omega))).below (fun _ f => f.elim) (Nat.le_refl _)
  have HX14 := Lib.hid ((HX11.out.later hB12).later hB14)
  have HN14 := Lib.hid ((HN11.out.later hB12).later hB14)
  have HT14 := Lib.hid ((HT11.out.later hB12).later hB14)
  have C14 := fnodes HX14.out fxD_good
  unfold zeroN NdeObj at hw13
  unfold zeroN at r1 r2 r3 r4 g1 g2 g3 g4
  simp only at hw13 r1 r2 r3 r4 g1 g2 g3 g4
  clear C11 hB12 hB13 z13 hb4 ht4 hB14 HX11 HN11 HT11
  go_wp2_with fail
  refine C14.mono ?_
  rintro e w15 ⟨v2, rfl, hl15, hB15⟩
  have HX15 := Lib.hid (HX14.out.later hB15)
  have C15 := from_any (tolds fxD) (nde_in fxD_good) v2 w15 hl15 (HG.out.below HX15.out.below)
  have HN15 := Lib.hid (HN14.out.later hB15)
  have HT15 := Lib.hid (HT14.out.later hB15)
  clear C14 hl15 hB15 HX14 HN14 HT14
  go_wp2_with fail
  refine C15.mono ?_
  rintro e w16 ⟨hE, hB16⟩
  have hE2 : ∃ U cu F, Good U ∧ tolds U = tolds fxD ∧ e = .returned (.tuple #[.pointer (some ⟨cu, 0, none⟩), .int .i64 0]) ∧ TreeIs w15.heap.size F cu U w16 := by
    rcases hE with h | ⟨h, _⟩
    · exact h
    · exact absurd rfl (h fxD fxD_good)
  obtain ⟨U, cu, FU, hUG, hUT, rfl, hU⟩ := hE2
  have HX16 := Lib.hid (HX15.out.later hB16)
  have HU16 := Lib.hid (show FxAt w15 w16 cu U from ⟨FU, hU, hB16⟩)
  have HUG := Lib.hid hUG
  have HUT := Lib.hid hUT
  have HN16 := Lib.hid (HN15.out.later hB16)
  have HT16 := Lib.hid (HT15.out.later hB16)
  have C16 := from_any [] (fun r hr => (by cases hr)) _ w16 (lst_nil w16) (HG.out.below HX16.out.below)
  clear C15 hE hB16 hUG hUT hU HX15 HN15 HT15
  go_wp2_with fail
  refine C16.mono ?_
  rintro e w17 ⟨hE, hB17⟩
  have hE2 : e = .returned (.tuple #[.pointer none, .int .i64 1]) := by
    rcases hE with ⟨T, _, _, h1, h2, _⟩ | ⟨_, h⟩
    · exact absurd h2 (fx_none T h1)
    · exact h
  subst hE2
  have HX17 := Lib.hid (HX16.out.later hB17)
  have HU17 := Lib.hid (HU16.out.later hB17)
  have HN17 := Lib.hid (HN16.out.later hB17)
  have HT17 := Lib.hid (HT16.out.later hB17)
  clear C16 hE hB17 HX16 HU16 HN16 HT16
  have he := nde_eql ⟨2, false, 1, ⟨#[120]⟩⟩
  have hgd := nde_guard2 ⟨2, false, 1, ⟨#[120]⟩⟩ ⟨2, false, 1, ⟨#[120]⟩⟩
  obtain ⟨n0, n1, n2, n3⟩ := HN17.out.cells
  unfold ndeV at he hgd
  simp only at he hgd n0 n1 n2 n3
  obtain ⟨w18, hw18⟩ : ∃ w18, w17.alloc (.cells #[.string nmB] 9) = w18 := ⟨_, rfl⟩
  have hB18 : Below w17.heap.size w17 w18 := by rw [← hw18]; exact (Below.refl _ w17).alloc (Nat.le_refl _) _
  have ht18 : TextsAt w18 (.slice (some ⟨w17.heap.size, 0, none⟩) 1 1) [nmB] := ⟨_, 1, rfl, fun _ => ⟨_, 0, rfl, fun j hj => by
    have : j = 0 := by simpa using hj
    subst this
    have o : w18.heap[w17.heap.size]? = some (.cells #[.string nmB] 9 (0, 0)) := by rw [← hw18]; exact heap_alloc_new w17 _
    simp [World.cell?, o]⟩⟩
  have CS := rsame_any (HT17.out.later hB18) ht18 (by decide) (by decide)
  rw [show decide ([nmB] = [nmB]) = true by simp] at CS
  have HX18 := Lib.hid (HX17.out.later hB18)
  have HU18 := Lib.hid (HU17.out.later hB18)
  unfold nmB at hw18
  clear hB18 ht18 HX17 HU17 HN17 HT17
  go_wp2_with fail
  refine CS.mono ?_
  rintro e w19 ⟨rfl, hB19⟩
  have HX19 := Lib.hid (HX18.out.later hB19)
  have C19 := fnodes (HU18.out.later hB19) HUG.out
  clear CS hB19 HX18 HU18 he hgd n0 n1 n2 n3
  go_wp2_with fail
  refine C19.mono ?_
  rintro e w20 ⟨v3, rfl, hl20, hB20⟩
  have C20 := fnodes (HX19.out.later hB20) fxD_good
  have HL20 := Lib.hid hl20
  have HX20 := Lib.hid (HX19.out.later hB20)
  clear C19 hl20 hB20 HX19
  go_wp2_with fail
  refine C20.mono ?_
  rintro e w21 ⟨v4, rfl, hl21, hB21⟩
  have C21 := nsame_any (HL20.out.later hB21) hl21 (by rw [HUT.out]; decide) (by decide)
  have HX21 := Lib.hid (HX20.out.later hB21)
  clear C20 hl21 hB21 HL20 HX20
  go_wp2_with fail
  refine C21.mono ?_
  rintro e w22 ⟨⟨b, rfl, hb⟩, hB22⟩
  obtain rfl := hb.2 HUT.out
  have HX22 := Lib.hid (HX21.out.later hB22)
  clear C21 hb hB22 HX21
  go_wp2
  go_ret
  exact ⟨rfl, HX22.out.below⟩
end Go.Proofs.YtfncoojpommfcaaGreatDoor

