/-
  Seal and Open.
-/
import Derived.Test.YtgeggiafjojgdaaDoorFrmE
import Derived.Deep.Cut
namespace Go.Proofs.YtgeggiafjojgdaaDoor
open Go.RowKit Go

theorem textR_len (r : Rd) (m : Int) : (textR r m).1.length ≤ r.rest.length := by
  have h1 : (numR r (low m)).2.rest.length ≤ r.rest.length := numR_rest _ _
  unfold textR bytesR
  split
  · split
    · simp; omega
    · simp
  · simp
theorem frR_in (l : List UInt8) (m : Int) (hl : l.length ≤ 140737488351232) : FrIn (frR l m) := by
  have t1 : (rd1 l m).1 ≤ top := numR_top _ _
  have t2 : (rd2 l m).1 ≤ top := numR_top _ _
  have t3 : (rd3 l m).1 ≤ top := numR_top _ _
  have h3 := (rest_le l m).2.2
  have h4 : (rd4 l m).1.length ≤ (rd3 l m).2.rest.length := textR_len _ _
  unfold top at t1 t2 t3
  refine ⟨⟨?_, ?_⟩, ⟨?_, ?_⟩, ⟨?_, ?_⟩, ?_⟩
  · show _ ≤ ((rd1 l m).1 : Int); omega
  · show ((rd1 l m).1 : Int) ≤ _; omega
  · show _ ≤ ((rd2 l m).1 : Int); omega
  · show ((rd2 l m).1 : Int) ≤ _; omega
  · show _ ≤ ((rd3 l m).1 : Int); omega
  · show ((rd3 l m).1 : Int) ≤ _; omega
  · show (bs (rd4 l m).1).size ≤ _; rw [bs_size]; omega
theorem fr0_in : FrIn fr0 := ⟨by decide, by decide, by decide, by decide⟩
theorem texts_eq (a : ByteArray) : (a.toList == a.toList) = true ∧ (a.toList != a.toList) = false := by
  have : (a.toList == a.toList) = true := beq_self_eq_true _
  exact ⟨this, by rw [bne, this]; rfl⟩
theorem texts_no {a b : ByteArray} (h : ¬ a = b) : (a.toList == b.toList) = false ∧ (a.toList != b.toList) = true := by
  have : (a.toList == b.toList) = false := by
    rw [ByteArray.toList_eq, ByteArray.toList_eq]
    exact beq_eq_false_iff_ne.2 (fun e => h (ByteArray.ext (Array.toList_inj.1 e)))
  exact ⟨this, by rw [bne, this]; rfl⟩

set_option maxRecDepth 100000 in
set_option maxHeartbeats 8000000 in
theorem seal_any (f : Fr) (hf : FrIn f) (w : World) :
    Calls Tryd.prog 7 #[frV f] w fun e w' => e = .returned (sealV f) ∧ Below w.heap.size w w' := by
  obtain ⟨b, hb, CM⟩ := may_any f hf
  obtain ⟨w1, hw1⟩ : ∃ w1, w.alloc (FrObj f) = w1 := ⟨_, rfl⟩
  have hB1 : Below w.heap.size w w1 := by rw [← hw1]; exact (Below.refl _ w).alloc (Nat.le_refl _) _
  have ha1 : FrAt f w.heap.size w1 := by rw [← hw1]; exact .new _ _
  obtain ⟨c0, c1, c2, c3⟩ := ha1.cells
  have HA1 := Lib.hid ha1
  have HB1 := Lib.hid hB1
  unfold FrObj at hw1
  cases b with
  | false =>
    have HV := Lib.hid (sealV_no (f := f) (fun h => by have := hb.2 h; cases this))
    generalize sealV f = V at *
    unfold frV at CM ⊢
    clear hb hB1 ha1
    go_enter Tryd.func7, Tryd.ntmps7
    go_wp2_with fail
    refine (CM _).mono ?_
    rintro e w2 ⟨rfl, hB2⟩
    have HB2 := Lib.hid (HB1.out.trans (hB2.mono HB1.out.size))
    clear hB2 CM
    go_wp2
    go_ret2
    exact ⟨by rw [HV.out]; rfl, HB2.out⟩
  | true =>
    have hok := hb.1 rfl
    have HV := Lib.hid (sealV_ok hok)
    generalize sealV f = V at *
    have CL := fun w => flay_any f hok w
    have CS := fun w => fsum_any (bs (layF f)) (by rw [bs_size]; have := layF_len hok; omega) w
    have hz1 : (bs (layF f)).size ≤ 3000 := by rw [bs_size]; have := layF_len hok; omega
    rw [bs_list] at CS
    have HS := Lib.hid (show bs (sealL f) = bs (layF f) ++ bs (sumL (layF f)) by rw [← bs_append]; rfl)
    have hz2 : (bs (sumL (layF f))).size = 8 := by rw [bs_size, sumL_len]
    generalize bs (sumL (layF f)) = D at *
    generalize bs (layF f) = L at *
    generalize bs (sealL f) = X at *
    have n1 : ¬ 9223372036854775807 < L.size + D.size := by omega
    unfold frV at CM CL ⊢
    clear hb hB1 ha1 hok hz1 hz2
    go_enter Tryd.func7, Tryd.ntmps7
    go_wp2_with fail
    refine (CM _).mono ?_
    rintro e w2 ⟨rfl, hB2⟩
    have HB2 := Lib.hid (HB1.out.trans (hB2.mono HB1.out.size))
    obtain ⟨x0, x1, x2, x3⟩ := (HA1.out.later hB2).cells
    clear hB2 CM c0 c1 c2 c3
    go_wp2_with fail
    refine (CL _).mono ?_
    rintro e w3 ⟨rfl, hB3⟩
    have HB3 := Lib.hid (HB2.out.trans (hB3.mono HB2.out.size))
    clear hB3 CL x0 x1 x2 x3
    go_wp2_with fail
    refine (CS _).mono ?_
    rintro e w4 ⟨rfl, hB4⟩
    have HB4 := Lib.hid (HB3.out.trans (hB4.mono HB3.out.size))
    clear hB4 CS
    go_wp2
    go_ret2
    exact ⟨by rw [HV.out, HS.out]; rfl, HB4.out⟩

/-- what Open answers -/
def OpenE (l : List UInt8) (e : Ending) : Prop := ∃ f x, FrIn f ∧ OpenIs l f x ∧ e = .returned (.tuple #[frV f, .int .i64 x])
set_option maxRecDepth 100000 in
set_option maxHeartbeats 8000000 in
theorem open_any (s : ByteArray) (hs : s.size ≤ 140737488351240) (w : World) (hg : GE w) :
    Calls Tryd.prog 10 #[.string s] w fun e w' => OpenE s.data.toList e ∧ Below w.heap.size w w' := by
  have hsl : s.data.toList.length = s.size := by simp
  obtain ⟨w1, hw1⟩ : ∃ w1, w.alloc (FrObj fr0) = w1 := ⟨_, rfl⟩
  have hB1 : Below w.heap.size w w1 := by rw [← hw1]; exact (Below.refl _ w).alloc (Nat.le_refl _) _
  have ha1 : FrAt fr0 w.heap.size w1 := by rw [← hw1]; exact .new _ _
  have HA1 := Lib.hid ha1
  have HB1 := Lib.hid hB1
  have HG := Lib.hid hg
  unfold FrObj fr0 at hw1
  simp only at hw1
  clear hB1 ha1 hg
  by_cases h8 : s.size < 8
  · have HX := Lib.hid (show OpenIs s.data.toList fr0 171 from .inl ⟨fun h => by have := h.1; omega, rfl, rfl⟩)
    have hd : decide ((s.size : Int) - 8 < 0) = true := decide_eq_true (by omega)
    have hi : (s.size : Int) - 8 < 0 := by omega
    clear h8
    go_enter Tryd.func10, Tryd.ntmps10
    go_wp2
    go_quiet (fail)
    have HAq := Lib.hid (show FrAt fr0 w.heap.size (w1.drewN nq) from ⟨HA1.out.obj⟩)
    have HBq := Lib.hid (below_drewN HB1.out nq)
    generalize w1.drewN nq = wq at *
    obtain ⟨u1, u2, u3, u4, ⟨e1, e2, e3, e4⟩, ⟨c1, c2, c3, c4⟩, ⟨f1, f2, f3, f4⟩, ha5, hs5⟩ := fr_store fr0 HAq.out
    have HB5 := Lib.hid (HBq.out.trans (hs5.below (B := w.heap.size) (fun i hi => by subst hi; exact Nat.le_refl _) HBq.out.size))
    obtain ⟨q1, q2, q3, q4⟩ := ha5.cells
    unfold fr0 at e1 e2 e3 e4 c1 c2 c3 c4 q1 q2 q3 q4
    simp only at e1 e2 e3 e4 c1 c2 c3 c4 q1 q2 q3 q4
    clear ha5 hs5 hd hi
    go_wp2
    refine bodyPost_ret ?_ rfl ⟨⟨_, _, fr0_in, HX.out, rfl⟩, HB5.out⟩
    rw [results_cell_tmp rfl]
    go_simp
    try rfl
  · obtain ⟨k, hk⟩ : ∃ k : Nat, s.size = k + 8 := ⟨s.size - 8, by omega⟩
    have hke : s.data.toList.length - 8 = k := by omega
    have h1 : (s.size : Int) - 8 = (k : Int) := by omega
    have h2 : ¬ (k : Int) < 0 := by omega
    have hd : decide ((k : Int) < 0) = false := decide_eq_false h2
    have h3 : (k : Int) ≤ (s.size : Int) := by omega
    have hxs : (s.extract 0 k).size = k := by rw [ByteArray.size_extract]; omega
    have CS := fun w => fsum_any (s.extract 0 k) (by omega) w
    have hxl : (s.extract 0 k).data.toList = s.data.toList.take k := extract_take s k
    have hyl : (s.extract k s.size).data.toList = s.data.toList.drop k := extract_drop s k
    rw [hxl] at CS
    have HSum := Lib.hid (show s.extract k s.size = bs (sumL (s.data.toList.take k)) ↔ Summed s.data.toList by
      unfold Summed
      rw [hke, ← hyl]
      constructor
      · intro e; exact ⟨by omega, by rw [e, bs_list]⟩
      · intro e; rw [← e.2]; rfl)
    have HRd := Lib.hid (fun (h : Summed s.data.toList) => open_of_read h (m := maxI) (by decide))
    rw [hke] at HRd
    have HIn := Lib.hid (frR_in (s.data.toList.take k) maxI (by rw [List.length_take]; omega))
    have CR := fun w => fread_any (s.extract 0 k) (by omega) w
    rw [hxl] at CR
    generalize frR (s.data.toList.take k) maxI = R at *
    generalize frE (s.data.toList.take k) maxI = E at *
    generalize bs (sumL (s.data.toList.take k)) = D at *
    obtain ⟨Y, hY⟩ : ∃ Y, s.extract k s.size = Y := ⟨_, rfl⟩
    obtain ⟨X, hX⟩ : ∃ X, s.extract 0 k = X := ⟨_, rfl⟩
    rw [hX] at CS CR
    rw [hY] at HSum
    have HK := Lib.hid (And.intro hk hsl)
    clear hxs hxl hyl hke hk hsl h8
    by_cases hYD : Y = D
    · have HSm := Lib.hid (HSum.out.1 hYD)
      obtain ⟨t1, t2⟩ := texts_eq D
      rw [hYD] at hY
      obtain ⟨bm, hbm, CM⟩ := may_any R HIn.out
      have HRd := Lib.hid (HRd.out HSm.out)
      clear HSum hYD
      go_enter Tryd.func10, Tryd.ntmps10
      go_wp2_with fail
      go_region_held3 (fun _ => True) (first | trivial)
        (first
          | (go_at_call 15; refine (CS _).mono ?_; rintro e w3 ⟨rfl, hB3⟩; have H3 := Lib.hid hB3; clear hB3))
      all_goals (
        have HB3 := Lib.hid (HB1.out.trans ((show Below w1.heap.size w1 w3 from (Below.refl _ w1).drew.trans H3.out).mono HB1.out.size))
        have HA3 := Lib.hid (show FrAt fr0 w.heap.size w3 from HA1.out.later ((Below.refl _ w1).drew.trans H3.out))
        have CR := CR w3 (HG.out.below HB3.out)
        clear CS
        go_wp2_with fail
        refine CR.mono ?_
        rintro e w4 ⟨rfl, hB4⟩
        have HB4 := Lib.hid (HB3.out.trans (hB4.mono HB3.out.size))
        have HA4 := Lib.hid (HA3.out.later hB4)
        obtain ⟨w5, hw5⟩ : ∃ w5, w4.alloc (FrObj fr0) = w5 := ⟨_, rfl⟩
        have hb5 : Below w4.heap.size w4 w5 := by rw [← hw5]; exact (Below.refl _ w4).alloc (Nat.le_refl _) _
        have ha5 : FrAt fr0 w4.heap.size w5 := by rw [← hw5]; exact .new _ _
        obtain ⟨u1, u2, u3, u4, ⟨e1, e2, e3, e4⟩, ⟨c1, c2, c3, c4⟩, ⟨f1, f2, f3, f4⟩, ha6, hs6⟩ := fr_store R ha5
        have hlt4 := HA4.out.lt
        have HA6 := Lib.hid (show FrAt fr0 w.heap.size u4 from ⟨hs6.keep (HA4.out.later hb5).obj (by omega)⟩)
        have HB6 := Lib.hid (show Below w.heap.size w u4 from (HB4.out.trans (hb5.mono HB4.out.size)).trans (hs6.below (fun i hi => by subst hi; exact HB4.out.size) (Nat.le_trans HB4.out.size hb5.size)))
        have HR6 := Lib.hid ha6
        unfold FrObj fr0 at hw5
        unfold fr0 at c1 c2 c3 c4
        simp only at hw5 c1 c2 c3 c4
        unfold frV at CM ⊢
        clear hB4 hb5 ha5 ha6 hs6 CR hlt4
        go_upto_region 5 with fail
        by_cases hE : E = 0
        · subst hE
          obtain ⟨r0, r1, r2, r3⟩ := HR6.out.cells
          clear e1 e2 e3 e4 c1 c2 c3 c4 f1 f2 f3 f4
          go_wp2_with fail
          refine (CM _).mono ?_
          rintro e w7 ⟨rfl, hB7⟩
          have HA7 := Lib.hid (HA6.out.later hB7)
          have HR7 := Lib.hid (HR6.out.later hB7)
          have HB7 := Lib.hid (HB6.out.trans (hB7.mono HB6.out.size))
          clear hB7 r0 r1 r2 r3 CM
          cases bm with
          | true =>
            have HX := Lib.hid (HRd.out.1 ⟨by first | trivial | rfl, hbm.1 rfl⟩)
            obtain ⟨u1, u2, u3, u4, ⟨e1, e2, e3, e4⟩, ⟨c1, c2, c3, c4⟩, ⟨f1, f2, f3, f4⟩, ha8, hs8⟩ := fr_store R HA7.out
            have HB8 := Lib.hid (HB7.out.trans (hs8.below (B := w.heap.size) (fun i hi => by subst hi; exact Nat.le_refl _) HB7.out.size))
            obtain ⟨q1, q2, q3, q4⟩ := ha8.cells
            obtain ⟨r0, r1, r2, r3⟩ := HR7.out.cells
            unfold fr0 at c1 c2 c3 c4
            simp only at c1 c2 c3 c4
            clear ha8 hs8 hbm
            go_wp2
            refine bodyPost_ret ?_ rfl ⟨⟨_, _, HIn.out, HX.out, rfl⟩, HB8.out⟩
            rw [results_cell_tmp rfl]
            go_simp
            try rfl
          | false =>
            have HX := Lib.hid (HRd.out.2 (fun h => by have := hbm.2 h.2; cases this))
            obtain ⟨u1, u2, u3, u4, ⟨e1, e2, e3, e4⟩, ⟨c1, c2, c3, c4⟩, ⟨f1, f2, f3, f4⟩, ha8, hs8⟩ := fr_store fr0 HA7.out
            have HB8 := Lib.hid (HB7.out.trans (hs8.below (B := w.heap.size) (fun i hi => by subst hi; exact Nat.le_refl _) HB7.out.size))
            obtain ⟨q1, q2, q3, q4⟩ := ha8.cells
            unfold fr0 at c1 c2 c3 c4 e1 e2 e3 e4 q1 q2 q3 q4
            simp only at c1 c2 c3 c4 e1 e2 e3 e4 q1 q2 q3 q4
            clear ha8 hs8 hbm
            go_wp2
            refine bodyPost_ret ?_ rfl ⟨⟨_, _, fr0_in, HX.out, rfl⟩, HB8.out⟩
            rw [results_cell_tmp rfl]
            go_simp
            try rfl
        · have HX := Lib.hid (HRd.out.2 (fun h => hE h.1))
          have hEn : (E != 0) = true := bne_iff_ne.2 hE
          clear e1 e2 e3 e4 c1 c2 c3 c4 f1 f2 f3 f4 CM hbm
          obtain ⟨v1, v2, v3, v4, ⟨e1, e2, e3, e4⟩, ⟨c1, c2, c3, c4⟩, ⟨f1, f2, f3, f4⟩, ha8, hs8⟩ := fr_store fr0 HA6.out
          have HB8 := Lib.hid (HB6.out.trans (hs8.below (B := w.heap.size) (fun i hi => by subst hi; exact Nat.le_refl _) HB6.out.size))
          obtain ⟨q1, q2, q3, q4⟩ := ha8.cells
          unfold fr0 at c1 c2 c3 c4 e1 e2 e3 e4 q1 q2 q3 q4
          simp only at c1 c2 c3 c4 e1 e2 e3 e4 q1 q2 q3 q4
          clear ha8 hs8
          go_wp2
          refine bodyPost_ret ?_ rfl ⟨⟨_, _, fr0_in, HX.out, rfl⟩, HB8.out⟩
          rw [results_cell_tmp rfl]
          go_simp
          try rfl)
    · have HX := Lib.hid (show OpenIs s.data.toList fr0 171 from .inl ⟨fun h => hYD (HSum.out.2 h), rfl, rfl⟩)
      obtain ⟨t1, t2⟩ := texts_no hYD
      clear HSum hYD CR HRd
      go_enter Tryd.func10, Tryd.ntmps10
      go_wp2_with fail
      go_region_held3 (fun _ => True) (first | trivial)
        (first
          | (go_at_call 15; refine (CS _).mono ?_; rintro e w3 ⟨rfl, hB3⟩; have H3 := Lib.hid hB3; clear hB3))
      all_goals (
        have HB3 := Lib.hid (HB1.out.trans ((show Below w1.heap.size w1 w3 from (Below.refl _ w1).drew.trans H3.out).mono HB1.out.size))
        have HA3 := Lib.hid (show FrAt fr0 w.heap.size w3 from HA1.out.later ((Below.refl _ w1).drew.trans H3.out))
        obtain ⟨u1, u2, u3, u4, ⟨e1, e2, e3, e4⟩, ⟨c1, c2, c3, c4⟩, ⟨f1, f2, f3, f4⟩, ha5, hs5⟩ := fr_store fr0 HA3.out
        have HB5 := Lib.hid (HB3.out.trans (hs5.below (B := w.heap.size) (fun i hi => by subst hi; exact Nat.le_refl _) HB3.out.size))
        obtain ⟨q1, q2, q3, q4⟩ := ha5.cells
        unfold fr0 at e1 e2 e3 e4 c1 c2 c3 c4 q1 q2 q3 q4
        simp only at e1 e2 e3 e4 c1 c2 c3 c4 q1 q2 q3 q4
        clear ha5 hs5 CS
        go_wp2
        refine bodyPost_ret ?_ rfl ⟨⟨_, _, fr0_in, HX.out, rfl⟩, HB5.out⟩
        rw [results_cell_tmp rfl]
        go_simp
        try rfl)
end Go.Proofs.YtgeggiafjojgdaaDoor

