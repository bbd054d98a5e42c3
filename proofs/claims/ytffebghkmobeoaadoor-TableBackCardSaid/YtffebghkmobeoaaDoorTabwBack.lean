/-
  For every three lists of inodes, entries and snapshots: what is laid of a list that may be is parsed as it was, of each kind; and the calls whose answers the document fixes are answered so. No condition on the lists but that they fit a machine.
-/
import Derived.Test.YtffebghkmobeoaaDoorTabX
import Derived.Test.YtffebghkmobeoaaDoorTabK
namespace Go.Proofs.YtffebghkmobeoaaDoor.bback
open Go.Proofs.YtffebghkmobeoaaDoor
open Go.ChangeShapes Go.WideShapes Go.ChangeAt Go.RowKit Go


set_option maxRecDepth 100000 in
set_option maxHeartbeats 4000000 in
theorem walk (x y z : Value) (l : List Ino) (m : List Ent) (n : List Snp) (W : World) (h : LstAt inoC 5 W x l ∧ LstAt entC 2 W y m ∧ LstAt snpC 5 W z n)
    (hl : l.length ≤ 9223372036854775807 ∧ m.length ≤ 9223372036854775807 ∧ n.length ≤ 9223372036854775807) (hq2 : ∀ q ∈ m, q.name.size ≤ 140737488355328) (hq3 : ∀ q ∈ n, q.name.size ≤ 140737488355328) (hg : GE W) :
    Calls Tryd.prog 6 #[.agg #[x, y, z]] W fun e W' => e = .returned (.bool true) ∧ Below W.heap.size W W' := by
  obtain ⟨h1, h2, h3⟩ := h
  obtain ⟨hl1, hl2, hl3⟩ := hl
  obtain ⟨ax, cx, rfl⟩ := h1.shape
  obtain ⟨ay, cy, rfl⟩ := h2.shape
  obtain ⟨az, cz, rfl⟩ := h3.shape
  obtain ⟨w0, hw0⟩ : ∃ w0, W.alloc (.cells #[.slice ax l.length cx, .slice ay m.length cy, .slice az n.length cz] 44) = w0 := ⟨_, rfl⟩
  have hh : w0.heap[W.heap.size]? = some (.cells #[.slice ax l.length cx, .slice ay m.length cy, .slice az n.length cz] 44 (0, 0)) := by rw [← hw0]; exact heap_alloc_new W _
  have HB0 := Lib.hid (show Below W.heap.size W w0 by rw [← hw0]; exact (Below.refl _ W).alloc (Nat.le_refl _) _)
  have HK := Lib.hid (show ∀ w', Below w0.heap.size w0 w' → w'.cell? ⟨W.heap.size, 0, none⟩ = some (.slice ax l.length cx) ∧ w'.cell? ⟨W.heap.size, 1, none⟩ = some (.slice ay m.length cy) ∧ w'.cell? ⟨W.heap.size, 2, none⟩ = some (.slice az n.length cz) from fun w' hB => by
    have e := (hB.block _ (lt_of_heap hh)).trans hh
    exact ⟨by simp [World.cell?, e], by simp [World.cell?, e], by simp [World.cell?, e]⟩)
  have HG := Lib.hid (show ∀ w', Below w0.heap.size w0 w' → GE w' from fun w' hB => hg.below (HB0.out.trans (hB.mono HB0.out.size)))
  have HL0 := Lib.hid (show ∀ w', Below w0.heap.size w0 w' → LstAt inoC 5 w' (.slice ax l.length cx) l from fun w' hB => h1.later (HB0.out.trans (hB.mono HB0.out.size)))
  have HL1 := Lib.hid (show ∀ w', Below w0.heap.size w0 w' → LstAt entC 2 w' (.slice ay m.length cy) m from fun w' hB => h2.later (HB0.out.trans (hB.mono HB0.out.size)))
  have HL2 := Lib.hid (show ∀ w', Below w0.heap.size w0 w' → LstAt snpC 5 w' (.slice az n.length cz) n from fun w' hB => h3.later (HB0.out.trans (hB.mono HB0.out.size)))
  have HR := Lib.hid (Below.refl w0.heap.size w0)
  clear hh h1 h2 h3 hg
  obtain ⟨c0, c1, c2⟩ := HK.out w0 HR.out
  go_enter Tryd.func6, Tryd.ntmps6
  go_wp2_with fail
  clear c0 c1 c2
  have C1 := inos_any _ l hl1 w0 (HL0.out w0 HR.out)
  by_cases hm1 : May kI l
  · rw [layV_yes hm1] at C1
    have hz1 : (bs (laidL kI l)).size ≤ 281474976710656 := by
      rw [bs_size]
      have := laid_len (n := 12) (fun x hx => inoEnc_len hx) hm1
      have := hm1.1
      omega
    refine C1.mono ?_
    rintro e u1 ⟨rfl, B1⟩
    have D1 := Lib.hid (HR.out.trans (B1.mono HR.out.size))
    clear B1 C1
    have E1 := inoParses_any (bs (laidL kI l)) hz1 u1 (HG.out u1 D1.out)
    have HI1 := Lib.hid (show IsL kI (bs (laidL kI l)).data.toList l from ⟨hm1, (bs_list _).symm⟩)
    clear hz1
    generalize bs (laidL kI l) = S1 at *
    go_wp2_with fail
    refine E1.mono ?_
    intro e v1 hp1
    obtain ⟨⟨q1, rfl, hr1⟩, B1⟩ := hp1.is rdsI HI1.out
    have hv1 := lst_of_owns inoC_len (by decide) hr1
    obtain ⟨aq1, cq1, rfl⟩ := hv1.shape
    have G1 := Lib.hid (D1.out.trans (B1.mono D1.out.size))
    have S1' := inoSame_any _ _ l l hl1 hl1 v1 hv1 (HL0.out v1 G1.out)
    rw [sameB_yes rfl] at S1'
    clear hr1 hv1 B1 E1
    obtain ⟨c0, c1, c2⟩ := HK.out v1 G1.out
    go_wp2_with fail
    clear c0 c1 c2
    refine S1'.mono ?_
    rintro e t1 ⟨rfl, B1⟩
    have T1 := Lib.hid (G1.out.trans (B1.mono G1.out.size))
    clear B1 S1'
    obtain ⟨c0, c1, c2⟩ := HK.out t1 T1.out
    go_wp2_with fail
    clear c0 c1 c2
    have C2 := ents_any _ m hl2 hq2 t1 (HL1.out t1 T1.out)
    by_cases hm2 : May kE m
    · rw [layV_yes hm2] at C2
      have hz2 : (bs (laidL kE m)).size ≤ 281474976710656 := by
        rw [bs_size]
        have := laid_len (n := 20) (fun x hx => entEnc_len hx) hm2
        have := hm2.1
        omega
      refine C2.mono ?_
      rintro e u2 ⟨rfl, B2⟩
      have D2 := Lib.hid (T1.out.trans (B2.mono T1.out.size))
      clear B2 C2
      have E2 := entParses_any (bs (laidL kE m)) hz2 u2 (HG.out u2 D2.out)
      have HI2 := Lib.hid (show IsL kE (bs (laidL kE m)).data.toList m from ⟨hm2, (bs_list _).symm⟩)
      clear hz2
      generalize bs (laidL kE m) = S2 at *
      go_wp2_with fail
      refine E2.mono ?_
      intro e v2 hp2
      obtain ⟨⟨q2, rfl, hr2⟩, B2⟩ := hp2.is rdsE HI2.out
      have hv2 := lst_of_owns entC_len (by decide) hr2
      obtain ⟨aq2, cq2, rfl⟩ := hv2.shape
      have G2 := Lib.hid (D2.out.trans (B2.mono D2.out.size))
      have S2' := entSame_any _ _ m m hl2 hl2 v2 hv2 (HL1.out v2 G2.out)
      rw [sameB_yes rfl] at S2'
      clear hr2 hv2 B2 E2
      obtain ⟨c0, c1, c2⟩ := HK.out v2 G2.out
      go_wp2_with fail
      clear c0 c1 c2
      refine S2'.mono ?_
      rintro e t2 ⟨rfl, B2⟩
      have T2 := Lib.hid (G2.out.trans (B2.mono G2.out.size))
      clear B2 S2'
      obtain ⟨c0, c1, c2⟩ := HK.out t2 T2.out
      go_wp2_with fail
      clear c0 c1 c2
      have C3 := snps_any _ n hl3 hq3 t2 (HL2.out t2 T2.out)
      by_cases hm3 : May kS n
      · rw [layV_yes hm3] at C3
        have hz3 : (bs (laidL kS n)).size ≤ 281474976710656 := by
          rw [bs_size]
          have := laid_len (n := 29) (fun x hx => snpEnc_len hx) hm3
          have := hm3.1
          omega
        refine C3.mono ?_
        rintro e u3 ⟨rfl, B3⟩
        have D3 := Lib.hid (T2.out.trans (B3.mono T2.out.size))
        clear B3 C3
        have E3 := snpParses_any (bs (laidL kS n)) hz3 u3 (HG.out u3 D3.out)
        have HI3 := Lib.hid (show IsL kS (bs (laidL kS n)).data.toList n from ⟨hm3, (bs_list _).symm⟩)
        clear hz3
        generalize bs (laidL kS n) = S3 at *
        go_wp2_with fail
        refine E3.mono ?_
        intro e v3 hp3
        obtain ⟨⟨q3, rfl, hr3⟩, B3⟩ := hp3.is rdsS HI3.out
        have hv3 := lst_of_owns snpC_len (by decide) hr3
        obtain ⟨aq3, cq3, rfl⟩ := hv3.shape
        have G3 := Lib.hid (D3.out.trans (B3.mono D3.out.size))
        have S3' := snpSame_any _ _ n n hl3 hl3 v3 hv3 (HL2.out v3 G3.out)
        rw [sameB_yes rfl] at S3'
        clear hr3 hv3 B3 E3
        obtain ⟨c0, c1, c2⟩ := HK.out v3 G3.out
        go_wp2_with fail
        clear c0 c1 c2
        refine S3'.mono ?_
        rintro e t3 ⟨rfl, B3⟩
        have T3 := Lib.hid (G3.out.trans (B3.mono G3.out.size))
        clear B3 S3'
        obtain ⟨c0, c1, c2⟩ := HK.out t3 T3.out
        go_wp2_with fail
        clear c0 c1 c2
        refine (fixed_any t3 (HG.out t3 T3.out)).mono ?_
        rintro e wz ⟨rfl, BZ⟩
        go_wp2_with fail
        go_ret
        exact ⟨rfl, HB0.out.trans ((T3.out.trans (BZ.mono T3.out.size)).mono HB0.out.size)⟩
      · rw [layV_no hm3] at C3
        refine C3.mono ?_
        rintro e u3 ⟨rfl, B3⟩
        have D3 := Lib.hid (T2.out.trans (B3.mono T2.out.size))
        clear B3 C3
        obtain ⟨c0, c1, c2⟩ := HK.out u3 D3.out
        go_wp2_with fail
        clear c0 c1 c2
        refine (fixed_any u3 (HG.out u3 D3.out)).mono ?_
        rintro e wz ⟨rfl, BZ⟩
        go_wp2_with fail
        go_ret
        exact ⟨rfl, HB0.out.trans ((D3.out.trans (BZ.mono D3.out.size)).mono HB0.out.size)⟩
    · rw [layV_no hm2] at C2
      refine C2.mono ?_
      rintro e u2 ⟨rfl, B2⟩
      have D2 := Lib.hid (T1.out.trans (B2.mono T1.out.size))
      clear B2 C2
      obtain ⟨c0, c1, c2⟩ := HK.out u2 D2.out
      go_wp2_with fail
      clear c0 c1 c2
      have C4 := snps_any _ n hl3 hq3 u2 (HL2.out u2 D2.out)
      by_cases hm4 : May kS n
      · rw [layV_yes hm4] at C4
        have hz4 : (bs (laidL kS n)).size ≤ 281474976710656 := by
          rw [bs_size]
          have := laid_len (n := 29) (fun x hx => snpEnc_len hx) hm4
          have := hm4.1
          omega
        refine C4.mono ?_
        rintro e u4 ⟨rfl, B4⟩
        have D4 := Lib.hid (D2.out.trans (B4.mono D2.out.size))
        clear B4 C4
        have E4 := snpParses_any (bs (laidL kS n)) hz4 u4 (HG.out u4 D4.out)
        have HI4 := Lib.hid (show IsL kS (bs (laidL kS n)).data.toList n from ⟨hm4, (bs_list _).symm⟩)
        clear hz4
        generalize bs (laidL kS n) = S4 at *
        go_wp2_with fail
        refine E4.mono ?_
        intro e v4 hp4
        obtain ⟨⟨q4, rfl, hr4⟩, B4⟩ := hp4.is rdsS HI4.out
        have hv4 := lst_of_owns snpC_len (by decide) hr4
        obtain ⟨aq4, cq4, rfl⟩ := hv4.shape
        have G4 := Lib.hid (D4.out.trans (B4.mono D4.out.size))
        have S4' := snpSame_any _ _ n n hl3 hl3 v4 hv4 (HL2.out v4 G4.out)
        rw [sameB_yes rfl] at S4'
        clear hr4 hv4 B4 E4
        obtain ⟨c0, c1, c2⟩ := HK.out v4 G4.out
        go_wp2_with fail
        clear c0 c1 c2
        refine S4'.mono ?_
        rintro e t4 ⟨rfl, B4⟩
        have T4 := Lib.hid (G4.out.trans (B4.mono G4.out.size))
        clear B4 S4'
        obtain ⟨c0, c1, c2⟩ := HK.out t4 T4.out
        go_wp2_with fail
        clear c0 c1 c2
        refine (fixed_any t4 (HG.out t4 T4.out)).mono ?_
        rintro e wz ⟨rfl, BZ⟩
        go_wp2_with fail
        go_ret
        exact ⟨rfl, HB0.out.trans ((T4.out.trans (BZ.mono T4.out.size)).mono HB0.out.size)⟩
      · rw [layV_no hm4] at C4
        refine C4.mono ?_
        rintro e u4 ⟨rfl, B4⟩
        have D4 := Lib.hid (D2.out.trans (B4.mono D2.out.size))
        clear B4 C4
        obtain ⟨c0, c1, c2⟩ := HK.out u4 D4.out
        go_wp2_with fail
        clear c0 c1 c2
        refine (fixed_any u4 (HG.out u4 D4.out)).mono ?_
        rintro e wz ⟨rfl, BZ⟩
        go_wp2_with fail
        go_ret
        exact ⟨rfl, HB0.out.trans ((D4.out.trans (BZ.mono D4.out.size)).mono HB0.out.size)⟩
  · rw [layV_no hm1] at C1
    refine C1.mono ?_
    rintro e u1 ⟨rfl, B1⟩
    have D1 := Lib.hid (HR.out.trans (B1.mono HR.out.size))
    clear B1 C1
    obtain ⟨c0, c1, c2⟩ := HK.out u1 D1.out
    go_wp2_with fail
    clear c0 c1 c2
    have C5 := ents_any _ m hl2 hq2 u1 (HL1.out u1 D1.out)
    by_cases hm5 : May kE m
    · rw [layV_yes hm5] at C5
      have hz5 : (bs (laidL kE m)).size ≤ 281474976710656 := by
        rw [bs_size]
        have := laid_len (n := 20) (fun x hx => entEnc_len hx) hm5
        have := hm5.1
        omega
      refine C5.mono ?_
      rintro e u5 ⟨rfl, B5⟩
      have D5 := Lib.hid (D1.out.trans (B5.mono D1.out.size))
      clear B5 C5
      have E5 := entParses_any (bs (laidL kE m)) hz5 u5 (HG.out u5 D5.out)
      have HI5 := Lib.hid (show IsL kE (bs (laidL kE m)).data.toList m from ⟨hm5, (bs_list _).symm⟩)
      clear hz5
      generalize bs (laidL kE m) = S5 at *
      go_wp2_with fail
      refine E5.mono ?_
      intro e v5 hp5
      obtain ⟨⟨q5, rfl, hr5⟩, B5⟩ := hp5.is rdsE HI5.out
      have hv5 := lst_of_owns entC_len (by decide) hr5
      obtain ⟨aq5, cq5, rfl⟩ := hv5.shape
      have G5 := Lib.hid (D5.out.trans (B5.mono D5.out.size))
      have S5' := entSame_any _ _ m m hl2 hl2 v5 hv5 (HL1.out v5 G5.out)
      rw [sameB_yes rfl] at S5'
      clear hr5 hv5 B5 E5
      obtain ⟨c0, c1, c2⟩ := HK.out v5 G5.out
      go_wp2_with fail
      clear c0 c1 c2
      refine S5'.mono ?_
      rintro e t5 ⟨rfl, B5⟩
      have T5 := Lib.hid (G5.out.trans (B5.mono G5.out.size))
      clear B5 S5'
      obtain ⟨c0, c1, c2⟩ := HK.out t5 T5.out
      go_wp2_with fail
      clear c0 c1 c2
      have C6 := snps_any _ n hl3 hq3 t5 (HL2.out t5 T5.out)
      by_cases hm6 : May kS n
      · rw [layV_yes hm6] at C6
        have hz6 : (bs (laidL kS n)).size ≤ 281474976710656 := by
          rw [bs_size]
          have := laid_len (n := 29) (fun x hx => snpEnc_len hx) hm6
          have := hm6.1
          omega
        refine C6.mono ?_
        rintro e u6 ⟨rfl, B6⟩
        have D6 := Lib.hid (T5.out.trans (B6.mono T5.out.size))
        clear B6 C6
        have E6 := snpParses_any (bs (laidL kS n)) hz6 u6 (HG.out u6 D6.out)
        have HI6 := Lib.hid (show IsL kS (bs (laidL kS n)).data.toList n from ⟨hm6, (bs_list _).symm⟩)
        clear hz6
        generalize bs (laidL kS n) = S6 at *
        go_wp2_with fail
        refine E6.mono ?_
        intro e v6 hp6
        obtain ⟨⟨q6, rfl, hr6⟩, B6⟩ := hp6.is rdsS HI6.out
        have hv6 := lst_of_owns snpC_len (by decide) hr6
        obtain ⟨aq6, cq6, rfl⟩ := hv6.shape
        have G6 := Lib.hid (D6.out.trans (B6.mono D6.out.size))
        have S6' := snpSame_any _ _ n n hl3 hl3 v6 hv6 (HL2.out v6 G6.out)
        rw [sameB_yes rfl] at S6'
        clear hr6 hv6 B6 E6
        obtain ⟨c0, c1, c2⟩ := HK.out v6 G6.out
        go_wp2_with fail
        clear c0 c1 c2
        refine S6'.mono ?_
        rintro e t6 ⟨rfl, B6⟩
        have T6 := Lib.hid (G6.out.trans (B6.mono G6.out.size))
        clear B6 S6'
        obtain ⟨c0, c1, c2⟩ := HK.out t6 T6.out
        go_wp2_with fail
        clear c0 c1 c2
        refine (fixed_any t6 (HG.out t6 T6.out)).mono ?_
        rintro e wz ⟨rfl, BZ⟩
        go_wp2_with fail
        go_ret
        exact ⟨rfl, HB0.out.trans ((T6.out.trans (BZ.mono T6.out.size)).mono HB0.out.size)⟩
      · rw [layV_no hm6] at C6
        refine C6.mono ?_
        rintro e u6 ⟨rfl, B6⟩
        have D6 := Lib.hid (T5.out.trans (B6.mono T5.out.size))
        clear B6 C6
        obtain ⟨c0, c1, c2⟩ := HK.out u6 D6.out
        go_wp2_with fail
        clear c0 c1 c2
        refine (fixed_any u6 (HG.out u6 D6.out)).mono ?_
        rintro e wz ⟨rfl, BZ⟩
        go_wp2_with fail
        go_ret
        exact ⟨rfl, HB0.out.trans ((D6.out.trans (BZ.mono D6.out.size)).mono HB0.out.size)⟩
    · rw [layV_no hm5] at C5
      refine C5.mono ?_
      rintro e u5 ⟨rfl, B5⟩
      have D5 := Lib.hid (D1.out.trans (B5.mono D1.out.size))
      clear B5 C5
      obtain ⟨c0, c1, c2⟩ := HK.out u5 D5.out
      go_wp2_with fail
      clear c0 c1 c2
      have C7 := snps_any _ n hl3 hq3 u5 (HL2.out u5 D5.out)
      by_cases hm7 : May kS n
      · rw [layV_yes hm7] at C7
        have hz7 : (bs (laidL kS n)).size ≤ 281474976710656 := by
          rw [bs_size]
          have := laid_len (n := 29) (fun x hx => snpEnc_len hx) hm7
          have := hm7.1
          omega
        refine C7.mono ?_
        rintro e u7 ⟨rfl, B7⟩
        have D7 := Lib.hid (D5.out.trans (B7.mono D5.out.size))
        clear B7 C7
        have E7 := snpParses_any (bs (laidL kS n)) hz7 u7 (HG.out u7 D7.out)
        have HI7 := Lib.hid (show IsL kS (bs (laidL kS n)).data.toList n from ⟨hm7, (bs_list _).symm⟩)
        clear hz7
        generalize bs (laidL kS n) = S7 at *
        go_wp2_with fail
        refine E7.mono ?_
        intro e v7 hp7
        obtain ⟨⟨q7, rfl, hr7⟩, B7⟩ := hp7.is rdsS HI7.out
        have hv7 := lst_of_owns snpC_len (by decide) hr7
        obtain ⟨aq7, cq7, rfl⟩ := hv7.shape
        have G7 := Lib.hid (D7.out.trans (B7.mono D7.out.size))
        have S7' := snpSame_any _ _ n n hl3 hl3 v7 hv7 (HL2.out v7 G7.out)
        rw [sameB_yes rfl] at S7'
        clear hr7 hv7 B7 E7
        obtain ⟨c0, c1, c2⟩ := HK.out v7 G7.out
        go_wp2_with fail
        clear c0 c1 c2
        refine S7'.mono ?_
        rintro e t7 ⟨rfl, B7⟩
        have T7 := Lib.hid (G7.out.trans (B7.mono G7.out.size))
        clear B7 S7'
        obtain ⟨c0, c1, c2⟩ := HK.out t7 T7.out
        go_wp2_with fail
        clear c0 c1 c2
        refine (fixed_any t7 (HG.out t7 T7.out)).mono ?_
        rintro e wz ⟨rfl, BZ⟩
        go_wp2_with fail
        go_ret
        exact ⟨rfl, HB0.out.trans ((T7.out.trans (BZ.mono T7.out.size)).mono HB0.out.size)⟩
      · rw [layV_no hm7] at C7
        refine C7.mono ?_
        rintro e u7 ⟨rfl, B7⟩
        have D7 := Lib.hid (D5.out.trans (B7.mono D5.out.size))
        clear B7 C7
        obtain ⟨c0, c1, c2⟩ := HK.out u7 D7.out
        go_wp2_with fail
        clear c0 c1 c2
        refine (fixed_any u7 (HG.out u7 D7.out)).mono ?_
        rintro e wz ⟨rfl, BZ⟩
        go_wp2_with fail
        go_ret
        exact ⟨rfl, HB0.out.trans ((D7.out.trans (BZ.mono D7.out.size)).mono HB0.out.size)⟩

set_option maxRecDepth 100000 in
/-- WHAT THE WALK GIVES, for every argument that can be read. -/
theorem contract (H : Type) (enc : TypeId × Value → H) (W : World) (base : Nat) (args : Array Value) (ds gs : List (DataW H)) (before : List MemPlace)
    (hval : ∀ (j : Nat) t v, Tryd.f6.params[j]? = some t → args[j]? = some v → Value.okWide Tryd.prog W .any base t v)
    (hW : DataW.Whole enc Tryd.prog Tryd.f6.params.toList Rows.tableBackSpec.vars false W args.toList ds gs before)
    (hreach : (DataW.weightsEach Tryd.prog (Tryd.f6.params.toList) ds).all (· ≤ reachBytes) = true) (hg : GE W) :
    Calls Tryd.prog 6 args W fun e W' => ∃ v, e = .returned v ∧ Rows.tableBackSpec.post enc Tryd.prog Tryd.f6 false true false false W args v W' := by
  have hW' := hW
  obtain ⟨p, q, hA0, hV, rfl, hfz, hnd⟩ := hW
  have hA : DataW.TrodAll enc Tryd.prog W 0 (fun _ => true) true Tryd.f6.params.toList args.toList ds p := hA0
  rw [Tryd.params6] at hA hval hreach
  obtain ⟨v0, d0, rfl, rfl, h0⟩ := trodAll_one hA
  obtain ⟨rfl, rfl⟩ := trodVars_none hV
  have lt0 : ∀ x ∈ p, x.block < W.heap.size := fun x hx => hW'.lt x (by simp [hx])
  obtain ⟨x0, y0, z0, l0, m0, n0, rfl, k0, r0, q0, t0⟩ := lists_open (hval 0 44 v0 rfl rfl) h0 lt0 (weights_of hreach (j := 0) rfl rfl)
  clear hA0 hval
  simp only [List.append_nil] at hW'
  refine (walk x0 y0 z0 l0 m0 n0 W k0 r0 q0 t0 hg).mono fun e W' ⟨he, hB⟩ => ?_
  subst he
  exact ⟨_, rfl, post_of_below (pa := p) (pv := []) hW' (fun _ _ _ => trodAll_mk1 (shut_bool Tryd.underlying4 _)) (fun sp hsp => trodAll_mk1 (WideElems.Trod_stays laidOut (by kernel_rfl) (of_decide_eq_true (by kernel_rfl)) h0 (fun x hx => hB.same (lt0 x hx)) (fun x hx => hsp x (by simp [hx])))) (fun _ _ => rfl) (by simp) hB (ok_one (by kernel_rfl) rfl (okWide_bool_mk Tryd.underlying4 _))⟩

theorem reads (os : Os) {H : Type} (enc : TypeId × Value → H) : ∃ places, DataW.whole enc Tryd.prog ((laidWorldH os).forCall (fun _ _ => 0) ⟨#[], #[.agg #[.slice none 0 0, .slice none 0 0, .slice none 0 0]], []⟩).memory Tryd.f6.params.toList Rows.tableBackSpec.vars false (#[.agg #[.slice none 0 0, .slice none 0 0, .slice none 0 0]] : Array Value).toList 8 = some ([.agg [.nil, .nil, .nil]], [], places) :=
  ⟨[], by kernel_rfl⟩

set_option maxRecDepth 100000 in
theorem lifted (os : Os) (started : os.Started) (H : Type) (enc : TypeId × Value → H) (F : Stop.Interp) :
    ReturnsInHanded {} Tryd.checked os 6 .any ((OpenSpec.ofChange Rows.tableBackSpec).preRow enc Tryd.prog Tryd.f6 Rows.tableBackRow.domain false Rows.tableBackRow.laid) (((OpenSpec.ofChange Rows.tableBackSpec).at F).post enc Tryd.prog Tryd.f6 false true false false) := by
  obtain ⟨places, hx⟩ := reads os enc
  refine returnsInHanded_of_row (C := Tryd.checked) (s := OpenSpec.ofChange Rows.tableBackSpec) own started (by kernel_rfl) Tryd.func6
    (witness_row_at (enc := enc) (C := Tryd.checked) false (laidWorldH os) #[.agg #[.slice none 0 0, .slice none 0 0, .slice none 0 0]] rfl (by kernel_rfl) (by kernel_rfl) (by kernel_rfl)
      (OpenSpec.preRow_of_cond 8 hx (by kernel_rfl) (fun k hk => by cases hk) (by kernel_rfl) (laid_metH os _))) ?_
  intro W base args ds gs before hval hW _ hcond hreach hL _ _
  obtain ⟨p, q, hA0, hV, hpq, hfz, hnd⟩ := id hW
  obtain ⟨rfl, _⟩ := trodVars_none hV
  rw [List.append_nil] at hreach
  exact contract H enc W base args ds [] before hval hW hreach (handle_of_laid hL)

theorem said : Rows.TableBackSaid :=
  OpenClaim.holds_of_cond 6 Tryd.f6 rfl rfl rfl rfl rfl rfl rfl ⟨rfl, rfl, rfl, rfl, rfl⟩ rfl rfl rfl rfl rfl (by kernel_rfl) Tryd.func6 (by kernel_rfl)
    (of_decide_eq_true (by kernel_rfl)) (by unfold Func.isWrapper; first | (rw [if_pos (by decide +kernel)]; kernel_rfl) | (rw [if_neg (by decide +kernel)]; exact ⟨rfl, rfl⟩))
    (fun os started H enc _ F => by rw [OpenClaim.pre_eq_preRow]; exact lifted os started H enc F)

theorem plain (f : FuncId) (fn : Func) (hf : Tryd.pinned.checked.prog.funcNamed "stillage/stillagelaw12.TableBack" = some f) (hfn : Tryd.pinned.checked.prog.funcs[f]? = some fn) :
    true = Tryd.pinned.checked.prog.looks [] ∧ ∀ (j : Nat) t, fn.params[j]? = some t → Tryd.pinned.checked.prog.wantsStandIn t = false := by
  obtain rfl : f = 6 := Option.some.inj ((show Tryd.prog.funcNamed "stillage/stillagelaw12.TableBack" = some 6 by kernel_rfl).symm.trans hf) |>.symm
  obtain rfl : fn = Tryd.f6 := (Option.some.inj (Tryd.func6.symm.trans hfn)).symm
  refine ⟨by kernel_rfl, fun j t ht => ?_⟩
  rw [Tryd.params6] at ht
  have hm : t ∈ [44] := by simpa using Array.mem_of_getElem? ht
  have hall : ([44].all fun u => !Tryd.prog.wantsStandIn u) = true := by kernel_rfl
  exact (show Tryd.prog.wantsStandIn t = false by simpa using List.all_eq_true.1 hall t hm)

/-- THE CARD -/
theorem card : Rows.TableBackCardSaid :=
  Claim7.holds_tied_plain_at .later [] _ _ _ _ said (fun _ h => by cases h) (by kernel_rfl) (fun _ h => by cases h) tableBack_row_tie rfl ⟨rfl, rfl⟩ (by kernel_rfl) rfl plain (by kernel_rfl)


end Go.Proofs.YtffebghkmobeoaaDoor.bback

