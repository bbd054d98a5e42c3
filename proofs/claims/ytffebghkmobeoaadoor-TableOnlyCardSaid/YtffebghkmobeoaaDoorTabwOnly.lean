/-
  For every two texts: what is parsed of the first one is laid as it was, byte by byte, of each kind; with the second one behind it is parsed just if that is empty; and the calls whose answers the document fixes are answered so. No condition on the texts but that they fit a machine.
-/
import Derived.Test.YtffebghkmobeoaaDoorTabX
import Derived.Test.YtffebghkmobeoaaDoorTabK
namespace Go.Proofs.YtffebghkmobeoaaDoor.bonly
open Go.Proofs.YtffebghkmobeoaaDoor
open Go.ChangeShapes Go.WideShapes Go.ChangeAt Go.RowKit Go


theorem cat_list (s t : ByteArray) : (s ++ t).data.toList = s.data.toList ++ t.data.toList := by simp
theorem cat_nil {s t : ByteArray} (h : t.data.toList = []) : s ++ t = s := by
  apply ByteArray.ext; apply Array.toList_inj.1; rw [cat_list, h, List.append_nil]
set_option maxRecDepth 100000 in
set_option maxHeartbeats 8000000 in
theorem walk (s more : ByteArray) (W : World) (hs : s.size ≤ 140737488351232) (hs2 : more.size ≤ 140737488351232) (hg : GE W) :
    Calls Tryd.prog 7 #[.string s, .string more] W fun e W' => e = .returned (.bool true) ∧ Below W.heap.size W W' := by
  have nsum : ¬ 9223372036854775807 < s.size + more.size := by omega
  have hcz : (s ++ more).size ≤ 281474976710656 := by rw [ByteArray.size_append]; omega
  have HCZ := Lib.hid hcz
  have HG := Lib.hid (show ∀ w', Below W.heap.size W w' → GE w' from fun w' hB => hg.below hB)
  have P0 := fun w' (hB : Below W.heap.size W w') => inoParses_any s (by omega) w' (hg.below hB)
  have P1 := fun w' (hB : Below W.heap.size W w') => entParses_any s (by omega) w' (hg.below hB)
  have P2 := fun w' (hB : Below W.heap.size W w') => snpParses_any s (by omega) w' (hg.below hB)
  have HR := Lib.hid (Below.refl W.heap.size W)
  clear hg hs hs2 hcz
  go_enter Tryd.func7, Tryd.ntmps7
  go_wp2_with fail
  refine (P0 W HR.out).mono ?_
  intro e a0 hp
  rcases hp with ⟨⟨l0, x0, hi, rfl, hr⟩ | ⟨hno, rfl⟩, B⟩
  · have H01 := Lib.hid (HR.out.trans (B.mono HR.out.size))
    have hv := lst_of_owns inoC_len (by decide) hr
    obtain ⟨ax0, cx0, rfl⟩ := hv.shape
    have HI0 := Lib.hid hi
    have HV0 := Lib.hid hv
    clear hv hi hr
    clear B
    go_wp2_with fail
    refine (P1 a0 H01.out).mono ?_
    intro e a11 hp
    rcases hp with ⟨⟨l1, x1, hi, rfl, hr⟩ | ⟨hno, rfl⟩, B⟩
    · have H111 := Lib.hid (H01.out.trans (B.mono H01.out.size))
      have hv := lst_of_owns entC_len (by decide) hr
      obtain ⟨ax1, cx1, rfl⟩ := hv.shape
      have HI1 := Lib.hid hi
      have HV1 := Lib.hid hv
      have HN1 := Lib.hid (show ∀ q ∈ l1, q.name.size ≤ 140737488355328 from fun q hq => Nat.le_trans (hi.1.ok hq).1.2.1 (by decide))
      clear hv hi hr
      have HV0 := Lib.hid (HV0.out.later B)
      clear B
      go_wp2_with fail
      refine (P2 a11 H111.out).mono ?_
      intro e a211 hp
      rcases hp with ⟨⟨l2, x2, hi, rfl, hr⟩ | ⟨hno, rfl⟩, B⟩
      · have H2111 := Lib.hid (H111.out.trans (B.mono H111.out.size))
        have hv := lst_of_owns snpC_len (by decide) hr
        obtain ⟨ax2, cx2, rfl⟩ := hv.shape
        have HI2 := Lib.hid hi
        have HV2 := Lib.hid hv
        have HN2 := Lib.hid (show ∀ q ∈ l2, q.name.size ≤ 140737488355328 from fun q hq => Nat.le_trans (hi.1.ok hq).1.2.1 (by decide))
        clear hv hi hr
        have HV0 := Lib.hid (HV0.out.later B)
        have HV1 := Lib.hid (HV1.out.later B)
        clear B
        by_cases hmore : more.data.toList = []
        · have em : more.toList.isEmpty = true := by
              rw [toList_eq, hmore]; rfl
          have hx := HCZ.out
          have HE := Lib.hid (cat_nil (s := s) hmore)
          clear hmore
          have C0a := inos_any _ l0 (by have := HI0.out.1.1; omega) a211 (HV0.out.later (Below.refl _ _))
          rw [layV_yes HI0.out.1, HI0.out.2, bs_self] at C0a
          go_wp2_with fail
          refine C0a.mono ?_
          rintro e u0a ⟨rfl, B0a⟩
          have D0a := Lib.hid (H2111.out.trans (B0a.mono H2111.out.size))
          have D0ax := Lib.hid (show Below a211.heap.size a211 u0a from B0a)
          clear B0a C0a
          have E0a := inoParses_any (s ++ more) HCZ.out u0a (HG.out _ D0a.out)
          go_wp2_with fail
          refine E0a.mono ?_
          intro e v0a hp0a
          obtain ⟨⟨q0a, rfl, -⟩, B0a⟩ := hp0a.is rdsI (l := l0) (by rw [HE.out]; exact HI0.out)
          have G0a := Lib.hid (D0a.out.trans (B0a.mono D0a.out.size))
          have G0ax := Lib.hid (D0ax.out.trans (B0a.mono D0ax.out.size))
          clear B0a E0a
          have C1a := ents_any _ l1 (by have := HI1.out.1.1; omega) HN1.out v0a (HV1.out.later (G0ax.out))
          rw [layV_yes HI1.out.1, HI1.out.2, bs_self] at C1a
          go_wp2_with fail
          refine C1a.mono ?_
          rintro e u1a ⟨rfl, B1a⟩
          have D1a := Lib.hid (G0a.out.trans (B1a.mono G0a.out.size))
          have D1ax := Lib.hid (show Below a211.heap.size a211 u1a from G0ax.out.trans (B1a.mono G0ax.out.size))
          clear B1a C1a
          have E1a := entParses_any (s ++ more) HCZ.out u1a (HG.out _ D1a.out)
          go_wp2_with fail
          refine E1a.mono ?_
          intro e v1a hp1a
          obtain ⟨⟨q1a, rfl, -⟩, B1a⟩ := hp1a.is rdsE (l := l1) (by rw [HE.out]; exact HI1.out)
          have G1a := Lib.hid (D1a.out.trans (B1a.mono D1a.out.size))
          have G1ax := Lib.hid (D1ax.out.trans (B1a.mono D1ax.out.size))
          clear B1a E1a
          have C2a := snps_any _ l2 (by have := HI2.out.1.1; omega) HN2.out v1a (HV2.out.later (G1ax.out))
          rw [layV_yes HI2.out.1, HI2.out.2, bs_self] at C2a
          go_wp2_with fail
          refine C2a.mono ?_
          rintro e u2a ⟨rfl, B2a⟩
          have D2a := Lib.hid (G1a.out.trans (B2a.mono G1a.out.size))
          have D2ax := Lib.hid (show Below a211.heap.size a211 u2a from G1ax.out.trans (B2a.mono G1ax.out.size))
          clear B2a C2a
          have E2a := snpParses_any (s ++ more) HCZ.out u2a (HG.out _ D2a.out)
          go_wp2_with fail
          refine E2a.mono ?_
          intro e v2a hp2a
          obtain ⟨⟨q2a, rfl, -⟩, B2a⟩ := hp2a.is rdsS (l := l2) (by rw [HE.out]; exact HI2.out)
          have G2a := Lib.hid (D2a.out.trans (B2a.mono D2a.out.size))
          have G2ax := Lib.hid (D2ax.out.trans (B2a.mono D2ax.out.size))
          clear B2a E2a
          go_wp2_with fail
          refine (fixed_any v2a (HG.out v2a G2a.out)).mono ?_
          rintro e wz ⟨rfl, BZ⟩
          go_wp2_with fail
          go_ret
          exact ⟨rfl, G2a.out.trans (BZ.mono G2a.out.size)⟩
        · have em : more.toList.isEmpty = false := by
              rw [toList_eq, ← Bool.not_eq_true, List.isEmpty_iff]; exact hmore
          have hx := HCZ.out
          have HE := Lib.hid hmore
          clear hmore
          have C0b := inos_any _ l0 (by have := HI0.out.1.1; omega) a211 (HV0.out.later (Below.refl _ _))
          rw [layV_yes HI0.out.1, HI0.out.2, bs_self] at C0b
          go_wp2_with fail
          refine C0b.mono ?_
          rintro e u0b ⟨rfl, B0b⟩
          have D0b := Lib.hid (H2111.out.trans (B0b.mono H2111.out.size))
          have D0bx := Lib.hid (show Below a211.heap.size a211 u0b from B0b)
          clear B0b C0b
          have E0b := inoParses_any (s ++ more) HCZ.out u0b (HG.out _ D0b.out)
          go_wp2_with fail
          refine E0b.mono ?_
          intro e v0b hp0b
          obtain ⟨rfl, B0b⟩ := hp0b.no (fun t ht => HE.out (IsL.more rdsI HI0.out (by rw [cat_list] at ht; exact ht)))
          have G0b := Lib.hid (D0b.out.trans (B0b.mono D0b.out.size))
          have G0bx := Lib.hid (D0bx.out.trans (B0b.mono D0bx.out.size))
          clear B0b E0b
          have C1b := ents_any _ l1 (by have := HI1.out.1.1; omega) HN1.out v0b (HV1.out.later (G0bx.out))
          rw [layV_yes HI1.out.1, HI1.out.2, bs_self] at C1b
          go_wp2_with fail
          refine C1b.mono ?_
          rintro e u1b ⟨rfl, B1b⟩
          have D1b := Lib.hid (G0b.out.trans (B1b.mono G0b.out.size))
          have D1bx := Lib.hid (show Below a211.heap.size a211 u1b from G0bx.out.trans (B1b.mono G0bx.out.size))
          clear B1b C1b
          have E1b := entParses_any (s ++ more) HCZ.out u1b (HG.out _ D1b.out)
          go_wp2_with fail
          refine E1b.mono ?_
          intro e v1b hp1b
          obtain ⟨rfl, B1b⟩ := hp1b.no (fun t ht => HE.out (IsL.more rdsE HI1.out (by rw [cat_list] at ht; exact ht)))
          have G1b := Lib.hid (D1b.out.trans (B1b.mono D1b.out.size))
          have G1bx := Lib.hid (D1bx.out.trans (B1b.mono D1bx.out.size))
          clear B1b E1b
          have C2b := snps_any _ l2 (by have := HI2.out.1.1; omega) HN2.out v1b (HV2.out.later (G1bx.out))
          rw [layV_yes HI2.out.1, HI2.out.2, bs_self] at C2b
          go_wp2_with fail
          refine C2b.mono ?_
          rintro e u2b ⟨rfl, B2b⟩
          have D2b := Lib.hid (G1b.out.trans (B2b.mono G1b.out.size))
          have D2bx := Lib.hid (show Below a211.heap.size a211 u2b from G1bx.out.trans (B2b.mono G1bx.out.size))
          clear B2b C2b
          have E2b := snpParses_any (s ++ more) HCZ.out u2b (HG.out _ D2b.out)
          go_wp2_with fail
          refine E2b.mono ?_
          intro e v2b hp2b
          obtain ⟨rfl, B2b⟩ := hp2b.no (fun t ht => HE.out (IsL.more rdsS HI2.out (by rw [cat_list] at ht; exact ht)))
          have G2b := Lib.hid (D2b.out.trans (B2b.mono D2b.out.size))
          have G2bx := Lib.hid (D2bx.out.trans (B2b.mono D2bx.out.size))
          clear B2b E2b
          go_wp2_with fail
          refine (fixed_any v2b (HG.out v2b G2b.out)).mono ?_
          rintro e wz ⟨rfl, BZ⟩
          go_wp2_with fail
          go_ret
          exact ⟨rfl, G2b.out.trans (BZ.mono G2b.out.size)⟩
      · have H2110 := Lib.hid (H111.out.trans (B.mono H111.out.size))
        have HV0 := Lib.hid (HV0.out.later B)
        have HV1 := Lib.hid (HV1.out.later B)
        clear B hno
        by_cases hmore : more.data.toList = []
        · have em : more.toList.isEmpty = true := by
              rw [toList_eq, hmore]; rfl
          have hx := HCZ.out
          have HE := Lib.hid (cat_nil (s := s) hmore)
          clear hmore
          have C0a := inos_any _ l0 (by have := HI0.out.1.1; omega) a211 (HV0.out.later (Below.refl _ _))
          rw [layV_yes HI0.out.1, HI0.out.2, bs_self] at C0a
          go_wp2_with fail
          refine C0a.mono ?_
          rintro e u0a ⟨rfl, B0a⟩
          have D0a := Lib.hid (H2110.out.trans (B0a.mono H2110.out.size))
          have D0ax := Lib.hid (show Below a211.heap.size a211 u0a from B0a)
          clear B0a C0a
          have E0a := inoParses_any (s ++ more) HCZ.out u0a (HG.out _ D0a.out)
          go_wp2_with fail
          refine E0a.mono ?_
          intro e v0a hp0a
          obtain ⟨⟨q0a, rfl, -⟩, B0a⟩ := hp0a.is rdsI (l := l0) (by rw [HE.out]; exact HI0.out)
          have G0a := Lib.hid (D0a.out.trans (B0a.mono D0a.out.size))
          have G0ax := Lib.hid (D0ax.out.trans (B0a.mono D0ax.out.size))
          clear B0a E0a
          have C1a := ents_any _ l1 (by have := HI1.out.1.1; omega) HN1.out v0a (HV1.out.later (G0ax.out))
          rw [layV_yes HI1.out.1, HI1.out.2, bs_self] at C1a
          go_wp2_with fail
          refine C1a.mono ?_
          rintro e u1a ⟨rfl, B1a⟩
          have D1a := Lib.hid (G0a.out.trans (B1a.mono G0a.out.size))
          have D1ax := Lib.hid (show Below a211.heap.size a211 u1a from G0ax.out.trans (B1a.mono G0ax.out.size))
          clear B1a C1a
          have E1a := entParses_any (s ++ more) HCZ.out u1a (HG.out _ D1a.out)
          go_wp2_with fail
          refine E1a.mono ?_
          intro e v1a hp1a
          obtain ⟨⟨q1a, rfl, -⟩, B1a⟩ := hp1a.is rdsE (l := l1) (by rw [HE.out]; exact HI1.out)
          have G1a := Lib.hid (D1a.out.trans (B1a.mono D1a.out.size))
          have G1ax := Lib.hid (D1ax.out.trans (B1a.mono D1ax.out.size))
          clear B1a E1a
          go_wp2_with fail
          refine (fixed_any v1a (HG.out v1a G1a.out)).mono ?_
          rintro e wz ⟨rfl, BZ⟩
          go_wp2_with fail
          go_ret
          exact ⟨rfl, G1a.out.trans (BZ.mono G1a.out.size)⟩
        · have em : more.toList.isEmpty = false := by
              rw [toList_eq, ← Bool.not_eq_true, List.isEmpty_iff]; exact hmore
          have hx := HCZ.out
          have HE := Lib.hid hmore
          clear hmore
          have C0b := inos_any _ l0 (by have := HI0.out.1.1; omega) a211 (HV0.out.later (Below.refl _ _))
          rw [layV_yes HI0.out.1, HI0.out.2, bs_self] at C0b
          go_wp2_with fail
          refine C0b.mono ?_
          rintro e u0b ⟨rfl, B0b⟩
          have D0b := Lib.hid (H2110.out.trans (B0b.mono H2110.out.size))
          have D0bx := Lib.hid (show Below a211.heap.size a211 u0b from B0b)
          clear B0b C0b
          have E0b := inoParses_any (s ++ more) HCZ.out u0b (HG.out _ D0b.out)
          go_wp2_with fail
          refine E0b.mono ?_
          intro e v0b hp0b
          obtain ⟨rfl, B0b⟩ := hp0b.no (fun t ht => HE.out (IsL.more rdsI HI0.out (by rw [cat_list] at ht; exact ht)))
          have G0b := Lib.hid (D0b.out.trans (B0b.mono D0b.out.size))
          have G0bx := Lib.hid (D0bx.out.trans (B0b.mono D0bx.out.size))
          clear B0b E0b
          have C1b := ents_any _ l1 (by have := HI1.out.1.1; omega) HN1.out v0b (HV1.out.later (G0bx.out))
          rw [layV_yes HI1.out.1, HI1.out.2, bs_self] at C1b
          go_wp2_with fail
          refine C1b.mono ?_
          rintro e u1b ⟨rfl, B1b⟩
          have D1b := Lib.hid (G0b.out.trans (B1b.mono G0b.out.size))
          have D1bx := Lib.hid (show Below a211.heap.size a211 u1b from G0bx.out.trans (B1b.mono G0bx.out.size))
          clear B1b C1b
          have E1b := entParses_any (s ++ more) HCZ.out u1b (HG.out _ D1b.out)
          go_wp2_with fail
          refine E1b.mono ?_
          intro e v1b hp1b
          obtain ⟨rfl, B1b⟩ := hp1b.no (fun t ht => HE.out (IsL.more rdsE HI1.out (by rw [cat_list] at ht; exact ht)))
          have G1b := Lib.hid (D1b.out.trans (B1b.mono D1b.out.size))
          have G1bx := Lib.hid (D1bx.out.trans (B1b.mono D1bx.out.size))
          clear B1b E1b
          go_wp2_with fail
          refine (fixed_any v1b (HG.out v1b G1b.out)).mono ?_
          rintro e wz ⟨rfl, BZ⟩
          go_wp2_with fail
          go_ret
          exact ⟨rfl, G1b.out.trans (BZ.mono G1b.out.size)⟩
    · have H110 := Lib.hid (H01.out.trans (B.mono H01.out.size))
      have HV0 := Lib.hid (HV0.out.later B)
      clear B hno
      go_wp2_with fail
      refine (P2 a11 H110.out).mono ?_
      intro e a210 hp
      rcases hp with ⟨⟨l2, x2, hi, rfl, hr⟩ | ⟨hno, rfl⟩, B⟩
      · have H2101 := Lib.hid (H110.out.trans (B.mono H110.out.size))
        have hv := lst_of_owns snpC_len (by decide) hr
        obtain ⟨ax2, cx2, rfl⟩ := hv.shape
        have HI2 := Lib.hid hi
        have HV2 := Lib.hid hv
        have HN2 := Lib.hid (show ∀ q ∈ l2, q.name.size ≤ 140737488355328 from fun q hq => Nat.le_trans (hi.1.ok hq).1.2.1 (by decide))
        clear hv hi hr
        have HV0 := Lib.hid (HV0.out.later B)
        clear B
        by_cases hmore : more.data.toList = []
        · have em : more.toList.isEmpty = true := by
              rw [toList_eq, hmore]; rfl
          have hx := HCZ.out
          have HE := Lib.hid (cat_nil (s := s) hmore)
          clear hmore
          have C0a := inos_any _ l0 (by have := HI0.out.1.1; omega) a210 (HV0.out.later (Below.refl _ _))
          rw [layV_yes HI0.out.1, HI0.out.2, bs_self] at C0a
          go_wp2_with fail
          refine C0a.mono ?_
          rintro e u0a ⟨rfl, B0a⟩
          have D0a := Lib.hid (H2101.out.trans (B0a.mono H2101.out.size))
          have D0ax := Lib.hid (show Below a210.heap.size a210 u0a from B0a)
          clear B0a C0a
          have E0a := inoParses_any (s ++ more) HCZ.out u0a (HG.out _ D0a.out)
          go_wp2_with fail
          refine E0a.mono ?_
          intro e v0a hp0a
          obtain ⟨⟨q0a, rfl, -⟩, B0a⟩ := hp0a.is rdsI (l := l0) (by rw [HE.out]; exact HI0.out)
          have G0a := Lib.hid (D0a.out.trans (B0a.mono D0a.out.size))
          have G0ax := Lib.hid (D0ax.out.trans (B0a.mono D0ax.out.size))
          clear B0a E0a
          have C2a := snps_any _ l2 (by have := HI2.out.1.1; omega) HN2.out v0a (HV2.out.later (G0ax.out))
          rw [layV_yes HI2.out.1, HI2.out.2, bs_self] at C2a
          go_wp2_with fail
          refine C2a.mono ?_
          rintro e u2a ⟨rfl, B2a⟩
          have D2a := Lib.hid (G0a.out.trans (B2a.mono G0a.out.size))
          have D2ax := Lib.hid (show Below a210.heap.size a210 u2a from G0ax.out.trans (B2a.mono G0ax.out.size))
          clear B2a C2a
          have E2a := snpParses_any (s ++ more) HCZ.out u2a (HG.out _ D2a.out)
          go_wp2_with fail
          refine E2a.mono ?_
          intro e v2a hp2a
          obtain ⟨⟨q2a, rfl, -⟩, B2a⟩ := hp2a.is rdsS (l := l2) (by rw [HE.out]; exact HI2.out)
          have G2a := Lib.hid (D2a.out.trans (B2a.mono D2a.out.size))
          have G2ax := Lib.hid (D2ax.out.trans (B2a.mono D2ax.out.size))
          clear B2a E2a
          go_wp2_with fail
          refine (fixed_any v2a (HG.out v2a G2a.out)).mono ?_
          rintro e wz ⟨rfl, BZ⟩
          go_wp2_with fail
          go_ret
          exact ⟨rfl, G2a.out.trans (BZ.mono G2a.out.size)⟩
        · have em : more.toList.isEmpty = false := by
              rw [toList_eq, ← Bool.not_eq_true, List.isEmpty_iff]; exact hmore
          have hx := HCZ.out
          have HE := Lib.hid hmore
          clear hmore
          have C0b := inos_any _ l0 (by have := HI0.out.1.1; omega) a210 (HV0.out.later (Below.refl _ _))
          rw [layV_yes HI0.out.1, HI0.out.2, bs_self] at C0b
          go_wp2_with fail
          refine C0b.mono ?_
          rintro e u0b ⟨rfl, B0b⟩
          have D0b := Lib.hid (H2101.out.trans (B0b.mono H2101.out.size))
          have D0bx := Lib.hid (show Below a210.heap.size a210 u0b from B0b)
          clear B0b C0b
          have E0b := inoParses_any (s ++ more) HCZ.out u0b (HG.out _ D0b.out)
          go_wp2_with fail
          refine E0b.mono ?_
          intro e v0b hp0b
          obtain ⟨rfl, B0b⟩ := hp0b.no (fun t ht => HE.out (IsL.more rdsI HI0.out (by rw [cat_list] at ht; exact ht)))
          have G0b := Lib.hid (D0b.out.trans (B0b.mono D0b.out.size))
          have G0bx := Lib.hid (D0bx.out.trans (B0b.mono D0bx.out.size))
          clear B0b E0b
          have C2b := snps_any _ l2 (by have := HI2.out.1.1; omega) HN2.out v0b (HV2.out.later (G0bx.out))
          rw [layV_yes HI2.out.1, HI2.out.2, bs_self] at C2b
          go_wp2_with fail
          refine C2b.mono ?_
          rintro e u2b ⟨rfl, B2b⟩
          have D2b := Lib.hid (G0b.out.trans (B2b.mono G0b.out.size))
          have D2bx := Lib.hid (show Below a210.heap.size a210 u2b from G0bx.out.trans (B2b.mono G0bx.out.size))
          clear B2b C2b
          have E2b := snpParses_any (s ++ more) HCZ.out u2b (HG.out _ D2b.out)
          go_wp2_with fail
          refine E2b.mono ?_
          intro e v2b hp2b
          obtain ⟨rfl, B2b⟩ := hp2b.no (fun t ht => HE.out (IsL.more rdsS HI2.out (by rw [cat_list] at ht; exact ht)))
          have G2b := Lib.hid (D2b.out.trans (B2b.mono D2b.out.size))
          have G2bx := Lib.hid (D2bx.out.trans (B2b.mono D2bx.out.size))
          clear B2b E2b
          go_wp2_with fail
          refine (fixed_any v2b (HG.out v2b G2b.out)).mono ?_
          rintro e wz ⟨rfl, BZ⟩
          go_wp2_with fail
          go_ret
          exact ⟨rfl, G2b.out.trans (BZ.mono G2b.out.size)⟩
      · have H2100 := Lib.hid (H110.out.trans (B.mono H110.out.size))
        have HV0 := Lib.hid (HV0.out.later B)
        clear B hno
        by_cases hmore : more.data.toList = []
        · have em : more.toList.isEmpty = true := by
              rw [toList_eq, hmore]; rfl
          have hx := HCZ.out
          have HE := Lib.hid (cat_nil (s := s) hmore)
          clear hmore
          have C0a := inos_any _ l0 (by have := HI0.out.1.1; omega) a210 (HV0.out.later (Below.refl _ _))
          rw [layV_yes HI0.out.1, HI0.out.2, bs_self] at C0a
          go_wp2_with fail
          refine C0a.mono ?_
          rintro e u0a ⟨rfl, B0a⟩
          have D0a := Lib.hid (H2100.out.trans (B0a.mono H2100.out.size))
          have D0ax := Lib.hid (show Below a210.heap.size a210 u0a from B0a)
          clear B0a C0a
          have E0a := inoParses_any (s ++ more) HCZ.out u0a (HG.out _ D0a.out)
          go_wp2_with fail
          refine E0a.mono ?_
          intro e v0a hp0a
          obtain ⟨⟨q0a, rfl, -⟩, B0a⟩ := hp0a.is rdsI (l := l0) (by rw [HE.out]; exact HI0.out)
          have G0a := Lib.hid (D0a.out.trans (B0a.mono D0a.out.size))
          have G0ax := Lib.hid (D0ax.out.trans (B0a.mono D0ax.out.size))
          clear B0a E0a
          go_wp2_with fail
          refine (fixed_any v0a (HG.out v0a G0a.out)).mono ?_
          rintro e wz ⟨rfl, BZ⟩
          go_wp2_with fail
          go_ret
          exact ⟨rfl, G0a.out.trans (BZ.mono G0a.out.size)⟩
        · have em : more.toList.isEmpty = false := by
              rw [toList_eq, ← Bool.not_eq_true, List.isEmpty_iff]; exact hmore
          have hx := HCZ.out
          have HE := Lib.hid hmore
          clear hmore
          have C0b := inos_any _ l0 (by have := HI0.out.1.1; omega) a210 (HV0.out.later (Below.refl _ _))
          rw [layV_yes HI0.out.1, HI0.out.2, bs_self] at C0b
          go_wp2_with fail
          refine C0b.mono ?_
          rintro e u0b ⟨rfl, B0b⟩
          have D0b := Lib.hid (H2100.out.trans (B0b.mono H2100.out.size))
          have D0bx := Lib.hid (show Below a210.heap.size a210 u0b from B0b)
          clear B0b C0b
          have E0b := inoParses_any (s ++ more) HCZ.out u0b (HG.out _ D0b.out)
          go_wp2_with fail
          refine E0b.mono ?_
          intro e v0b hp0b
          obtain ⟨rfl, B0b⟩ := hp0b.no (fun t ht => HE.out (IsL.more rdsI HI0.out (by rw [cat_list] at ht; exact ht)))
          have G0b := Lib.hid (D0b.out.trans (B0b.mono D0b.out.size))
          have G0bx := Lib.hid (D0bx.out.trans (B0b.mono D0bx.out.size))
          clear B0b E0b
          go_wp2_with fail
          refine (fixed_any v0b (HG.out v0b G0b.out)).mono ?_
          rintro e wz ⟨rfl, BZ⟩
          go_wp2_with fail
          go_ret
          exact ⟨rfl, G0b.out.trans (BZ.mono G0b.out.size)⟩
  · have H00 := Lib.hid (HR.out.trans (B.mono HR.out.size))
    clear B hno
    go_wp2_with fail
    refine (P1 a0 H00.out).mono ?_
    intro e a10 hp
    rcases hp with ⟨⟨l1, x1, hi, rfl, hr⟩ | ⟨hno, rfl⟩, B⟩
    · have H101 := Lib.hid (H00.out.trans (B.mono H00.out.size))
      have hv := lst_of_owns entC_len (by decide) hr
      obtain ⟨ax1, cx1, rfl⟩ := hv.shape
      have HI1 := Lib.hid hi
      have HV1 := Lib.hid hv
      have HN1 := Lib.hid (show ∀ q ∈ l1, q.name.size ≤ 140737488355328 from fun q hq => Nat.le_trans (hi.1.ok hq).1.2.1 (by decide))
      clear hv hi hr
      clear B
      go_wp2_with fail
      refine (P2 a10 H101.out).mono ?_
      intro e a201 hp
      rcases hp with ⟨⟨l2, x2, hi, rfl, hr⟩ | ⟨hno, rfl⟩, B⟩
      · have H2011 := Lib.hid (H101.out.trans (B.mono H101.out.size))
        have hv := lst_of_owns snpC_len (by decide) hr
        obtain ⟨ax2, cx2, rfl⟩ := hv.shape
        have HI2 := Lib.hid hi
        have HV2 := Lib.hid hv
        have HN2 := Lib.hid (show ∀ q ∈ l2, q.name.size ≤ 140737488355328 from fun q hq => Nat.le_trans (hi.1.ok hq).1.2.1 (by decide))
        clear hv hi hr
        have HV1 := Lib.hid (HV1.out.later B)
        clear B
        by_cases hmore : more.data.toList = []
        · have em : more.toList.isEmpty = true := by
              rw [toList_eq, hmore]; rfl
          have hx := HCZ.out
          have HE := Lib.hid (cat_nil (s := s) hmore)
          clear hmore
          have C1a := ents_any _ l1 (by have := HI1.out.1.1; omega) HN1.out a201 (HV1.out.later (Below.refl _ _))
          rw [layV_yes HI1.out.1, HI1.out.2, bs_self] at C1a
          go_wp2_with fail
          refine C1a.mono ?_
          rintro e u1a ⟨rfl, B1a⟩
          have D1a := Lib.hid (H2011.out.trans (B1a.mono H2011.out.size))
          have D1ax := Lib.hid (show Below a201.heap.size a201 u1a from B1a)
          clear B1a C1a
          have E1a := entParses_any (s ++ more) HCZ.out u1a (HG.out _ D1a.out)
          go_wp2_with fail
          refine E1a.mono ?_
          intro e v1a hp1a
          obtain ⟨⟨q1a, rfl, -⟩, B1a⟩ := hp1a.is rdsE (l := l1) (by rw [HE.out]; exact HI1.out)
          have G1a := Lib.hid (D1a.out.trans (B1a.mono D1a.out.size))
          have G1ax := Lib.hid (D1ax.out.trans (B1a.mono D1ax.out.size))
          clear B1a E1a
          have C2a := snps_any _ l2 (by have := HI2.out.1.1; omega) HN2.out v1a (HV2.out.later (G1ax.out))
          rw [layV_yes HI2.out.1, HI2.out.2, bs_self] at C2a
          go_wp2_with fail
          refine C2a.mono ?_
          rintro e u2a ⟨rfl, B2a⟩
          have D2a := Lib.hid (G1a.out.trans (B2a.mono G1a.out.size))
          have D2ax := Lib.hid (show Below a201.heap.size a201 u2a from G1ax.out.trans (B2a.mono G1ax.out.size))
          clear B2a C2a
          have E2a := snpParses_any (s ++ more) HCZ.out u2a (HG.out _ D2a.out)
          go_wp2_with fail
          refine E2a.mono ?_
          intro e v2a hp2a
          obtain ⟨⟨q2a, rfl, -⟩, B2a⟩ := hp2a.is rdsS (l := l2) (by rw [HE.out]; exact HI2.out)
          have G2a := Lib.hid (D2a.out.trans (B2a.mono D2a.out.size))
          have G2ax := Lib.hid (D2ax.out.trans (B2a.mono D2ax.out.size))
          clear B2a E2a
          go_wp2_with fail
          refine (fixed_any v2a (HG.out v2a G2a.out)).mono ?_
          rintro e wz ⟨rfl, BZ⟩
          go_wp2_with fail
          go_ret
          exact ⟨rfl, G2a.out.trans (BZ.mono G2a.out.size)⟩
        · have em : more.toList.isEmpty = false := by
              rw [toList_eq, ← Bool.not_eq_true, List.isEmpty_iff]; exact hmore
          have hx := HCZ.out
          have HE := Lib.hid hmore
          clear hmore
          have C1b := ents_any _ l1 (by have := HI1.out.1.1; omega) HN1.out a201 (HV1.out.later (Below.refl _ _))
          rw [layV_yes HI1.out.1, HI1.out.2, bs_self] at C1b
          go_wp2_with fail
          refine C1b.mono ?_
          rintro e u1b ⟨rfl, B1b⟩
          have D1b := Lib.hid (H2011.out.trans (B1b.mono H2011.out.size))
          have D1bx := Lib.hid (show Below a201.heap.size a201 u1b from B1b)
          clear B1b C1b
          have E1b := entParses_any (s ++ more) HCZ.out u1b (HG.out _ D1b.out)
          go_wp2_with fail
          refine E1b.mono ?_
          intro e v1b hp1b
          obtain ⟨rfl, B1b⟩ := hp1b.no (fun t ht => HE.out (IsL.more rdsE HI1.out (by rw [cat_list] at ht; exact ht)))
          have G1b := Lib.hid (D1b.out.trans (B1b.mono D1b.out.size))
          have G1bx := Lib.hid (D1bx.out.trans (B1b.mono D1bx.out.size))
          clear B1b E1b
          have C2b := snps_any _ l2 (by have := HI2.out.1.1; omega) HN2.out v1b (HV2.out.later (G1bx.out))
          rw [layV_yes HI2.out.1, HI2.out.2, bs_self] at C2b
          go_wp2_with fail
          refine C2b.mono ?_
          rintro e u2b ⟨rfl, B2b⟩
          have D2b := Lib.hid (G1b.out.trans (B2b.mono G1b.out.size))
          have D2bx := Lib.hid (show Below a201.heap.size a201 u2b from G1bx.out.trans (B2b.mono G1bx.out.size))
          clear B2b C2b
          have E2b := snpParses_any (s ++ more) HCZ.out u2b (HG.out _ D2b.out)
          go_wp2_with fail
          refine E2b.mono ?_
          intro e v2b hp2b
          obtain ⟨rfl, B2b⟩ := hp2b.no (fun t ht => HE.out (IsL.more rdsS HI2.out (by rw [cat_list] at ht; exact ht)))
          have G2b := Lib.hid (D2b.out.trans (B2b.mono D2b.out.size))
          have G2bx := Lib.hid (D2bx.out.trans (B2b.mono D2bx.out.size))
          clear B2b E2b
          go_wp2_with fail
          refine (fixed_any v2b (HG.out v2b G2b.out)).mono ?_
          rintro e wz ⟨rfl, BZ⟩
          go_wp2_with fail
          go_ret
          exact ⟨rfl, G2b.out.trans (BZ.mono G2b.out.size)⟩
      · have H2010 := Lib.hid (H101.out.trans (B.mono H101.out.size))
        have HV1 := Lib.hid (HV1.out.later B)
        clear B hno
        by_cases hmore : more.data.toList = []
        · have em : more.toList.isEmpty = true := by
              rw [toList_eq, hmore]; rfl
          have hx := HCZ.out
          have HE := Lib.hid (cat_nil (s := s) hmore)
          clear hmore
          have C1a := ents_any _ l1 (by have := HI1.out.1.1; omega) HN1.out a201 (HV1.out.later (Below.refl _ _))
          rw [layV_yes HI1.out.1, HI1.out.2, bs_self] at C1a
          go_wp2_with fail
          refine C1a.mono ?_
          rintro e u1a ⟨rfl, B1a⟩
          have D1a := Lib.hid (H2010.out.trans (B1a.mono H2010.out.size))
          have D1ax := Lib.hid (show Below a201.heap.size a201 u1a from B1a)
          clear B1a C1a
          have E1a := entParses_any (s ++ more) HCZ.out u1a (HG.out _ D1a.out)
          go_wp2_with fail
          refine E1a.mono ?_
          intro e v1a hp1a
          obtain ⟨⟨q1a, rfl, -⟩, B1a⟩ := hp1a.is rdsE (l := l1) (by rw [HE.out]; exact HI1.out)
          have G1a := Lib.hid (D1a.out.trans (B1a.mono D1a.out.size))
          have G1ax := Lib.hid (D1ax.out.trans (B1a.mono D1ax.out.size))
          clear B1a E1a
          go_wp2_with fail
          refine (fixed_any v1a (HG.out v1a G1a.out)).mono ?_
          rintro e wz ⟨rfl, BZ⟩
          go_wp2_with fail
          go_ret
          exact ⟨rfl, G1a.out.trans (BZ.mono G1a.out.size)⟩
        · have em : more.toList.isEmpty = false := by
              rw [toList_eq, ← Bool.not_eq_true, List.isEmpty_iff]; exact hmore
          have hx := HCZ.out
          have HE := Lib.hid hmore
          clear hmore
          have C1b := ents_any _ l1 (by have := HI1.out.1.1; omega) HN1.out a201 (HV1.out.later (Below.refl _ _))
          rw [layV_yes HI1.out.1, HI1.out.2, bs_self] at C1b
          go_wp2_with fail
          refine C1b.mono ?_
          rintro e u1b ⟨rfl, B1b⟩
          have D1b := Lib.hid (H2010.out.trans (B1b.mono H2010.out.size))
          have D1bx := Lib.hid (show Below a201.heap.size a201 u1b from B1b)
          clear B1b C1b
          have E1b := entParses_any (s ++ more) HCZ.out u1b (HG.out _ D1b.out)
          go_wp2_with fail
          refine E1b.mono ?_
          intro e v1b hp1b
          obtain ⟨rfl, B1b⟩ := hp1b.no (fun t ht => HE.out (IsL.more rdsE HI1.out (by rw [cat_list] at ht; exact ht)))
          have G1b := Lib.hid (D1b.out.trans (B1b.mono D1b.out.size))
          have G1bx := Lib.hid (D1bx.out.trans (B1b.mono D1bx.out.size))
          clear B1b E1b
          go_wp2_with fail
          refine (fixed_any v1b (HG.out v1b G1b.out)).mono ?_
          rintro e wz ⟨rfl, BZ⟩
          go_wp2_with fail
          go_ret
          exact ⟨rfl, G1b.out.trans (BZ.mono G1b.out.size)⟩
    · have H100 := Lib.hid (H00.out.trans (B.mono H00.out.size))
      clear B hno
      go_wp2_with fail
      refine (P2 a10 H100.out).mono ?_
      intro e a200 hp
      rcases hp with ⟨⟨l2, x2, hi, rfl, hr⟩ | ⟨hno, rfl⟩, B⟩
      · have H2001 := Lib.hid (H100.out.trans (B.mono H100.out.size))
        have hv := lst_of_owns snpC_len (by decide) hr
        obtain ⟨ax2, cx2, rfl⟩ := hv.shape
        have HI2 := Lib.hid hi
        have HV2 := Lib.hid hv
        have HN2 := Lib.hid (show ∀ q ∈ l2, q.name.size ≤ 140737488355328 from fun q hq => Nat.le_trans (hi.1.ok hq).1.2.1 (by decide))
        clear hv hi hr
        clear B
        by_cases hmore : more.data.toList = []
        · have em : more.toList.isEmpty = true := by
              rw [toList_eq, hmore]; rfl
          have hx := HCZ.out
          have HE := Lib.hid (cat_nil (s := s) hmore)
          clear hmore
          have C2a := snps_any _ l2 (by have := HI2.out.1.1; omega) HN2.out a200 (HV2.out.later (Below.refl _ _))
          rw [layV_yes HI2.out.1, HI2.out.2, bs_self] at C2a
          go_wp2_with fail
          refine C2a.mono ?_
          rintro e u2a ⟨rfl, B2a⟩
          have D2a := Lib.hid (H2001.out.trans (B2a.mono H2001.out.size))
          have D2ax := Lib.hid (show Below a200.heap.size a200 u2a from B2a)
          clear B2a C2a
          have E2a := snpParses_any (s ++ more) HCZ.out u2a (HG.out _ D2a.out)
          go_wp2_with fail
          refine E2a.mono ?_
          intro e v2a hp2a
          obtain ⟨⟨q2a, rfl, -⟩, B2a⟩ := hp2a.is rdsS (l := l2) (by rw [HE.out]; exact HI2.out)
          have G2a := Lib.hid (D2a.out.trans (B2a.mono D2a.out.size))
          have G2ax := Lib.hid (D2ax.out.trans (B2a.mono D2ax.out.size))
          clear B2a E2a
          go_wp2_with fail
          refine (fixed_any v2a (HG.out v2a G2a.out)).mono ?_
          rintro e wz ⟨rfl, BZ⟩
          go_wp2_with fail
          go_ret
          exact ⟨rfl, G2a.out.trans (BZ.mono G2a.out.size)⟩
        · have em : more.toList.isEmpty = false := by
              rw [toList_eq, ← Bool.not_eq_true, List.isEmpty_iff]; exact hmore
          have hx := HCZ.out
          have HE := Lib.hid hmore
          clear hmore
          have C2b := snps_any _ l2 (by have := HI2.out.1.1; omega) HN2.out a200 (HV2.out.later (Below.refl _ _))
          rw [layV_yes HI2.out.1, HI2.out.2, bs_self] at C2b
          go_wp2_with fail
          refine C2b.mono ?_
          rintro e u2b ⟨rfl, B2b⟩
          have D2b := Lib.hid (H2001.out.trans (B2b.mono H2001.out.size))
          have D2bx := Lib.hid (show Below a200.heap.size a200 u2b from B2b)
          clear B2b C2b
          have E2b := snpParses_any (s ++ more) HCZ.out u2b (HG.out _ D2b.out)
          go_wp2_with fail
          refine E2b.mono ?_
          intro e v2b hp2b
          obtain ⟨rfl, B2b⟩ := hp2b.no (fun t ht => HE.out (IsL.more rdsS HI2.out (by rw [cat_list] at ht; exact ht)))
          have G2b := Lib.hid (D2b.out.trans (B2b.mono D2b.out.size))
          have G2bx := Lib.hid (D2bx.out.trans (B2b.mono D2bx.out.size))
          clear B2b E2b
          go_wp2_with fail
          refine (fixed_any v2b (HG.out v2b G2b.out)).mono ?_
          rintro e wz ⟨rfl, BZ⟩
          go_wp2_with fail
          go_ret
          exact ⟨rfl, G2b.out.trans (BZ.mono G2b.out.size)⟩
      · have H2000 := Lib.hid (H100.out.trans (B.mono H100.out.size))
        clear B hno
        by_cases hmore : more.data.toList = []
        · have em : more.toList.isEmpty = true := by
              rw [toList_eq, hmore]; rfl
          have hx := HCZ.out
          have HE := Lib.hid (cat_nil (s := s) hmore)
          clear hmore
          go_wp2_with fail
          refine (fixed_any a200 (HG.out a200 H2000.out)).mono ?_
          rintro e wz ⟨rfl, BZ⟩
          go_wp2_with fail
          go_ret
          exact ⟨rfl, H2000.out.trans (BZ.mono H2000.out.size)⟩
        · have em : more.toList.isEmpty = false := by
              rw [toList_eq, ← Bool.not_eq_true, List.isEmpty_iff]; exact hmore
          have hx := HCZ.out
          have HE := Lib.hid hmore
          clear hmore
          go_wp2_with fail
          refine (fixed_any a200 (HG.out a200 H2000.out)).mono ?_
          rintro e wz ⟨rfl, BZ⟩
          go_wp2_with fail
          go_ret
          exact ⟨rfl, H2000.out.trans (BZ.mono H2000.out.size)⟩

set_option maxRecDepth 100000 in
/-- WHAT THE WALK GIVES, for every argument that can be read. -/
theorem contract (H : Type) (enc : TypeId × Value → H) (W : World) (base : Nat) (args : Array Value) (ds gs : List (DataW H)) (before : List MemPlace)
    (hval : ∀ (j : Nat) t v, Tryd.f7.params[j]? = some t → args[j]? = some v → Value.okWide Tryd.prog W .any base t v)
    (hW : DataW.Whole enc Tryd.prog Tryd.f7.params.toList Rows.tableOnlySpec.vars false W args.toList ds gs before)
    (hreach : (DataW.weightsEach Tryd.prog (Tryd.f7.params.toList) ds).all (· ≤ reachBytes) = true) (hg : GE W) :
    Calls Tryd.prog 7 args W fun e W' => ∃ v, e = .returned v ∧ Rows.tableOnlySpec.post enc Tryd.prog Tryd.f7 false true false false W args v W' := by
  have hW' := hW
  obtain ⟨p, q, hA0, hV, rfl, hfz, hnd⟩ := hW
  have hA : DataW.TrodAll enc Tryd.prog W 0 (fun _ => true) true Tryd.f7.params.toList args.toList ds p := hA0
  rw [Tryd.params7] at hA hval hreach
  obtain ⟨v0, v1, d0, d1, p0, p1, rfl, rfl, rfl, h0, h1⟩ := trodAll_two hA
  obtain ⟨rfl, rfl⟩ := trodVars_none hV
  obtain ⟨s0, rfl, rfl, rfl, ws0⟩ := Go.ChangeMaps.open_string Tryd.underlying9 (hval 0 9 v0 rfl rfl) h0
  have r0 := reach_size (sized_string hreach (j := 0) rfl rfl)
  obtain ⟨s1, rfl, rfl, rfl, ws1⟩ := Go.ChangeMaps.open_string Tryd.underlying9 (hval 1 9 v1 rfl rfl) h1
  have r1 := reach_size (sized_string hreach (j := 1) rfl rfl)
  clear hA0 hval
  simp only [List.append_nil] at hW'
  refine (walk s0 s1 W r0 r1 hg).mono fun e W' ⟨he, hB⟩ => ?_
  subst he
  exact ⟨_, rfl, post_of_below (pa := [] ++ ([])) (pv := []) hW' (fun _ _ _ => trodAll_mk1 (shut_bool Tryd.underlying4 _)) (fun sp hsp => trodAll_mk2 (Go.ChangeMaps.shut_string Tryd.underlying9 ws0) (Go.ChangeMaps.shut_string Tryd.underlying9 ws1)) (fun _ _ => rfl) (by simp) hB (ok_one (by kernel_rfl) rfl (okWide_bool_mk Tryd.underlying4 _))⟩

theorem reads (os : Os) {H : Type} (enc : TypeId × Value → H) : ∃ places, DataW.whole enc Tryd.prog ((laidWorldH os).forCall (fun _ _ => 0) ⟨#[], #[.string ⟨#[]⟩, .string ⟨#[]⟩], []⟩).memory Tryd.f7.params.toList Rows.tableOnlySpec.vars false (#[.string ⟨#[]⟩, .string ⟨#[]⟩] : Array Value).toList 8 = some ([.lit (.string []), .lit (.string [])], [], places) :=
  ⟨[], by kernel_rfl⟩

set_option maxRecDepth 100000 in
theorem lifted (os : Os) (started : os.Started) (H : Type) (enc : TypeId × Value → H) (F : Stop.Interp) :
    ReturnsInHanded {} Tryd.checked os 7 .any ((OpenSpec.ofChange Rows.tableOnlySpec).preRow enc Tryd.prog Tryd.f7 Rows.tableOnlyRow.domain false Rows.tableOnlyRow.laid) (((OpenSpec.ofChange Rows.tableOnlySpec).at F).post enc Tryd.prog Tryd.f7 false true false false) := by
  obtain ⟨places, hx⟩ := reads os enc
  refine returnsInHanded_of_row (C := Tryd.checked) (s := OpenSpec.ofChange Rows.tableOnlySpec) own started (by kernel_rfl) Tryd.func7
    (witness_row_at (enc := enc) (C := Tryd.checked) false (laidWorldH os) #[.string ⟨#[]⟩, .string ⟨#[]⟩] rfl (by kernel_rfl) (by kernel_rfl) (by kernel_rfl)
      (OpenSpec.preRow_of_cond 8 hx (by kernel_rfl) (fun k hk => by cases hk) (by kernel_rfl) (laid_metH os _))) ?_
  intro W base args ds gs before hval hW _ hcond hreach hL _ _
  obtain ⟨p, q, hA0, hV, hpq, hfz, hnd⟩ := id hW
  obtain ⟨rfl, _⟩ := trodVars_none hV
  rw [List.append_nil] at hreach
  exact contract H enc W base args ds [] before hval hW hreach (handle_of_laid hL)

theorem said : Rows.TableOnlySaid :=
  OpenClaim.holds_of_cond 7 Tryd.f7 rfl rfl rfl rfl rfl rfl rfl ⟨rfl, rfl, rfl, rfl, rfl⟩ rfl rfl rfl rfl rfl (by kernel_rfl) Tryd.func7 (by kernel_rfl)
    (of_decide_eq_true (by kernel_rfl)) (by unfold Func.isWrapper; first | (rw [if_pos (by decide +kernel)]; kernel_rfl) | (rw [if_neg (by decide +kernel)]; exact ⟨rfl, rfl⟩))
    (fun os started H enc _ F => by rw [OpenClaim.pre_eq_preRow]; exact lifted os started H enc F)

theorem plain (f : FuncId) (fn : Func) (hf : Tryd.pinned.checked.prog.funcNamed "stillage/stillagelaw12.TableOnly" = some f) (hfn : Tryd.pinned.checked.prog.funcs[f]? = some fn) :
    true = Tryd.pinned.checked.prog.looks [] ∧ ∀ (j : Nat) t, fn.params[j]? = some t → Tryd.pinned.checked.prog.wantsStandIn t = false := by
  obtain rfl : f = 7 := Option.some.inj ((show Tryd.prog.funcNamed "stillage/stillagelaw12.TableOnly" = some 7 by kernel_rfl).symm.trans hf) |>.symm
  obtain rfl : fn = Tryd.f7 := (Option.some.inj (Tryd.func7.symm.trans hfn)).symm
  refine ⟨by kernel_rfl, fun j t ht => ?_⟩
  rw [Tryd.params7] at ht
  have hm : t ∈ [9, 9] := by simpa using Array.mem_of_getElem? ht
  have hall : ([9, 9].all fun u => !Tryd.prog.wantsStandIn u) = true := by kernel_rfl
  exact (show Tryd.prog.wantsStandIn t = false by simpa using List.all_eq_true.1 hall t hm)

/-- THE CARD -/
theorem card : Rows.TableOnlyCardSaid :=
  Claim7.holds_tied_plain_at .later [] _ _ _ _ said (fun _ h => by cases h) (by kernel_rfl) (fun _ h => by cases h) tableOnly_row_tie rfl ⟨rfl, rfl⟩ (by kernel_rfl) rfl plain (by kernel_rfl)


end Go.Proofs.YtffebghkmobeoaaDoor.bonly

