/-
  A law's calls whose answers are fixed.
-/
import Derived.Test.YtknfakaklmpboaaGreatDoorBlkT
import Derived.Test.YtknfakaklmpboaaGreatDoorBlkT0
namespace Go.Proofs.YtknfakaklmpboaaGreatDoor
open Go.RowKit Go Go.Maps SM

theorem made_nought8 (w : World) (k : Nat) (h : k ≤ 1048640) : ∃ M : Array Value, (Instr.makeSlice 79 (.int .i64 (k : Int)) (.int .i64 (k : Int))).run Tryz.prog w = .ok (.slice (some ⟨w.heap.size, 0, none⟩) k k) (w.alloc (.cells M 5)) ∧
    (convert 79 9 (.slice (some ⟨w.heap.size, 0, none⟩) k k)).run Tryz.prog (w.alloc (.cells M 5)) = .ok (.string (nought k)) (w.alloc (.cells M 5)) ∧ Below w.heap.size w (w.alloc (.cells M 5)) :=
  ⟨_, (made_text w k h).1, (made_text w k h).2, (Below.refl _ w).alloc (Nat.le_refl _) _⟩
theorem VLaid.vw {w w' : World} {b g m r n : Nat} {t : ByteArray} {p p2 : Option Addr} (h : VLaid w b g m r n t p p2 w') (he : vformE (fresh (blank n)) t = 0) : ∃ l c q, p = some ⟨l, 0, none⟩ ∧ p2 = some ⟨q, 0, none⟩ ∧ VW w l b g m c (vformX (fresh (blank n)) t) w' := by
  rcases h.vol with ⟨_, ⟨l, c, e1, e2⟩, q, k, f1, _⟩ | ⟨e, _⟩
  · exact ⟨l, c, q, e1, f1, e2⟩
  · exact absurd he e
set_option maxRecDepth 100000 in
set_option maxHeartbeats 4000000 in
theorem fixed8_any (w : World) :
    Calls Tryz.prog 21 #[] w fun e w' => e = .returned (.bool true) ∧ Below w.heap.size w w' := by
  have CL := laid_vol 32 tA ⟨by decide, by decide⟩ (by decide) w
  have m0 : fV0.disk.made ≤ 3 := by rw [fm0]; exact Nat.le_refl _
  have m1 : fV1.disk.made ≤ 8 := Nat.le_trans (made_vwrite fV0 1 tX) (by omega)
  have m2 : fV2.disk.made ≤ 13 := Nat.le_trans (made_vcommit fV1 tB) (by omega)
  have m3 : fV3.disk.made ≤ 13 := by rw [show fV3.disk = fV2.disk from made_vread fV2 1]; exact m2
  have m4 : fV4.disk.made ≤ 13 := by rw [show fV4.disk = fV3.disk from made_vread fV3 2]; exact m3
  have m5 : fV5.disk.made ≤ 18 := Nat.le_trans (made_vwrite fV4 0 tX) (by omega)
  have i0 : I64 0 := ⟨by decide, by decide⟩
  have i1 : I64 1 := ⟨by decide, by decide⟩
  have i2 : I64 2 := ⟨by decide, by decide⟩
  have R0 := fun l b g m c W (h : VW w l b g m c fV0 W) => h.root
  have W0 := fun l b g m c W (h : VW w l b g m c fV0 W) => h.write (by omega) 1 i1 tX (by decide)
  have K1 := fun l b g m c W (h : VW w l b g m c fV1 W) => h.commit (by omega) tB (by decide)
  have R2 := fun l b g m c W (h : VW w l b g m c fV2 W) => h.root
  have D2 := fun l b g m c W (h : VW w l b g m c fV2 W) => h.read 1 i1
  have D3 := fun l b g m c W (h : VW w l b g m c fV3 W) => h.read 2 i2
  have W4 := fun l b g m c W (h : VW w l b g m c fV4 W) => h.write (by omega) 0 i0 tX (by decide)
  have W5 := fun l b g m c W (h : VW w l b g m c fV5 W) => h.write (by omega) 1 i1 (nought 241) (by rw [size_nought]; omega)
  have O6 := fun l b g m c W (h : VW w l b g m c fV6 W) => h.open_
  have R7 := fun l b g m c W (h : VW w l b g m c (vopenX fV6.disk) W) => h.root
  have B6 := fun l b g m c W (h : VW w l b g m c fV6 W) => h.blocks
  have F7 := fun W => frame_any tX (by decide) W
  have U7 := fun W => unframe_any (frameB tX) (by rw [ffz]; decide) W
  rw [show frameV tX = .tuple #[.string (frameB tX), .int .i64 0] from if_neg (by decide)] at F7
  rw [show unframeV (frameB tX) = .tuple #[.string tX, .int .i64 0] by rw [unframeV, ffu]] at U7
  rw [fr0, fn0] at R0
  rw [fe1, show (fV0.write 1 tX).2 = fV1 from rfl] at W0
  rw [fe2, show (fV1.commit tB).2 = fV2 from rfl] at K1
  rw [fr2, fn2] at R2
  rw [fe3, fs3, show (fV2.read 1).2.2 = fV3 from rfl] at D2
  rw [fe4, show (fV3.read 2).2.2 = fV4 from rfl] at D3
  rw [fe5, show (fV4.write 0 tX).2 = fV5 from rfl] at W4
  rw [fe6, show (fV5.write 1 (nought 241)).2 = fV6 from rfl] at W5
  rw [fo6] at O6
  rw [fot, fon] at R7
  rw [fbk] at B6
  have hfz := ffz
  have HLaid := Lib.hid (show ∀ b g m r p p2 w', VLaid w b g m r 32 tA p p2 w' → ∃ l c q, p = some ⟨l, 0, none⟩ ∧ p2 = some ⟨q, 0, none⟩ ∧ VW w l b g m c fV0 w' from fun b g m r p p2 w' h => h.vw fe0)
  clear m0 m1 m2 m3 m4 m5 i0 i1 i2
  generalize (fV3.read 2).2.1 = Y3 at *
  generalize vopenX fV6.disk = x7 at *
  generalize fV0 = x0 at *
  generalize fV1 = x1 at *
  generalize fV2 = x2 at *
  generalize fV3 = x3 at *
  generalize fV4 = x4 at *
  generalize fV5 = x5 at *
  generalize fV6 = x6 at *
  generalize frameB tX = FB at *
  have N5 := fun w => made_nought8 w 241 (by omega)
  generalize nought 241 = z1 at *
  unfold tA tB tX at *
  go_enter Tryz.func21, Tryz.ntmps21
  go_wp2_with fail
  refine CL.mono ?_
  rintro e w1 ⟨b, g, m, r, n, p, p2, rfl, hl, hn⟩
  obtain rfl : n = 32 := by omega
  obtain ⟨l, c, q, rfl, rfl, h1⟩ := HLaid.out _ _ _ _ _ _ _ hl
  have H1 := Lib.hid h1
  clear hl hn h1 CL
  go_wp2_with fail
  refine (R0 _ _ _ _ _ _ H1.out).mono ?_
  rintro e w2 ⟨rfl, h2, _⟩
  have H2 := Lib.hid h2
  clear h2 R0
  go_wp2_with fail
  refine (W0 _ _ _ _ _ _ H2.out).mono ?_
  rintro e w3 ⟨rfl, h3, _⟩
  have H3 := Lib.hid h3
  clear h3 W0
  go_wp2_with fail
  refine (K1 _ _ _ _ _ _ H3.out).mono ?_
  rintro e w4 ⟨rfl, h4, _⟩
  have H4 := Lib.hid h4
  clear h4 K1
  go_wp2_with fail
  refine (R2 _ _ _ _ _ _ H4.out).mono ?_
  rintro e w5 ⟨rfl, h5, _⟩
  have H5 := Lib.hid h5
  clear h5 R2
  go_wp2_with fail
  refine (D2 _ _ _ _ _ _ H5.out).mono ?_
  rintro e w6 ⟨rfl, h6, _⟩
  have H6 := Lib.hid h6
  clear h6 D2
  go_wp2_with fail
  refine (D3 _ _ _ _ _ _ H6.out).mono ?_
  rintro e w7 ⟨rfl, h7, _⟩
  have H7 := Lib.hid h7
  clear h7 D3
  go_wp2_with fail
  refine (W4 _ _ _ _ _ _ H7.out).mono ?_
  rintro e w8 ⟨rfl, h8, _⟩
  obtain ⟨M1, k1, k2, kB⟩ := N5 w8
  have H8 := Lib.hid (h8.later kB)
  have k1' : (Instr.makeSlice 79 (.int .i64 241) (.int .i64 241)).run Tryz.prog w8 = _ := k1
  clear h8 W4 k1 kB
  go_wp2_with fail
  refine (W5 _ _ _ _ _ _ H8.out).mono ?_
  rintro e w9 ⟨rfl, h9, _⟩
  have H9 := Lib.hid h9
  clear h9 W5 k1' k2
  go_wp2_with fail
  refine (O6 _ _ _ _ _ _ H9.out).mono ?_
  rintro e w10 ⟨pp, rfl, hpp, h10, _⟩
  have hp' : ∃ t k, pp = some ⟨t, 0, none⟩ ∧ VW w t b g m k x7 w10 := by
    rcases hpp with ⟨_, t, k, e, h⟩ | ⟨e, _⟩
    · exact ⟨t, k, e, h⟩
    · exact absurd rfl e
  obtain ⟨t, k, rfl, ht10⟩ := hp'
  have H10 := Lib.hid h10
  have T10 := Lib.hid ht10
  clear hpp h10 ht10 O6
  go_wp2_with fail
  refine (R7 _ _ _ _ _ _ T10.out).mono ?_
  rintro e w11 ⟨rfl, _, hB11⟩
  have H11 := Lib.hid (H10.out.later hB11)
  clear hB11 R7
  go_wp2_with fail
  refine (F7 _).mono ?_
  rintro e w12 ⟨rfl, hB12⟩
  have H12 := Lib.hid (H11.out.later hB12)
  clear hB12 F7
  go_wp2_with fail
  refine (U7 _).mono ?_
  rintro e w13 ⟨rfl, hB13⟩
  have H13 := Lib.hid (H12.out.later hB13)
  clear hB13 U7
  go_wp2_with fail
  refine (B6 _ _ _ _ _ _ H13.out).mono ?_
  rintro e w' ⟨rfl, rfl⟩
  go_wp2
  go_ret
  exact ⟨rfl, H13.out.below⟩
end Go.Proofs.YtknfakaklmpboaaGreatDoor

