/-
  A volume: Read, Write, Commit.
-/
import Derived.Test.YtknfakaklmpboaaGreatDoorBlkC
namespace Go.Proofs.YtknfakaklmpboaaGreatDoor
open Go.RowKit Go Go.Maps SM

/-- a volume some steps on: what is kept may stand in other blocks -/
def VSt (base l b g m c : Nat) (F : Nat → Prop) (w0 : World) (x : VS) (w : World) : Prop := ∃ F', VolAt base l b g m c F' x w ∧ Stir (VFoot l b g m F) w0 w ∧ ∀ k, F' k → F k ∨ w0.heap.size ≤ k
section
variable {base l b g m c : Nat} {F F' : Nat → Prop} {x : VS} {w0 w w' : World}
theorem VSt.start (h : VolAt base l b g m c F x w) : VSt base l b g m c F w x w := ⟨F, h, Stir.refl _ _, fun _ h => .inl h⟩
theorem VSt.below (h : VSt base l b g m c F w0 x w) (hB : Below w.heap.size w w') : VSt base l b g m c F w0 x w' := by
  obtain ⟨F', a, b, c⟩ := h
  exact ⟨F', a.below hB, b.and_below hB, c⟩
theorem VSt.turn {s' : DS} (h : VSt base l b g m c F w0 x w) (hd : DiskAt b g m s' w') (hs : Stir (Foot b g m) w w') (hl : s'.stay.length = x.disk.stay.length) : VSt base l b g m c F w0 { x with disk := s' } w' := by
  obtain ⟨F', a, b, c⟩ := h
  exact ⟨F', a.turn hd hs hl, b.trans hs (fun i e => .inl (.inr (.inl e))), c⟩
theorem VSt.step (hs : Stir (VFoot l b g m F) w0 w) (hF : ∀ k, F' k → F k ∨ w0.heap.size ≤ k) (hv : VolAt base l b g m c F' x w) {L : List (Int × ByteArray)} (hl : CI.Left base F' c 32 L w w') : VSt base l b g m c F w0 { x with kept := L } w' := by
  obtain ⟨F'', a, b, c⟩ := hv.keep hl
  refine ⟨F'', a, hs.trans b (fun i e => ?_), fun k hk => ?_⟩
  · rcases hF i e with e | e
    · exact .inl (.inr (.inr e))
    · exact .inr e
  · rcases c k hk with e | e
    · exact hF k e
    · have := hs.size; right; omega
theorem VSt.mark {x' : VS} (h : VSt base l b g m c F w0 x w) (hn : ∀ F', VolAt base l b g m c F' x w → VolAt base l b g m c F' x' w') (hs : Stir (· = l) w w') : VSt base l b g m c F w0 x' w' := by
  obtain ⟨F', a, b, c⟩ := h
  exact ⟨F', hn F' a, b.trans hs (fun i e => .inl (.inl e)), c⟩
theorem Left.same {B room : Nat} {L : List (Int × ByteArray)} (h : CI.Left B F c room L w w') : CI.Left B F c room L w w' := h

set_option maxRecDepth 100000 in
set_option maxHeartbeats 4000000 in
theorem vread_any (h : VolAt base l b g m c F x w) (v : Int) (hv : I64 v) :
    Calls Tryz.prog 5 #[.pointer (some ⟨l, 0, none⟩), .int .i64 v] w fun e w' => e = .returned (.tuple #[.string (x.read v).2.1, .int .i64 (x.read v).1]) ∧ VSt base l b g m c F w (x.read v).2.2 w' := by
  obtain ⟨R, hR⟩ : ∃ R, x.read v = R := ⟨_, rfl⟩
  rw [hR]
  have HR := Lib.hid hR
  have H := Lib.hid h
  have CH := vhas_any h v
  have c3 := VObj.c3 h.obj
  have c4 := VObj.c4 h.obj
  by_cases h1 : x.has v = true
  · rw [h1] at CH
    have hr := has_is.1 h1
    have hb := big_is h.big
    cases hd : x.dead with
    | true =>
      have HR2 := Lib.hid (show R = (2, none0, x) by rw [← hR, VS.read, h1, hd]; rfl)
      rw [hd] at c4
      clear h hR hb hr HR
      go_enter Tryz.func5, Tryz.ntmps5
      go_wp2_with fail
      refine CH.mono ?_
      rintro e w' ⟨rfl, rfl⟩
      go_wp2
      go_ret2
      exact ⟨by rw [HR2.out]; rfl, by rw [HR2.out]; exact VSt.start H.out⟩
    | false =>
      rw [hd] at c4
      have hc : (∃ p, CI.getL x.kept v = some p) ∨ CI.getL x.kept v = none := by
        cases CI.getL x.kept v with
        | none => exact .inr rfl
        | some p => exact .inl ⟨p, rfl⟩
      rcases hc with ⟨p, hg⟩ | hg
      · have HR2 := Lib.hid (show R = (0, p, { x with kept := CI.useL x.kept v }) by rw [← hR, VS.read, h1, hd, hg]; rfl)
        have CG := CI.get_some h.kept hv hg
        have HU := Lib.hid (show CI.useL x.kept v = (v, p) :: CI.dropL x.kept v by rw [CI.useL, hg])
        clear h hR hb hr hg HR
        go_enter Tryz.func5, Tryz.ntmps5
        go_wp2_with fail
        refine CH.mono ?_
        rintro e w' ⟨rfl, rfl⟩
        go_wp2_with fail
        refine CG.mono ?_
        rintro e w1 ⟨rfl, hl1⟩
        rw [← HU.out] at hl1
        have HV1 := Lib.hid (VSt.step (Stir.refl _ _) (fun _ h => .inl h) H.out hl1)
        clear hl1 CG
        go_wp2
        go_ret2
        exact ⟨by rw [HR2.out]; rfl, by rw [HR2.out]; exact HV1.out⟩
      · have CG := CI.get_none h.kept hv hg
        obtain ⟨n, rfl⟩ : ∃ n : Nat, v = (n : Int) := ⟨v.toNat, by omega⟩
        have hn : n ≤ 1048576 := by omega
        have CL := fun F' w (h : VolAt base l b g m c F' x w) => vload_any h n hn
        have hlen := len_loads h.disk.1 (4 * n) 4 0
        obtain ⟨P, hP⟩ : ∃ P, loadV x.disk n = P := ⟨_, rfl⟩
        rw [hP] at CL
        rw [← loadV, hP] at hlen
        have HRR := Lib.hid (show R = if P.1 ≠ 0 then (P.1, none0, { x with dead := P.1 == 2 }) else match unframe (bsL P.2) with
            | some p => (0, p, { x with kept := CI.putL 32 x.kept (n : Int) p })
            | none => (82, none0, x) by
          rw [← hR, VS.read, h1, hd, hg]
          simp only [Int.toNat_natCast, hP]
          rfl)
        have HDd := Lib.hid hd
        clear h hR hb hr hg HR hP
        by_cases hE : P.1 = 0
        · have hu : (∃ p, unframe (bsL P.2) = some p) ∨ unframe (bsL P.2) = none := by
            cases unframe (bsL P.2) with
            | none => exact .inr rfl
            | some p => exact .inl ⟨p, rfl⟩
          have CU := fun w => unframe_any (bsL P.2) (by rw [size_bsL]; omega) w
          unfold loadedV at CL
          rw [if_pos hE] at CL
          unfold unframeV at CU
          rcases hu with ⟨p, hu⟩ | hu
          · have HR2 := Lib.hid (show R = (0, p, { x with kept := CI.putL 32 x.kept (n : Int) p }) by rw [HRR.out, if_neg (by rw [hE]; simp), hu])
            rw [hu] at CU
            simp only at CU
            generalize bsL P.2 = Y at *
            clear HRR hu hlen hE
            go_enter Tryz.func5, Tryz.ntmps5
            go_wp2_with fail
            refine CH.mono ?_
            rintro e w' ⟨rfl, rfl⟩
            go_wp2_with fail
            refine CG.mono ?_
            rintro e w1 ⟨rfl, hl1⟩
            obtain ⟨F1, hv1, hs1, hF1⟩ := VSt.step (Stir.refl _ _) (fun _ h => .inl h) H.out hl1
            have HV1 := Lib.hid (show VolAt base l b g m c F1 x w1 from hv1)
            have HS1 := Lib.hid hs1
            have HF1 := Lib.hid hF1
            clear hl1 hv1 hs1 hF1 CG
            go_wp2_with fail
            refine (CL _ _ HV1.out).mono ?_
            rintro e w2 ⟨rfl, hB2⟩
            have HV2 := Lib.hid (HV1.out.below hB2)
            have HS2 := Lib.hid (HS1.out.and_below hB2)
            clear hB2 CL
            go_wp2_with fail
            refine (CU _).mono ?_
            rintro e w3 ⟨rfl, hB3⟩
            have HV3 := Lib.hid (HV2.out.below hB3)
            have HS3 := Lib.hid (HS2.out.and_below hB3)
            have d3 := VObj.c3 HV3.out.obj
            have CP := CI.put_any HV3.out.kept hv p
            have hpv : ∃ z, CI.putV 32 x.kept (n : Int) p = .tuple z := by
              unfold CI.putV
              cases CI.goneL 32 x.kept (n : Int) p <;> exact ⟨_, rfl⟩
            obtain ⟨z, hz⟩ := hpv
            rw [hz] at CP
            clear hB3 CU hz c3
            go_wp2_with fail
            refine CP.mono ?_
            rintro e w4 ⟨rfl, hl4⟩
            have HV4 := Lib.hid (VSt.step HS3.out HF1.out HV3.out hl4)
            clear hl4 CP
            go_wp2
            go_ret2
            exact ⟨by rw [HR2.out]; rfl, by rw [HR2.out]; exact HV4.out⟩
          · have HR2 := Lib.hid (show R = (82, none0, x) by rw [HRR.out, if_neg (by rw [hE]; simp), hu])
            rw [hu] at CU
            simp only at CU
            generalize bsL P.2 = Y at *
            clear HRR hu hlen hE
            go_enter Tryz.func5, Tryz.ntmps5
            go_wp2_with fail
            refine CH.mono ?_
            rintro e w' ⟨rfl, rfl⟩
            go_wp2_with fail
            refine CG.mono ?_
            rintro e w1 ⟨rfl, hl1⟩
            obtain ⟨F1, hv1, hs1, hF1⟩ := VSt.step (Stir.refl _ _) (fun _ h => .inl h) H.out hl1
            have HV1 := Lib.hid (show VolAt base l b g m c F1 x w1 from hv1)
            have HS1 := Lib.hid hs1
            have HF1 := Lib.hid hF1
            clear hl1 hv1 hs1 hF1 CG
            go_wp2_with fail
            refine (CL _ _ HV1.out).mono ?_
            rintro e w2 ⟨rfl, hB2⟩
            have HV2 := Lib.hid (HV1.out.below hB2)
            have HS2 := Lib.hid (HS1.out.and_below hB2)
            clear hB2 CL
            go_wp2_with fail
            refine (CU _).mono ?_
            rintro e w3 ⟨rfl, hB3⟩
            have HV3 := Lib.hid (HV2.out.below hB3)
            have HS3 := Lib.hid (HS2.out.and_below hB3)
            clear hB3 CU
            go_wp2
            go_ret2
            exact ⟨by rw [HR2.out]; rfl, by rw [HR2.out]; exact ⟨F1, HV3.out, HS3.out, HF1.out⟩⟩
        · have HR2 := Lib.hid (show R = (P.1, none0, { x with dead := P.1 == 2 }) by rw [HRR.out, if_pos hE])
          unfold loadedV at CL
          rw [if_neg hE] at CL
          have hEb : (P.1 != 0) = true := by simpa using hE
          generalize P.1 = E at *
          have CT := fun F' w (h : VolAt base l b g m c F' x w) => vnote_any h E
          clear HRR hlen hE
          go_enter Tryz.func5, Tryz.ntmps5
          go_wp2_with fail
          refine CH.mono ?_
          rintro e w' ⟨rfl, rfl⟩
          go_wp2_with fail
          refine CG.mono ?_
          rintro e w1 ⟨rfl, hl1⟩
          obtain ⟨F1, hv1, hs1, hF1⟩ := VSt.step (Stir.refl _ _) (fun _ h => .inl h) H.out hl1
          have HV1 := Lib.hid (show VolAt base l b g m c F1 x w1 from hv1)
          have HS1 := Lib.hid hs1
          have HF1 := Lib.hid hF1
          clear hl1 hv1 hs1 hF1 CG
          go_wp2_with fail
          refine (CL _ _ HV1.out).mono ?_
          rintro e w2 ⟨rfl, hB2⟩
          have HV2 := Lib.hid (HV1.out.below hB2)
          have HS2 := Lib.hid (HS1.out.and_below hB2)
          clear hB2 CL
          go_wp2_with fail
          refine (CT _ _ HV2.out).mono ?_
          rintro e w3 ⟨rfl, hv3, s3⟩
          have HV3 := Lib.hid hv3
          have HS3 := Lib.hid (HS2.out.trans s3 (fun i e => .inl (.inl e)))
          clear hv3 s3 CT
          go_wp2
          go_ret2
          exact ⟨by rw [HR2.out]; rfl, by rw [HR2.out]; exact ⟨F1, HV3.out, HS3.out, HF1.out⟩⟩
  · have h1' := Bool.eq_false_iff.2 h1
    rw [h1'] at CH
    have HR2 := Lib.hid (show R = (81, none0, x) by rw [← hR, VS.read, h1']; rfl)
    clear h hR h1 h1' HR
    go_enter Tryz.func5, Tryz.ntmps5
    go_wp2_with fail
    refine CH.mono ?_
    rintro e w' ⟨rfl, rfl⟩
    go_wp2
    go_ret2
    exact ⟨by rw [HR2.out]; rfl, by rw [HR2.out]; exact VSt.start H.out⟩
end
end Go.Proofs.YtknfakaklmpboaaGreatDoor

