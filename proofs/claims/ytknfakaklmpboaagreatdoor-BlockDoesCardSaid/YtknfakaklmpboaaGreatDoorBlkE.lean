/-
  A volume: Write.
-/
import Derived.Test.YtknfakaklmpboaaGreatDoorBlkD
namespace Go.Proofs.YtknfakaklmpboaaGreatDoor
open Go.RowKit Go Go.Maps SM

section
variable {base l b g m c : Nat} {F F' : Nat → Prop} {x : VS} {w0 w w' : World}
theorem len_storeV (s : DS) (n : Nat) (p : ByteArray) : (storeV s n p).2.stay.length = s.stay.length ∧ (storeV s n p).2.made ≤ s.made + 4 := len_puts 4 0 s
set_option maxRecDepth 100000 in
set_option maxHeartbeats 4000000 in
theorem vwrite_any (h : VolAt base l b g m c F x w) (hm : x.disk.made < 900000000) (v : Int) (hv : I64 v) (p : ByteArray) (hp : p.size ≤ 140737488355328) :
    Calls Tryz.prog 7 #[.pointer (some ⟨l, 0, none⟩), .int .i64 v, .string p] w fun e w' => e = .returned (.int .i64 (x.write v p).1) ∧ VSt base l b g m c F w (x.write v p).2 w' := by
  obtain ⟨R, hR⟩ : ∃ R, x.write v p = R := ⟨_, rfl⟩
  rw [hR]
  have H := Lib.hid h
  have CH := vhas_any h v
  have c3 := VObj.c3 h.obj
  have c4 := VObj.c4 h.obj
  by_cases h1 : x.has v = true
  · rw [h1] at CH
    have hr := has_is.1 h1
    have hb := big_is h.big
    have CF := fun w => frame_any p hp w
    by_cases h2 : 240 < p.size
    · have HR2 := Lib.hid (show R = (83, x) by rw [← hR, VS.write, h1, if_neg (by decide), if_pos h2])
      unfold frameV at CF
      rw [if_pos h2] at CF
      clear h hR hb hr h2
      go_enter Tryz.func7, Tryz.ntmps7
      go_wp2_with fail
      refine CH.mono ?_
      rintro e w' ⟨rfl, rfl⟩
      go_wp2_with fail
      refine (CF _).mono ?_
      rintro e w1 ⟨rfl, hB1⟩
      have HV1 := Lib.hid ((VSt.start H.out).below hB1)
      clear hB1 CF
      go_wp2
      go_ret
      exact ⟨by rw [HR2.out]; rfl, by rw [HR2.out]; exact HV1.out⟩
    · unfold frameV at CF
      rw [if_neg h2] at CF
      cases hd : x.dead with
      | true =>
        have HR2 := Lib.hid (show R = (2, x) by rw [← hR, VS.write, h1, if_neg (by decide), if_neg h2, hd]; rfl)
        rw [hd] at c4
        have HD := Lib.hid hd
        generalize frameB p = Y at *
        clear h hR hb hr h2 hd c4
        go_enter Tryz.func7, Tryz.ntmps7
        go_wp2_with fail
        refine CH.mono ?_
        rintro e w' ⟨rfl, rfl⟩
        go_wp2_with fail
        refine (CF _).mono ?_
        rintro e w1 ⟨rfl, hB1⟩
        have HV1 := Lib.hid (H.out.below hB1)
        have S1 := Lib.hid (Stir.of_below (F := VFoot l b g m F) hB1)
        have d4 := VObj.c4 HV1.out.obj
        rw [HD.out] at d4
        clear hB1 CF
        go_wp2
        go_ret
        exact ⟨by rw [HR2.out]; rfl, by rw [HR2.out]; exact ⟨F, HV1.out, S1.out, fun _ h => .inl h⟩⟩
      | false =>
        have HD := Lib.hid hd
        obtain ⟨n, rfl⟩ : ∃ n : Nat, v = (n : Int) := ⟨v.toNat, by omega⟩
        have hn : n ≤ 1048576 := by omega
        have hyl : (frameB p).data.toList = frameL p.data.toList := ofB_list _
        have hys := size_frameB (p := p) (by omega)
        have CS := fun w (h : VolAt base l b g m c F x w) => vstore_any h (by omega) n hn (frameB p) hys
        rw [hyl] at CS
        obtain ⟨P, hP⟩ : ∃ P, storeV x.disk n p = P := ⟨_, rfl⟩
        rw [show puts (4 * n) (frameL p.data.toList) 4 0 x.disk = P from hP] at CS
        have HRR := Lib.hid (show R = if P.1 ≠ 0 then (P.1, { x with disk := P.2, kept := CI.dropL x.kept (n : Int), dead := P.1 == 2 }) else (0, { x with disk := P.2, kept := CI.putL 32 x.kept (n : Int) p }) by
          rw [← hR, VS.write, h1, if_neg (by decide), if_neg h2, hd]
          simp only [Int.toNat_natCast, hP]
          rfl)
        have CC := fun w => clone_any p (by omega) w
        generalize frameB p = Y at *
        clear h hR hb hr h2 hd c4 c3 hP hyl hys
        by_cases hE : P.1 = 0
        · have HR2 := Lib.hid (show R = (0, { x with disk := P.2, kept := CI.putL 32 x.kept (n : Int) p }) by rw [HRR.out, if_neg (by rw [hE]; simp)])
          rw [hE] at CS
          have hpv : ∃ z, CI.putV 32 x.kept (n : Int) p = .tuple z := by
            unfold CI.putV
            cases CI.goneL 32 x.kept (n : Int) p <;> exact ⟨_, rfl⟩
          obtain ⟨z, hz⟩ := hpv
          have CP := fun w (h : VolAt base l b g m c F { x with disk := P.2 } w) => CI.put_any h.kept hv p
          simp only at CP
          rw [hz] at CP
          clear HRR hE hz
          go_enter Tryz.func7, Tryz.ntmps7
          go_wp2_with fail
          refine CH.mono ?_
          rintro e w' ⟨rfl, rfl⟩
          go_wp2_with fail
          refine (CF _).mono ?_
          rintro e w1 ⟨rfl, hB1⟩
          have HV1 := Lib.hid (H.out.below hB1)
          have S1 := Lib.hid (Stir.of_below (F := VFoot l b g m F) hB1)
          have d4 := VObj.c4 HV1.out.obj
          rw [HD.out] at d4
          clear hB1 CF
          go_wp2_with fail
          refine (CS _ HV1.out).mono ?_
          rintro e w2 ⟨rfl, hv2, s2⟩
          have HV2 := Lib.hid (hv2.below ((Below.refl _ w2).drew))
          have S2 := Lib.hid ((S1.out.trans s2 (fun i e => .inl (.inr (.inl e)))).and_below ((Below.refl _ w2).drew))
          have d3 := VObj.c3 HV2.out.obj
          clear hv2 s2 CS d4
          go_wp2
          go_region_held3 (fun w' => w'.cell? ⟨l, 3, none⟩ = some (.pointer (some ⟨c, 0, none⟩))) (first | exact d3 | exact e3 | exact f3)
            (first
              | (go_at_call 48; refine (CC _).mono ?_; rintro e w3 ⟨rfl, hB⟩; have HV3 := Lib.hid (HV2.out.below hB); have S3 := Lib.hid (S2.out.and_below hB); have e3 := VObj.c3 HV3.out.obj; clear hB)
              | (go_at_call 38; refine (CP _ HV3.out).mono ?_; rintro e w4 ⟨rfl, hl4⟩; obtain ⟨F4, hv4, s4, hF4⟩ := VSt.step S3.out (fun _ h => .inl h) HV3.out hl4; have HV4 := Lib.hid hv4; have S4 := Lib.hid s4; have HF4 := Lib.hid hF4; have f3 := VObj.c3 HV4.out.obj; clear hl4 hv4 s4 hF4))
          all_goals (
            go_wp2
            go_ret
            exact ⟨by rw [HR2.out]; rfl, by rw [HR2.out]; exact ⟨F4, HV4.out, S4.out, HF4.out⟩⟩)
        · have HR2 := Lib.hid (show R = (P.1, { x with disk := P.2, kept := CI.dropL x.kept (n : Int), dead := P.1 == 2 }) by rw [HRR.out, if_pos hE])
          have hEb : (P.1 != 0) = true := by simpa using hE
          have CD := fun w (h : VolAt base l b g m c F { x with disk := P.2 } w) => CI.drop_any h.kept hv
          have CT := fun F' w (h : VolAt base l b g m c F' { x with disk := P.2, kept := CI.dropL x.kept (n : Int) } w) => vnote_any h P.1
          simp only at CD
          obtain ⟨Q, hQ⟩ : ∃ Q, (CI.getL x.kept (n : Int)).isSome = Q := ⟨_, rfl⟩
          rw [hQ] at CD
          generalize P.1 = E at *
          clear HRR hE hQ
          go_enter Tryz.func7, Tryz.ntmps7
          go_wp2_with fail
          refine CH.mono ?_
          rintro e w' ⟨rfl, rfl⟩
          go_wp2_with fail
          refine (CF _).mono ?_
          rintro e w1 ⟨rfl, hB1⟩
          have HV1 := Lib.hid (H.out.below hB1)
          have S1 := Lib.hid (Stir.of_below (F := VFoot l b g m F) hB1)
          have d4 := VObj.c4 HV1.out.obj
          rw [HD.out] at d4
          clear hB1 CF
          go_wp2_with fail
          refine (CS _ HV1.out).mono ?_
          rintro e w2 ⟨rfl, hv2, s2⟩
          have HV2 := Lib.hid hv2
          have S2 := Lib.hid (S1.out.trans s2 (fun i e => .inl (.inr (.inl e))))
          have d3 := VObj.c3 HV2.out.obj
          clear hv2 s2 CS d4
          go_wp2_with fail
          refine (CD _ HV2.out).mono ?_
          rintro e w3 ⟨rfl, hl3⟩
          obtain ⟨F3, hv3, s3, hF3⟩ := VSt.step S2.out (fun _ h => .inl h) HV2.out hl3
          have HV3 := Lib.hid hv3
          have S3 := Lib.hid s3
          have HF3 := Lib.hid hF3
          clear hl3 hv3 s3 hF3 CD d3
          go_wp2_with fail
          refine (CT _ _ HV3.out).mono ?_
          rintro e w4 ⟨rfl, hv4, s4⟩
          have HV4 := Lib.hid hv4
          have S4 := Lib.hid (S3.out.trans s4 (fun i e => .inl (.inl e)))
          clear hv4 s4 CT
          go_wp2
          go_ret
          exact ⟨by rw [HR2.out]; rfl, by rw [HR2.out]; exact ⟨F3, HV4.out, S4.out, HF3.out⟩⟩
  · have h1' := Bool.eq_false_iff.2 h1
    rw [h1'] at CH
    have HR2 := Lib.hid (show R = (81, x) by rw [← hR, VS.write, h1', if_pos rfl])
    clear h hR h1 h1'
    go_enter Tryz.func7, Tryz.ntmps7
    go_wp2_with fail
    refine CH.mono ?_
    rintro e w' ⟨rfl, rfl⟩
    go_wp2
    go_ret
    exact ⟨by rw [HR2.out]; rfl, by rw [HR2.out]; exact VSt.start H.out⟩
end
end Go.Proofs.YtknfakaklmpboaaGreatDoor

