/-
  A volume: Commit, Format.
-/
import Derived.Test.YtknfakaklmpboaaGreatDoorBlkE
import Derived.RegionTactic
import Derived.Deep.RegionLaw
namespace Go.Proofs.YtknfakaklmpboaaGreatDoor
open Go.RowKit Go Go.Maps SM

section
variable {base l b g m c : Nat} {F F' : Nat → Prop} {x : VS} {s : DS} {w0 w w' : World}
theorem VolAt.root (h : VolAt base l b g m c F x w) {n : Nat} {t : ByteArray} (hn : n ≤ 1099511627776) (ht : t.size ≤ 40) :
    VolAt base l b g m c F { x with num := n, text := t } ((w.setCell ⟨l, 1, none⟩ (.int .i64 n)).setCell ⟨l, 2, none⟩ (.string t)) ∧ Stir (· = l) w ((w.setCell ⟨l, 1, none⟩ (.int .i64 n)).setCell ⟨l, 2, none⟩ (.string t)) := by
  have hs : Stir (· = l) w ((w.setCell ⟨l, 1, none⟩ (.int .i64 n)).setCell ⟨l, 2, none⟩ (.string t)) := ((Stir.refl (· = l) w).set (.inl rfl) _).set (.inl rfl) _
  refine ⟨⟨?_, h.disk.stay hs (fun i hi e => h.l_disk (e ▸ hi)), h.kept.stay hs (fun k hk e => h.apart (e ▸ hk)), h.far, h.apart, ht, hn, h.big⟩, hs⟩
  have h1 : (w.setCell ⟨l, 1, none⟩ (.int .i64 n)).heap[l]? = some (VObj b n x.text c x.dead) := by rw [heap_set h.obj]; simp [VObj]
  rw [heap_set h1]
  simp [VObj]
/-- a number and a root are stored in a block of the call's own -/
theorem VolAt.numset {q n0 n : Nat} {t0 t : ByteArray} (h : VolAt base l b g m c F x w) (hq : ¬ VFoot l b g m F q) (ho : w.heap[q]? = some (numO n0 t0)) :
    VolAt base l b g m c F x ((w.setCell ⟨q, 0, none⟩ (.int .i64 n)).setCell ⟨q, 1, none⟩ (.string t)) ∧ ((w.setCell ⟨q, 0, none⟩ (.int .i64 n)).setCell ⟨q, 1, none⟩ (.string t)).heap[q]? = some (numO n t) ∧ Stir (· = q) w ((w.setCell ⟨q, 0, none⟩ (.int .i64 n)).setCell ⟨q, 1, none⟩ (.string t)) := by
  have hs : Stir (· = q) w ((w.setCell ⟨q, 0, none⟩ (.int .i64 n)).setCell ⟨q, 1, none⟩ (.string t)) := ((Stir.refl (· = q) w).set (.inl rfl) _).set (.inl rfl) _
  refine ⟨h.stay hs (fun i hi e => hq (e ▸ hi)), ?_, hs⟩
  have h1 : (w.setCell ⟨q, 0, none⟩ (.int .i64 n)).heap[q]? = some (numO n t0) := by rw [heap_set ho]; simp [numO]
  rw [heap_set h1]
  simp [numO]
set_option maxRecDepth 100000 in
set_option maxHeartbeats 4000000 in
theorem vcommit_any (h : VolAt base l b g m c F x w) (hm : x.disk.made < 900000000) (t : ByteArray) (ht : t.size ≤ 140737488355328) :
    Calls Tryz.prog 9 #[.pointer (some ⟨l, 0, none⟩), .string t] w fun e w' => e = .returned (.int .i64 (x.commit t).1) ∧ VolAt base l b g m c F (x.commit t).2 w' ∧ Stir (VFoot l b g m F) w w' := by
  obtain ⟨R, hR⟩ : ∃ R, x.commit t = R := ⟨_, rfl⟩
  rw [hR]
  have H := Lib.hid h
  have c0 := VObj.c0 h.obj
  have c1 := VObj.c1 h.obj
  have c4 := VObj.c4 h.obj
  by_cases h1 : 40 < t.size
  · have HR2 := Lib.hid (show R = (83, x) by rw [← hR, VS.commit, if_pos h1])
    have h1i : (40 : Int) < (t.size : Int) := by omega
    clear h hR h1
    go_enter Tryz.func9, Tryz.ntmps9
    go_wp2
    go_ret
    exact ⟨by rw [HR2.out]; rfl, by rw [HR2.out]; exact H.out, Stir.refl _ _⟩
  · have h1i : ¬ (40 : Int) < (t.size : Int) := by omega
    cases hd : x.dead with
    | true =>
      have HR2 := Lib.hid (show R = (2, x) by rw [← hR, VS.commit, if_neg h1, hd]; rfl)
      rw [hd] at c4
      clear h hR h1 hd
      go_enter Tryz.func9, Tryz.ntmps9
      go_wp2
      go_ret
      exact ⟨by rw [HR2.out]; rfl, by rw [HR2.out]; exact H.out, Stir.refl _ _⟩
    | false =>
      rw [hd] at c4
      by_cases h2 : x.num = 1099511627776
      · have HR2 := Lib.hid (show R = (80, x) by rw [← hR, VS.commit, if_neg h1, hd, if_neg (by decide), if_pos h2])
        rw [h2] at c1
        have c1' : w.cell? ⟨l, 1, none⟩ = some (.int .i64 1099511627776) := c1
        clear h hR h1 hd h2 c1
        go_enter Tryz.func9, Tryz.ntmps9
        go_wp2
        go_ret
        exact ⟨by rw [HR2.out]; rfl, by rw [HR2.out]; exact H.out, Stir.refl _ _⟩
      · have hle := h.nle
        have h2b : ((x.num : Int) == 1099511627776) = false := beq_eq_false_iff_ne.2 (by omega)
        have CY := sync_any h.disk (by omega)
        have hms := made_sync' x.disk
        have hlens := len_sync x.disk
        have HRR := Lib.hid (show R = if x.disk.syncE ≠ 0 then (x.disk.syncE, { x with disk := x.disk.sync, dead := x.disk.syncE == 2 }) else
            if (rootPut t (x.num + 1) x.disk.sync).1 ≠ 0 then ((rootPut t (x.num + 1) x.disk.sync).1, { x with disk := (rootPut t (x.num + 1) x.disk.sync).2, dead := (rootPut t (x.num + 1) x.disk.sync).1 == 2 })
            else (0, { x with disk := (rootPut t (x.num + 1) x.disk.sync).2, text := t, num := x.num + 1 }) by
          rw [← hR, VS.commit, if_neg h1, hd, if_neg (by decide), if_neg h2])
        by_cases hE : x.disk.syncE = 0
        · rw [hE] at CY
          have hlp := len_rootPut t (x.num + 1) x.disk.sync
          obtain ⟨P, hP⟩ : ∃ P, rootPut t (x.num + 1) x.disk.sync = P := ⟨_, rfl⟩
          have CL := fun w (h : DiskAt b g m x.disk.sync w) => lay_any (n := x.num + 1) (t := t) h (by omega) (by omega) (by omega)
          rw [hP] at CL hlp
          have HRR2 := Lib.hid (show R = if P.1 ≠ 0 then (P.1, { x with disk := P.2, dead := P.1 == 2 }) else (0, { x with disk := P.2, text := t, num := x.num + 1 }) by
            rw [HRR.out, if_neg (by rw [hE]; simp), hP])
          have HL := Lib.hid (show P.2.stay.length = x.disk.sync.stay.length from hlp.1)
          have HLs := Lib.hid hlens
          have CC := fun w => clone_any t (by omega) w
          have hw64 : IntKind.i64.wrap ((x.num : Int) + 1) = ((x.num + 1 : Nat) : Int) := by rw [IntWalk.i64_in _ (by omega)]; omega
          have HNle := Lib.hid (show x.num + 1 ≤ 1099511627776 by omega)
          have HT := Lib.hid (show t.size ≤ 40 by omega)
          obtain ⟨N, hN⟩ : ∃ N, x.num + 1 = N := ⟨_, rfl⟩
          rw [hN] at CL HRR2 hw64 HNle
          unfold numV at CL
          clear h hR h1 hd h2 HRR hE hms hlens hlp hP ht hm hN
          go_enter Tryz.func9, Tryz.ntmps9
          go_wp2_with fail
          refine CY.mono ?_
          rintro e w1 ⟨rfl, h1', s1⟩
          have HV1 := Lib.hid (H.out.turn h1' s1 HLs.out)
          have S1 := Lib.hid (Stir.weaken (G := VFoot l b g m F) s1 (fun k e => .inr (.inl e)))
          clear h1' s1 CY c0 c1 c4
          generalize hx1 : ({ x with disk := x.disk.sync } : VS) = x1 at HV1
          go_upto_region 10 with fail
          go_cut [6] from 31 to 39 (fun p wx => ∃ q, p = .pointer (some ⟨q, 0, none⟩) ∧ Hid (VolAt base l b g m c F x1 wx) ∧ Hid (wx.heap[q]? = some (numO N t) ∧ w.heap.size ≤ q) ∧ Hid (Stir (VFoot l b g m F) w wx))
          case first =>
            have HV1d := Lib.hid (HV1.out.below ((Below.refl _ w1).drew))
            have S1d := Lib.hid (S1.out.and_below ((Below.refl _ w1).drew))
            have d1d : w1.drew.cell? ⟨l, 1, none⟩ = some (.int .i64 x.num) := by have := VObj.c1 HV1d.out.obj; rw [← hx1] at this; exact this
            obtain ⟨wA, hwA⟩ : ∃ wA, (w1.alloc (.cells #[.int .i64 0, .string ⟨#[]⟩] 65)).drew = wA := ⟨_, rfl⟩
            have hBA : Below w1.heap.size w1 wA := by rw [← hwA]; exact ((Below.refl _ w1).alloc (Nat.le_refl _) _).drew
            have HVA := Lib.hid (HV1.out.below hBA)
            have SA := Lib.hid (S1.out.and_below hBA)
            have HOA := Lib.hid (show wA.heap[w1.heap.size]? = some (numO 0 ⟨#[]⟩) by rw [← hwA]; exact heap_alloc_new _ _)
            have hA1 : wA.cell? ⟨l, 1, none⟩ = some (.int .i64 x.num) := by have := VObj.c1 HVA.out.obj; rw [← hx1] at this; exact this
            have HQ1 := Lib.hid (show w.heap.size ≤ w1.heap.size from S1.out.size)
            have HN1 := Lib.hid (show ¬ VFoot l b g m F w1.heap.size from fun hf => Nat.lt_irrefl _ (HV1.out.lt hf))
            clear hBA
            go_region_held3 (fun w' => w'.cell? ⟨l, 1, none⟩ = some (.int .i64 (x.num : Int)))
              (first | exact d1d | exact hA1 | exact e1 | (rw [← hx1] at HV3; exact VObj.c1 (heap_alloc_old HV3.out.obj _)) | (rw [← hx1] at HV3; exact VObj.c1 (heap_set_other (heap_set_other (heap_alloc_old HV3.out.obj _) hne _) hne _)) | (rw [← hx1] at HV3; exact VObj.c1 (heap_set_other (heap_set_other HV3.out.obj hne1 _) hne1 _)) | (rw [hwA]; exact hA1))
              (first
                | (go_at_call 48; refine (CC _).mono ?_; rintro e w3 ⟨rfl, hB⟩
                   first
                   | (have HV3 := Lib.hid (HV1d.out.below hB); have S3 := Lib.hid (S1d.out.and_below hB); have e1 : w3.cell? ⟨l, 1, none⟩ = some (.int .i64 x.num) := (by have := VObj.c1 HV3.out.obj; rw [← hx1] at this; exact this); have hne : l ≠ w3.heap.size := Nat.ne_of_lt (lt_of_heap HV3.out.obj); clear hB)
                   | (have HV3 := Lib.hid (HVA.out.below hB); have S3 := Lib.hid (SA.out.and_below hB); have HO3 := Lib.hid (keeps_of hB HOA.out); have e1 : w3.cell? ⟨l, 1, none⟩ = some (.int .i64 x.num) := (by have := VObj.c1 HV3.out.obj; rw [← hx1] at this; exact this); have hne1 : l ≠ w1.heap.size := Nat.ne_of_lt (lt_of_heap HV1.out.obj); have q0 := numO.c0 HO3.out; have q1 := numO.c1 HO3.out; have qf := numO.fr HO3.out; clear hB)))
            · have hBn : Below w3.heap.size w3 (w3.alloc (numO N t)) := (Below.refl _ w3).alloc (Nat.le_refl _) _
              go_wp2_with fail
              go_meet
              exact ⟨_, rfl, Lib.hid (HV3.out.below hBn), Lib.hid ⟨heap_alloc_new _ _, S3.out.size⟩, Lib.hid (S3.out.and_below hBn)⟩
            · have hX := HV3.out.numset (n := N) (t := t) HN1.out HO3.out
              have hSt := S3.out.trans hX.2.2 (fun i e => .inr (by subst e; exact HQ1.out))
              go_wp2_with fail
              go_meet
              exact ⟨_, rfl, Lib.hid hX.1, Lib.hid ⟨hX.2.1, HQ1.out⟩, Lib.hid hSt⟩
          case rest =>
            obtain ⟨q, rfl, HV2, HO2, S2⟩ := hcut
            have HV2d := Lib.hid (HV2.out.below ((Below.refl _ wc).drew))
            have S2d := Lib.hid (S2.out.and_below ((Below.refl _ wc).drew))
            have HO2d := Lib.hid (show wc.drew.heap[q]? = some (numO N t) from HO2.out.1)
            have d0 := VObj.c0 HV2d.out.obj
            have e0 := numO.c0 HO2d.out
            have e1 := numO.c1 HO2d.out
            have CL := fun w (h : VolAt base l b g m c F x1 w) => CL w (by have := h.disk; rw [← hx1] at this; exact this)
            go_wp2
            go_region_held3 (fun w' => w'.cell? ⟨l, 0, none⟩ = some (.pointer (some ⟨b, 0, none⟩)) ∧ w'.cell? ⟨q, 0, none⟩ = some (.int .i64 (N : Int)) ∧ w'.cell? ⟨q, 1, none⟩ = some (.string t)) (first | exact ⟨d0, e0, e1⟩ | exact ⟨f0, f1, f2⟩)
              (first
                | (go_at_call 53; refine (CL _ HV2d.out).mono ?_; rintro e w4 ⟨rfl, h4, s4⟩; have HV4 := Lib.hid (HV2d.out.turn h4 s4 (by rw [← hx1]; exact HL.out)); have S4 := Lib.hid (S2d.out.trans s4 (fun i e => .inl (.inr (.inl e)))); have HO4 := Lib.hid (s4.keep HO2d.out (HV2d.out.disk.not_cells HO2d.out (by decide) (by decide))); have f0 := VObj.c0 HV4.out.obj; have f1 := numO.c0 HO4.out; have f2 := numO.c1 HO4.out; clear h4 s4))
            by_cases hE : P.1 = 0
            · have HR2 := Lib.hid (show R = (0, { x with disk := P.2, text := t, num := N }) by rw [HRR2.out, if_neg (by rw [hE]; simp)])
              rw [hE]
              have g1 := VObj.c1 HV4.out.obj
              have g2 := VObj.c2 HV4.out.obj
              have gf := VObj.fr HV4.out.obj
              obtain ⟨hV5, hS5⟩ := HV4.out.root HNle.out HT.out
              have HV5 := Lib.hid hV5
              have S5 := Lib.hid (S4.out.trans hS5 (fun i e => .inl (.inl e)))
              clear hE hV5 hS5 HRR2 CL CC d0 e0 e1 f0
              go_wp2
              go_ret
              exact ⟨by rw [HR2.out]; rfl, by rw [HR2.out]; have := HV5.out; rw [← hx1] at this; exact this, S5.out⟩
            · have HR2 := Lib.hid (show R = (P.1, { x with disk := P.2, dead := P.1 == 2 }) by rw [HRR2.out, if_pos hE])
              have hEb : (P.1 != 0) = true := by simpa using hE
              generalize P.1 = E at *
              have CT := vnote_any HV4.out E
              clear hE HRR2 CL CC d0 e0 e1 f0 f1 f2
              go_wp2_with fail
              refine CT.mono ?_
              rintro e w5 ⟨rfl, hv5, s5⟩
              have HV5 := Lib.hid hv5
              have S5 := Lib.hid (S4.out.trans s5 (fun i e => .inl (.inl e)))
              clear hv5 s5 CT
              go_wp2
              go_ret
              exact ⟨by rw [HR2.out]; rfl, by rw [HR2.out]; have := HV5.out; rw [← hx1] at this; exact this, S5.out⟩
        · have HR2 := Lib.hid (show R = (x.disk.syncE, { x with disk := x.disk.sync, dead := x.disk.syncE == 2 }) by rw [HRR.out, if_pos hE])
          have hEb : (x.disk.syncE != 0) = true := by simpa using hE
          have HLs := Lib.hid hlens
          generalize x.disk.syncE = E at *
          have CT := fun w (h : VolAt base l b g m c F { x with disk := x.disk.sync } w) => vnote_any h E
          clear h hR h1 hd h2 HRR hE hms hlens
          go_enter Tryz.func9, Tryz.ntmps9
          go_wp2_with fail
          refine CY.mono ?_
          rintro e w1 ⟨rfl, h1', s1⟩
          have HV1 := Lib.hid (H.out.turn h1' s1 HLs.out)
          have S1 := Lib.hid (Stir.weaken (G := VFoot l b g m F) s1 (fun k e => .inr (.inl e)))
          clear h1' s1 CY c0 c1 c4
          go_wp2_with fail
          refine (CT _ HV1.out).mono ?_
          rintro e w2 ⟨rfl, hv2, s2⟩
          have HV2 := Lib.hid hv2
          have S2 := Lib.hid (S1.out.trans s2 (fun i e => .inl (.inl e)))
          clear hv2 s2 CT
          go_wp2
          go_ret
          exact ⟨by rw [HR2.out]; rfl, by rw [HR2.out]; exact HV2.out, S2.out⟩
end
end Go.Proofs.YtknfakaklmpboaaGreatDoor

