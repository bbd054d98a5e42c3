/-
  BlkE / BlkF / BlkG / BlkH / BlkI.
-/
import Derived.Test.YtmloljjllmmkoaaGreatBA
import Derived.RegionTactic
import Derived.Deep.RegionLaw
namespace Go.Proofs.YtmloljjllmmkoaaGreat
open Go.RowKit Go Go.Maps SM

section
variable {base l b g m c : Nat} {F F' : Nat → Prop} {x : VS} {w0 w w' : World}
theorem len_storeV (s : DS) (n : Nat) (p : ByteArray) : (storeV s n p).2.stay.length = s.stay.length ∧ (storeV s n p).2.made ≤ s.made + 4 := len_puts 4 0 s
set_option maxRecDepth 100000 in
set_option maxHeartbeats 4000000 in
theorem vwrite_any (h : VolAt base l b g m c F x w) (hm : x.disk.made < 900000000) (v : Int) (hv : I64 v) (p : ByteArray) (hp : p.size ≤ 140737488355328) :
    Calls Tryz.prog 5 #[.pointer (some ⟨l, 0, none⟩), .int .i64 v, .string p] w fun e w' => e = .returned (.int .i64 (x.write v p).1) ∧ VSt base l b g m c F w (x.write v p).2 w' := by
  obtain ⟨R, hR⟩ : ∃ R, x.write v p = R := ⟨_, rfl⟩
  rw [hR]
  have H := Lib.hid h
  have CH := vhas_any h v
  have c3 := VObj.c3 h.obj
  have c4 := VObj.c4 h.obj
  by_cases h1 : x.has v = true
  · rw [h1] at CH
    have hr := has_is.1 h1
    have hb := big_is h.big
    have CF := fun w => frame_any p hp w
    by_cases h2 : 240 < p.size
    · have HR2 := Lib.hid (show R = (83, x) by rw [← hR, VS.write, h1, if_neg (by decide), if_pos h2])
      unfold frameV at CF
      rw [if_pos h2] at CF
      clear h hR hb hr h2
      go_enter Tryz.func5, Tryz.ntmps5
      go_wp2_with fail
      refine CH.mono ?_
      rintro e w' ⟨rfl, rfl⟩
      go_wp2_with fail
      refine (CF _).mono ?_
      rintro e w1 ⟨rfl, hB1⟩
      have HV1 := Lib.hid ((VSt.start H.out).below hB1)
      clear hB1 CF
      go_wp2
      go_ret
      exact ⟨by rw [HR2.out]; rfl, by rw [HR2.out]; exact HV1.out⟩
    · unfold frameV at CF
      rw [if_neg h2] at CF
      cases hd : x.dead with
      | true =>
        have HR2 := Lib.hid (show R = (2, x) by rw [← hR, VS.write, h1, if_neg (by decide), if_neg h2, hd]; rfl)
        rw [hd] at c4
        have HD := Lib.hid hd
        generalize frameB p = Y at *
        clear h hR hb hr h2 hd c4
        go_enter Tryz.func5, Tryz.ntmps5
        go_wp2_with fail
        refine CH.mono ?_
        rintro e w' ⟨rfl, rfl⟩
        go_wp2_with fail
        refine (CF _).mono ?_
        rintro e w1 ⟨rfl, hB1⟩
        have HV1 := Lib.hid (H.out.below hB1)
        have S1 := Lib.hid (Stir.of_below (F := VFoot l b g m F) hB1)
        have d4 := VObj.c4 HV1.out.obj
        rw [HD.out] at d4
        clear hB1 CF
        go_wp2
        go_ret
        exact ⟨by rw [HR2.out]; rfl, by rw [HR2.out]; exact ⟨F, HV1.out, S1.out, fun _ h => .inl h⟩⟩
      | false =>
        have HD := Lib.hid hd
        obtain ⟨n, rfl⟩ : ∃ n : Nat, v = (n : Int) := ⟨v.toNat, by omega⟩
        have hn : n ≤ 1048576 := by omega
        have hyl : (frameB p).data.toList = frameL p.data.toList := ofB_list _
        have hys := size_frameB (p := p) (by omega)
        have CS := fun w (h : VolAt base l b g m c F x w) => vstore_any h (by omega) n hn (frameB p) hys
        rw [hyl] at CS
        obtain ⟨P, hP⟩ : ∃ P, storeV x.disk n p = P := ⟨_, rfl⟩
        rw [show puts (4 * n) (frameL p.data.toList) 4 0 x.disk = P from hP] at CS
        have HRR := Lib.hid (show R = if P.1 ≠ 0 then (P.1, { x with disk := P.2, kept := CI.dropL x.kept (n : Int), dead := P.1 == 2 }) else (0, { x with disk := P.2, kept := CI.putL 32 x.kept (n : Int) p }) by
          rw [← hR, VS.write, h1, if_neg (by decide), if_neg h2, hd]
          simp only [Int.toNat_natCast, hP]
          rfl)
        have CC := fun w => clone_any p (by omega) w
        generalize frameB p = Y at *
        clear h hR hb hr h2 hd c4 c3 hP hyl hys
        by_cases hE : P.1 = 0
        · have HR2 := Lib.hid (show R = (0, { x with disk := P.2, kept := CI.putL 32 x.kept (n : Int) p }) by rw [HRR.out, if_neg (by rw [hE]; simp)])
          rw [hE] at CS
          have hpv : ∃ z, CI.putV 32 x.kept (n : Int) p = .tuple z := by
            unfold CI.putV
            cases CI.goneL 32 x.kept (n : Int) p <;> exact ⟨_, rfl⟩
          obtain ⟨z, hz⟩ := hpv
          have CP := fun w (h : VolAt base l b g m c F { x with disk := P.2 } w) => CI.put_any h.kept hv p
          simp only at CP
          rw [hz] at CP
          clear HRR hE hz
          go_enter Tryz.func5, Tryz.ntmps5
          go_wp2_with fail
          refine CH.mono ?_
          rintro e w' ⟨rfl, rfl⟩
          go_wp2_with fail
          refine (CF _).mono ?_
          rintro e w1 ⟨rfl, hB1⟩
          have HV1 := Lib.hid (H.out.below hB1)
          have S1 := Lib.hid (Stir.of_below (F := VFoot l b g m F) hB1)
          have d4 := VObj.c4 HV1.out.obj
          rw [HD.out] at d4
          clear hB1 CF
          go_wp2_with fail
          refine (CS _ HV1.out).mono ?_
          rintro e w2 ⟨rfl, hv2, s2⟩
          have HV2 := Lib.hid (hv2.below ((Below.refl _ w2).drew))
          have S2 := Lib.hid ((S1.out.trans s2 (fun i e => .inl (.inr (.inl e)))).and_below ((Below.refl _ w2).drew))
          have d3 := VObj.c3 HV2.out.obj
          clear hv2 s2 CS d4
          go_wp2
          go_region_held3 (fun w' => w'.cell? ⟨l, 3, none⟩ = some (.pointer (some ⟨c, 0, none⟩))) (first | exact d3 | exact e3 | exact f3)
            (first
              | (go_at_call 23; refine (CC _).mono ?_; rintro e w3 ⟨rfl, hB⟩; have HV3 := Lib.hid (HV2.out.below hB); have S3 := Lib.hid (S2.out.and_below hB); have e3 := VObj.c3 HV3.out.obj; clear hB)
              | (go_at_call 22; refine (CP _ HV3.out).mono ?_; rintro e w4 ⟨rfl, hl4⟩; obtain ⟨F4, hv4, s4, hF4⟩ := VSt.step S3.out (fun _ h => .inl h) HV3.out hl4; have HV4 := Lib.hid hv4; have S4 := Lib.hid s4; have HF4 := Lib.hid hF4; have f3 := VObj.c3 HV4.out.obj; clear hl4 hv4 s4 hF4))
          all_goals (
            go_wp2
            go_ret
            exact ⟨by rw [HR2.out]; rfl, by rw [HR2.out]; exact ⟨F4, HV4.out, S4.out, HF4.out⟩⟩)
        · have HR2 := Lib.hid (show R = (P.1, { x with disk := P.2, kept := CI.dropL x.kept (n : Int), dead := P.1 == 2 }) by rw [HRR.out, if_pos hE])
          have hEb : (P.1 != 0) = true := by simpa using hE
          have CD := fun w (h : VolAt base l b g m c F { x with disk := P.2 } w) => CI.drop_any h.kept hv
          have CT := fun F' w (h : VolAt base l b g m c F' { x with disk := P.2, kept := CI.dropL x.kept (n : Int) } w) => vnote_any h P.1
          simp only at CD
          obtain ⟨Q, hQ⟩ : ∃ Q, (CI.getL x.kept (n : Int)).isSome = Q := ⟨_, rfl⟩
          rw [hQ] at CD
          generalize P.1 = E at *
          clear HRR hE hQ
          go_enter Tryz.func5, Tryz.ntmps5
          go_wp2_with fail
          refine CH.mono ?_
          rintro e w' ⟨rfl, rfl⟩
          go_wp2_with fail
          refine (CF _).mono ?_
          rintro e w1 ⟨rfl, hB1⟩
          have HV1 := Lib.hid (H.out.below hB1)
          have S1 := Lib.hid (Stir.of_below (F := VFoot l b g m F) hB1)
          have d4 := VObj.c4 HV1.out.obj
          rw [HD.out] at d4
          clear hB1 CF
          go_wp2_with fail
          refine (CS _ HV1.out).mono ?_
          rintro e w2 ⟨rfl, hv2, s2⟩
          have HV2 := Lib.hid hv2
          have S2 := Lib.hid (S1.out.trans s2 (fun i e => .inl (.inr (.inl e))))
          have d3 := VObj.c3 HV2.out.obj
          clear hv2 s2 CS d4
          go_wp2_with fail
          refine (CD _ HV2.out).mono ?_
          rintro e w3 ⟨rfl, hl3⟩
          obtain ⟨F3, hv3, s3, hF3⟩ := VSt.step S2.out (fun _ h => .inl h) HV2.out hl3
          have HV3 := Lib.hid hv3
          have S3 := Lib.hid s3
          have HF3 := Lib.hid hF3
          clear hl3 hv3 s3 hF3 CD d3
          go_wp2_with fail
          refine (CT _ _ HV3.out).mono ?_
          rintro e w4 ⟨rfl, hv4, s4⟩
          have HV4 := Lib.hid hv4
          have S4 := Lib.hid (S3.out.trans s4 (fun i e => .inl (.inl e)))
          clear hv4 s4 CT
          go_wp2
          go_ret
          exact ⟨by rw [HR2.out]; rfl, by rw [HR2.out]; exact ⟨F3, HV4.out, S4.out, HF3.out⟩⟩
  · have h1' := Bool.eq_false_iff.2 h1
    rw [h1'] at CH
    have HR2 := Lib.hid (show R = (81, x) by rw [← hR, VS.write, h1', if_pos rfl])
    clear h hR h1 h1'
    go_enter Tryz.func5, Tryz.ntmps5
    go_wp2_with fail
    refine CH.mono ?_
    rintro e w' ⟨rfl, rfl⟩
    go_wp2
    go_ret
    exact ⟨by rw [HR2.out]; rfl, by rw [HR2.out]; exact VSt.start H.out⟩
end
end Go.Proofs.YtmloljjllmmkoaaGreat

namespace Go.Proofs.YtmloljjllmmkoaaGreat
open Go.RowKit Go Go.Maps SM

section
variable {base l b g m c : Nat} {F F' : Nat → Prop} {x : VS} {s : DS} {w0 w w' : World}
theorem VolAt.root (h : VolAt base l b g m c F x w) {n : Nat} {t : ByteArray} (hn : n ≤ 1099511627776) (ht : t.size ≤ 40) :
    VolAt base l b g m c F { x with num := n, text := t } ((w.setCell ⟨l, 1, none⟩ (.int .i64 n)).setCell ⟨l, 2, none⟩ (.string t)) ∧ Stir (· = l) w ((w.setCell ⟨l, 1, none⟩ (.int .i64 n)).setCell ⟨l, 2, none⟩ (.string t)) := by
  have hs : Stir (· = l) w ((w.setCell ⟨l, 1, none⟩ (.int .i64 n)).setCell ⟨l, 2, none⟩ (.string t)) := ((Stir.refl (· = l) w).set (.inl rfl) _).set (.inl rfl) _
  refine ⟨⟨?_, h.disk.stay hs (fun i hi e => h.l_disk (e ▸ hi)), h.kept.stay hs (fun k hk e => h.apart (e ▸ hk)), h.far, h.apart, ht, hn, h.big⟩, hs⟩
  have h1 : (w.setCell ⟨l, 1, none⟩ (.int .i64 n)).heap[l]? = some (VObj b n x.text c x.dead) := by rw [heap_set h.obj]; simp [VObj]
  rw [heap_set h1]
  simp [VObj]
/-- a number and a root are stored in a block of the call's own -/
theorem VolAt.numset {q n0 n : Nat} {t0 t : ByteArray} (h : VolAt base l b g m c F x w) (hq : ¬ VFoot l b g m F q) (ho : w.heap[q]? = some (numO n0 t0)) :
    VolAt base l b g m c F x ((w.setCell ⟨q, 0, none⟩ (.int .i64 n)).setCell ⟨q, 1, none⟩ (.string t)) ∧ ((w.setCell ⟨q, 0, none⟩ (.int .i64 n)).setCell ⟨q, 1, none⟩ (.string t)).heap[q]? = some (numO n t) ∧ Stir (· = q) w ((w.setCell ⟨q, 0, none⟩ (.int .i64 n)).setCell ⟨q, 1, none⟩ (.string t)) := by
  have hs : Stir (· = q) w ((w.setCell ⟨q, 0, none⟩ (.int .i64 n)).setCell ⟨q, 1, none⟩ (.string t)) := ((Stir.refl (· = q) w).set (.inl rfl) _).set (.inl rfl) _
  refine ⟨h.stay hs (fun i hi e => hq (e ▸ hi)), ?_, hs⟩
  have h1 : (w.setCell ⟨q, 0, none⟩ (.int .i64 n)).heap[q]? = some (numO n t0) := by rw [heap_set ho]; simp [numO]
  rw [heap_set h1]
  simp [numO]
end
end Go.Proofs.YtmloljjllmmkoaaGreat

namespace Go.Proofs.YtmloljjllmmkoaaGreat
open Go.RowKit Go Go.Maps SM

section
variable {base l b g m c : Nat} {F F' : Nat → Prop} {x : VS} {s : DS} {w0 w w' : World}
theorem len_vformD (s : DS) (t : ByteArray) : (vformD s t).stay.length = s.stay.length ∧ (vformD s t).made ≤ s.made + 3 := by
  have h1 := len_write s 0 (zeros 64)
  have h2 := made_write' s 0 (zeros 64)
  have h3 := len_rootPut t 1 (s.write 0 (zeros 64))
  unfold vformD
  split
  · omega
  · split
    · omega
    · split
      · omega
      · omega
/-- a new volume, or none -/
def VNew (B b g m : Nat) (p : Option Addr) (E : Int) (x : VS) (w' : World) : Prop := (E = 0 ∧ ∃ l c F, p = some ⟨l, 0, none⟩ ∧ B ≤ l ∧ VolAt B l b g m c F x w') ∨ (E ≠ 0 ∧ p = none)
set_option maxRecDepth 100000 in
set_option maxHeartbeats 4000000 in
theorem vformat_any (h : DiskAt b g m s w) (hm : s.made < 900000000) (t : ByteArray) (ht : t.size ≤ 140737488355328) :
    Calls Tryz.prog 15 #[.pointer (some ⟨b, 0, none⟩), .string t] w fun e w' => ∃ p, e = .returned (.tuple #[.pointer p, .int .i64 (vformE s t)]) ∧ VNew w.heap.size b g m p (vformE s t) (vformX s t) w' ∧ DiskAt b g m (vformD s t) w' ∧ Stir (Foot b g m) w w' := by
  have CH := holds_any h
  have H := Lib.hid h
  obtain ⟨E, hE⟩ : ∃ E, vformE s t = E := ⟨_, rfl⟩
  obtain ⟨D, hD⟩ : ∃ D, vformD s t = D := ⟨_, rfl⟩
  rw [hE, hD]
  have HX := Lib.hid (show vformX s t = ⟨D, t, 1, [], false⟩ by rw [vformX, hD])
  cases hb : badV s with
  | true =>
    obtain rfl : 80 = E := by rw [← hE, vformE, hb]; rfl
    obtain rfl : s = D := by rw [← hD, vformD, hb]; rfl
    rw [hb] at CH
    clear h hE hD hb
    go_enter Tryz.func15, Tryz.ntmps15
    go_wp2_with fail
    refine CH.mono ?_
    rintro e w' ⟨rfl, rfl⟩
    go_wp2
    go_ret2
    exact ⟨_, rfl, .inr ⟨by decide, rfl⟩, H.out, Stir.refl _ _⟩
  | false =>
    rw [hb] at CH
    by_cases h2 : 40 < t.size
    · obtain rfl : 83 = E := by rw [← hE, vformE, hb, if_neg (by decide), if_pos h2]
      obtain rfl : s = D := by rw [← hD, vformD, hb, if_neg (by decide), if_pos h2]
      have h2i : (40 : Int) < (t.size : Int) := by omega
      clear h hE hD hb h2
      go_enter Tryz.func15, Tryz.ntmps15
      go_wp2_with fail
      refine CH.mono ?_
      rintro e w' ⟨rfl, rfl⟩
      go_wp2
      go_ret2
      exact ⟨_, rfl, .inr ⟨by decide, rfl⟩, H.out, Stir.refl _ _⟩
    · have h2i : ¬ (40 : Int) < (t.size : Int) := by omega
      have CR := fun w => repeat_any 64 (by decide) w
      have CR' : ∀ w, Calls Tryz.prog 42 #[.string ⟨#[0]⟩, .int .i64 64] w _ := CR
      have CW := fun w (h : DiskAt b g m s w) => write_any h (by omega) 0 ⟨by decide, by decide⟩ (zeros 64)
      have hm1 := made_write' s 0 (zeros 64)
      have hl1 := len_write s 0 (zeros 64)
      have HEE := Lib.hid (show E = if s.writeE 0 (zeros 64) ≠ 0 then s.writeE 0 (zeros 64) else (rootPut t 1 (s.write 0 (zeros 64))).1 by rw [← hE, vformE, hb, if_neg (by decide), if_neg h2])
      have HDD := Lib.hid (show D = if s.writeE 0 (zeros 64) ≠ 0 then s.write 0 (zeros 64) else (rootPut t 1 (s.write 0 (zeros 64))).2 by rw [← hD, vformD, hb, if_neg (by decide), if_neg h2])
      generalize zeros 64 = Z at *
      have CC := fun w => clone_any t (by omega) w
      by_cases hE1 : s.writeE 0 Z = 0
      · have HEE2 := Lib.hid (show E = (rootPut t 1 (s.write 0 Z)).1 by rw [HEE.out, if_neg (by rw [hE1]; simp)])
        have HDD2 := Lib.hid (show D = (rootPut t 1 (s.write 0 Z)).2 by rw [HDD.out, if_neg (by rw [hE1]; simp)])
        rw [hE1] at CW
        have hlp := len_rootPut t 1 (s.write 0 Z)
        have hbD : badV D = false := by rw [HDD2.out, ← hb]; unfold badV blkN; rw [hlp.1, hl1]
        have CL := fun w (h : DiskAt b g m (s.write 0 Z) w) => lay_any (n := 1) (t := t) h (by omega) (by decide) (by omega)
        rw [← HEE2.out, ← HDD2.out] at CL
        have CL' : ∀ w, DiskAt b g m (s.write 0 Z) w → Calls Tryz.prog 43 #[.agg #[.int .i64 1, .string t], .pointer (some ⟨b, 0, none⟩)] w _ := CL
        have CO := fun w (h : DiskAt b g m D w) => vover_any (n := 1) (t := t) h hbD (by decide) (by omega)
        have CO' : ∀ w, DiskAt b g m D w → Calls Tryz.prog 44 #[.pointer (some ⟨b, 0, none⟩), .agg #[.int .i64 1, .string t]] w _ := CO
        generalize s.write 0 Z = s1 at *
        clear h hE hD hb h2 CR CL CO HEE HDD hE1 hm1 hl1 hlp hbD HEE2 HDD2 hm
        go_enter Tryz.func15, Tryz.ntmps15
        go_wp2_with fail
        refine CH.mono ?_
        rintro e w' ⟨rfl, rfl⟩
        go_wp2_with fail
        refine (CR' _).mono ?_
        rintro e w1 ⟨rfl, hB1⟩
        have H1 := Lib.hid (H.out.below hB1)
        have S1 := Lib.hid (Stir.of_below (F := Foot b g m) hB1)
        clear hB1 CR' CH
        go_wp2_with fail
        refine (CW _ H1.out).mono ?_
        rintro e w2 ⟨rfl, h2', s2⟩
        have H2 := Lib.hid h2'
        have S2 := Lib.hid (S1.out.trans s2 (fun i e => .inl e))
        clear h2' s2 CW
        go_wp2_with fail
        refine (CC _).mono ?_
        rintro e w3 ⟨rfl, hB3⟩
        have H3 := Lib.hid (H2.out.below hB3)
        have S3 := Lib.hid (S2.out.and_below hB3)
        clear hB3 CC
        obtain ⟨w4, hw4⟩ : ∃ w4, w3.alloc (.cells #[.int .i64 1, .string t] 54) = w4 := ⟨_, rfl⟩
        have hB4 : Below w3.heap.size w3 w4 := by rw [← hw4]; exact (Below.refl _ w3).alloc (Nat.le_refl _) _
        have HO4 := Lib.hid (show w4.heap[w3.heap.size]? = some (numO 1 t) by rw [← hw4]; exact heap_alloc_new _ _)
        have H4 := Lib.hid (H3.out.below hB4)
        have S4 := Lib.hid (S3.out.and_below hB4)
        have d0 : w4.cell? ⟨w3.heap.size, 0, none⟩ = some (.int .i64 1) := numO.c0 HO4.out
        have d1 := numO.c1 HO4.out
        clear hB4
        go_wp2_with fail
        refine (CL' _ H4.out).mono ?_
        rintro e w5 ⟨rfl, h5, s5⟩
        have H5 := Lib.hid h5
        have S5 := Lib.hid (S4.out.trans s5 (fun i e => .inl e))
        have HO5 := Lib.hid (s5.keep HO4.out (H4.out.not_cells HO4.out (by decide) (by decide)))
        have e0 : w5.cell? ⟨w3.heap.size, 0, none⟩ = some (.int .i64 1) := numO.c0 HO5.out
        have e1 := numO.c1 HO5.out
        clear h5 s5 CL' d0 d1 hw4
        by_cases hE0 : E = 0
        · subst hE0
          go_wp2_with fail
          refine (CO' _ H5.out).mono ?_
          rintro e w6 ⟨l, c, F, rfl, hl6, hv6, hB6⟩
          have HV6 := Lib.hid hv6
          have HL6 := Lib.hid hl6
          have H6 := Lib.hid (H5.out.below hB6)
          have S6 := Lib.hid (S5.out.and_below hB6)
          clear hv6 hl6 hB6 CO'
          go_wp2
          go_ret2
          refine ⟨_, rfl, .inl ⟨rfl, l, c, F, rfl, Nat.le_trans S5.out.size HL6.out, ?_⟩, H6.out, S6.out⟩
          rw [HX.out]
          exact ⟨HV6.out.obj, HV6.out.disk, by
            obtain ⟨m', r, T, nd, nx, pv, D', a1, a2, a3, a4, a5⟩ := HV6.out.kept
            exact ⟨m', r, T, nd, nx, pv, D', a1, a2, a3, fun k hk => Nat.le_trans S5.out.size (a4 k hk), a5⟩, HV6.out.far, HV6.out.apart, HV6.out.tle, HV6.out.nle, HV6.out.big⟩
        · have hEb : (E != 0) = true := by simpa using hE0
          have HE0 := Lib.hid hE0
          clear hE0 CO'
          go_wp2
          go_ret2
          exact ⟨_, rfl, .inr ⟨HE0.out, rfl⟩, H5.out, S5.out⟩
      · obtain rfl : s.writeE 0 Z = E := by rw [HEE.out, if_pos hE1]
        obtain rfl : s.write 0 Z = D := by rw [HDD.out, if_pos hE1]
        have hEb : (s.writeE 0 Z != 0) = true := by simpa using hE1
        have HE1 := Lib.hid hE1
        generalize s.writeE 0 Z = E at *
        generalize s.write 0 Z = s1 at *
        clear h hE hD hb h2 CR HEE HDD hE1 hm1 hl1 CC hm
        go_enter Tryz.func15, Tryz.ntmps15
        go_wp2_with fail
        refine CH.mono ?_
        rintro e w' ⟨rfl, rfl⟩
        go_wp2_with fail
        refine (CR' _).mono ?_
        rintro e w1 ⟨rfl, hB1⟩
        have H1 := Lib.hid (H.out.below hB1)
        have S1 := Lib.hid (Stir.of_below (F := Foot b g m) hB1)
        clear hB1 CR' CH
        go_wp2_with fail
        refine (CW _ H1.out).mono ?_
        rintro e w2 ⟨rfl, h2', s2⟩
        have H2 := Lib.hid h2'
        have S2 := Lib.hid (S1.out.trans s2 (fun i e => .inl e))
        clear h2' s2 CW
        go_wp2
        go_ret2
        exact ⟨_, rfl, .inr ⟨HE1.out, rfl⟩, H2.out, S2.out⟩
end
end Go.Proofs.YtmloljjllmmkoaaGreat

namespace Go.Proofs.YtmloljjllmmkoaaGreat
open Go.RowKit Go Go.Maps SM

theorem below_set {a w : World} (h : Below a.heap.size a w) {q i : Nat} (hq : a.heap.size ≤ q) (x : Value) : Below a.heap.size a (w.setCell ⟨q, i, none⟩ x) :=
  h.trans (((Stir.refl (· = q) w).set (.inl rfl) x).below (fun k e => by subst e; exact hq) h.size)
theorem slice_num (x : ByteArray) (i j : Nat) (hij : i ≤ j) (hj : j ≤ x.size) (_hx : x.size ≤ 1000) (W : World) :
    (Instr.slice 9 (.string x) (some (.int .i64 (i : Int))) (some (.int .i64 (j : Int))) none).run Tryz.prog W = .ok (.string (x.extract i j)) W := by
  have := run_slice_string W 9 x .i64 .i64 (i : Int) (j : Int) Tryz.underlying9 (by omega) (by omega) (by omega)
  rw [Int.toNat_natCast, Int.toNat_natCast] at this
  exact this
def foundV (x : ByteArray) (i : Nat) : Value := if isRoot x i then numV (rNum x) (rText x) else .agg #[.int .i64 0, .string ⟨#[]⟩]
end Go.Proofs.YtmloljjllmmkoaaGreat

namespace Go.Proofs.YtmloljjllmmkoaaGreat
open Go.RowKit Go Go.Maps SM

def rootsTo (s : DS) : Nat → Int × Nat × ByteArray
  | 0 => (80, 0, none0)
  | k + 1 => stepRoot s k (rootsTo s k)
theorem roots_to (s : DS) : roots s = rootsTo s 2 := rfl
theorem readE_two {s : DS} {k : Nat} (hk : k < s.stay.length) : s.readE (k : Int) = 2 ↔ s.dead = true := by
  unfold DS.readE DS.may
  have h1 : ¬ ((k : Int) < 0 ∨ (s.stay.length : Int) ≤ (k : Int)) := by omega
  cases hd : s.dead with
  | true => simp
  | false =>
    simp only [if_neg h1]
    cases s.bad (k : Int) <;> simp
/-- of a root so far: its number is 0 and there is none, or all is in its bounds -/
theorem rootsTo_ok (s : DS) : ∀ k, ((rootsTo s k).2.1 = 0 ∧ (rootsTo s k).2.2 = none0) ∨ (1 ≤ (rootsTo s k).2.1 ∧ (rootsTo s k).2.1 ≤ 1099511627776 ∧ (rootsTo s k).2.2.size ≤ 40)
  | 0 => .inl ⟨rfl, rfl⟩
  | k + 1 => by
    have ih := rootsTo_ok s k
    unfold rootsTo stepRoot
    split
    · exact ih
    · split
      · rename_i h
        rw [Bool.and_eq_true] at h
        obtain ⟨a, b, c, _, _⟩ := isRoot_is.1 h.1
        exact .inr ⟨a, b, rText_size c⟩
      · exact ih
theorem rootsTo_ne (s : DS) : ∀ k, (rootsTo s k).1 ≠ 0
  | 0 => by rw [rootsTo]; decide
  | k + 1 => by
    have ih := rootsTo_ne s k
    unfold rootsTo stepRoot
    split
    · assumption
    · split
      · exact ih
      · exact ih
theorem VolAt.lower {base base' l b g m c : Nat} {F : Nat → Prop} {x : VS} {w : World} (h : VolAt base l b g m c F x w) (hb : base' ≤ base) : VolAt base' l b g m c F x w :=
  ⟨h.obj, h.disk, by
    obtain ⟨m', r, T, nd, nx, pv, D', a1, a2, a3, a4, a5⟩ := h.kept
    exact ⟨m', r, T, nd, nx, pv, D', a1, a2, a3, fun k hk => Nat.le_trans hb (a4 k hk), a5⟩, h.far, h.apart, h.tle, h.nle, h.big⟩
section
variable {b g m : Nat} {s : DS} {w w' : World}
end
end Go.Proofs.YtmloljjllmmkoaaGreat

