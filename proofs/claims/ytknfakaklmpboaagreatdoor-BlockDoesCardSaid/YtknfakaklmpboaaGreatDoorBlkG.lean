/-
  A volume: Format; what a sector says of a root; Open.
-/
import Derived.Test.YtknfakaklmpboaaGreatDoorBlkF
namespace Go.Proofs.YtknfakaklmpboaaGreatDoor
open Go.RowKit Go Go.Maps SM

section
variable {base l b g m c : Nat} {F F' : Nat → Prop} {x : VS} {s : DS} {w0 w w' : World}
theorem len_vformD (s : DS) (t : ByteArray) : (vformD s t).stay.length = s.stay.length ∧ (vformD s t).made ≤ s.made + 3 := by
  have h1 := len_write s 0 (zeros 64)
  have h2 := made_write' s 0 (zeros 64)
  have h3 := len_rootPut t 1 (s.write 0 (zeros 64))
  unfold vformD
  split
  · omega
  · split
    · omega
    · split
      · omega
      · omega
/-- a new volume, or none -/
def VNew (B b g m : Nat) (p : Option Addr) (E : Int) (x : VS) (w' : World) : Prop := (E = 0 ∧ ∃ l c F, p = some ⟨l, 0, none⟩ ∧ B ≤ l ∧ VolAt B l b g m c F x w') ∨ (E ≠ 0 ∧ p = none)
set_option maxRecDepth 100000 in
set_option maxHeartbeats 4000000 in
theorem vformat_any (h : DiskAt b g m s w) (hm : s.made < 900000000) (t : ByteArray) (ht : t.size ≤ 140737488355328) :
    Calls Tryz.prog 31 #[.pointer (some ⟨b, 0, none⟩), .string t] w fun e w' => ∃ p, e = .returned (.tuple #[.pointer p, .int .i64 (vformE s t)]) ∧ VNew w.heap.size b g m p (vformE s t) (vformX s t) w' ∧ DiskAt b g m (vformD s t) w' ∧ Stir (Foot b g m) w w' := by
  have CH := holds_any h
  have H := Lib.hid h
  obtain ⟨E, hE⟩ : ∃ E, vformE s t = E := ⟨_, rfl⟩
  obtain ⟨D, hD⟩ : ∃ D, vformD s t = D := ⟨_, rfl⟩
  rw [hE, hD]
  have HX := Lib.hid (show vformX s t = ⟨D, t, 1, [], false⟩ by rw [vformX, hD])
  cases hb : badV s with
  | true =>
    obtain rfl : 80 = E := by rw [← hE, vformE, hb]; rfl
    obtain rfl : s = D := by rw [← hD, vformD, hb]; rfl
    rw [hb] at CH
    clear h hE hD hb
    go_enter Tryz.func31, Tryz.ntmps31
    go_wp2_with fail
    refine CH.mono ?_
    rintro e w' ⟨rfl, rfl⟩
    go_wp2
    go_ret2
    exact ⟨_, rfl, .inr ⟨by decide, rfl⟩, H.out, Stir.refl _ _⟩
  | false =>
    rw [hb] at CH
    by_cases h2 : 40 < t.size
    · obtain rfl : 83 = E := by rw [← hE, vformE, hb, if_neg (by decide), if_pos h2]
      obtain rfl : s = D := by rw [← hD, vformD, hb, if_neg (by decide), if_pos h2]
      have h2i : (40 : Int) < (t.size : Int) := by omega
      clear h hE hD hb h2
      go_enter Tryz.func31, Tryz.ntmps31
      go_wp2_with fail
      refine CH.mono ?_
      rintro e w' ⟨rfl, rfl⟩
      go_wp2
      go_ret2
      exact ⟨_, rfl, .inr ⟨by decide, rfl⟩, H.out, Stir.refl _ _⟩
    · have h2i : ¬ (40 : Int) < (t.size : Int) := by omega
      have CR := fun w => repeat_any 64 (by decide) w
      have CR' : ∀ w, Calls Tryz.prog 79 #[.string ⟨#[0]⟩, .int .i64 64] w _ := CR
      have CW := fun w (h : DiskAt b g m s w) => write_any h (by omega) 0 ⟨by decide, by decide⟩ (zeros 64)
      have hm1 := made_write' s 0 (zeros 64)
      have hl1 := len_write s 0 (zeros 64)
      have HEE := Lib.hid (show E = if s.writeE 0 (zeros 64) ≠ 0 then s.writeE 0 (zeros 64) else (rootPut t 1 (s.write 0 (zeros 64))).1 by rw [← hE, vformE, hb, if_neg (by decide), if_neg h2])
      have HDD := Lib.hid (show D = if s.writeE 0 (zeros 64) ≠ 0 then s.write 0 (zeros 64) else (rootPut t 1 (s.write 0 (zeros 64))).2 by rw [← hD, vformD, hb, if_neg (by decide), if_neg h2])
      generalize zeros 64 = Z at *
      have CC := fun w => clone_any t (by omega) w
      by_cases hE1 : s.writeE 0 Z = 0
      · have HEE2 := Lib.hid (show E = (rootPut t 1 (s.write 0 Z)).1 by rw [HEE.out, if_neg (by rw [hE1]; simp)])
        have HDD2 := Lib.hid (show D = (rootPut t 1 (s.write 0 Z)).2 by rw [HDD.out, if_neg (by rw [hE1]; simp)])
        rw [hE1] at CW
        have hlp := len_rootPut t 1 (s.write 0 Z)
        have hbD : badV D = false := by rw [HDD2.out, ← hb]; unfold badV blkN; rw [hlp.1, hl1]
        have CL := fun w (h : DiskAt b g m (s.write 0 Z) w) => lay_any (n := 1) (t := t) h (by omega) (by decide) (by omega)
        rw [← HEE2.out, ← HDD2.out] at CL
        have CL' : ∀ w, DiskAt b g m (s.write 0 Z) w → Calls Tryz.prog 53 #[.agg #[.int .i64 1, .string t], .pointer (some ⟨b, 0, none⟩)] w _ := CL
        have CO := fun w (h : DiskAt b g m D w) => vover_any (n := 1) (t := t) h hbD (by decide) (by omega)
        have CO' : ∀ w, DiskAt b g m D w → Calls Tryz.prog 67 #[.pointer (some ⟨b, 0, none⟩), .agg #[.int .i64 1, .string t]] w _ := CO
        generalize s.write 0 Z = s1 at *
        clear h hE hD hb h2 CR CL CO HEE HDD hE1 hm1 hl1 hlp hbD HEE2 HDD2 hm
        go_enter Tryz.func31, Tryz.ntmps31
        go_wp2_with fail
        refine CH.mono ?_
        rintro e w' ⟨rfl, rfl⟩
        go_wp2_with fail
        refine (CR' _).mono ?_
        rintro e w1 ⟨rfl, hB1⟩
        have H1 := Lib.hid (H.out.below hB1)
        have S1 := Lib.hid (Stir.of_below (F := Foot b g m) hB1)
        clear hB1 CR' CH
        go_wp2_with fail
        refine (CW _ H1.out).mono ?_
        rintro e w2 ⟨rfl, h2', s2⟩
        have H2 := Lib.hid h2'
        have S2 := Lib.hid (S1.out.trans s2 (fun i e => .inl e))
        clear h2' s2 CW
        go_wp2_with fail
        refine (CC _).mono ?_
        rintro e w3 ⟨rfl, hB3⟩
        have H3 := Lib.hid (H2.out.below hB3)
        have S3 := Lib.hid (S2.out.and_below hB3)
        clear hB3 CC
        obtain ⟨w4, hw4⟩ : ∃ w4, w3.alloc (.cells #[.int .i64 1, .string t] 65) = w4 := ⟨_, rfl⟩
        have hB4 : Below w3.heap.size w3 w4 := by rw [← hw4]; exact (Below.refl _ w3).alloc (Nat.le_refl _) _
        have HO4 := Lib.hid (show w4.heap[w3.heap.size]? = some (numO 1 t) by rw [← hw4]; exact heap_alloc_new _ _)
        have H4 := Lib.hid (H3.out.below hB4)
        have S4 := Lib.hid (S3.out.and_below hB4)
        have d0 : w4.cell? ⟨w3.heap.size, 0, none⟩ = some (.int .i64 1) := numO.c0 HO4.out
        have d1 := numO.c1 HO4.out
        clear hB4
        go_wp2_with fail
        refine (CL' _ H4.out).mono ?_
        rintro e w5 ⟨rfl, h5, s5⟩
        have H5 := Lib.hid h5
        have S5 := Lib.hid (S4.out.trans s5 (fun i e => .inl e))
        have HO5 := Lib.hid (s5.keep HO4.out (H4.out.not_cells HO4.out (by decide) (by decide)))
        have e0 : w5.cell? ⟨w3.heap.size, 0, none⟩ = some (.int .i64 1) := numO.c0 HO5.out
        have e1 := numO.c1 HO5.out
        clear h5 s5 CL' d0 d1 hw4
        by_cases hE0 : E = 0
        · subst hE0
          go_wp2_with fail
          refine (CO' _ H5.out).mono ?_
          rintro e w6 ⟨l, c, F, rfl, hl6, hv6, hB6⟩
          have HV6 := Lib.hid hv6
          have HL6 := Lib.hid hl6
          have H6 := Lib.hid (H5.out.below hB6)
          have S6 := Lib.hid (S5.out.and_below hB6)
          clear hv6 hl6 hB6 CO'
          go_wp2
          go_ret2
          refine ⟨_, rfl, .inl ⟨rfl, l, c, F, rfl, Nat.le_trans S5.out.size HL6.out, ?_⟩, H6.out, S6.out⟩
          rw [HX.out]
          exact ⟨HV6.out.obj, HV6.out.disk, by
            obtain ⟨m', r, T, nd, nx, pv, D', a1, a2, a3, a4, a5⟩ := HV6.out.kept
            exact ⟨m', r, T, nd, nx, pv, D', a1, a2, a3, fun k hk => Nat.le_trans S5.out.size (a4 k hk), a5⟩, HV6.out.far, HV6.out.apart, HV6.out.tle, HV6.out.nle, HV6.out.big⟩
        · have hEb : (E != 0) = true := by simpa using hE0
          have HE0 := Lib.hid hE0
          clear hE0 CO'
          go_wp2
          go_ret2
          exact ⟨_, rfl, .inr ⟨HE0.out, rfl⟩, H5.out, S5.out⟩
      · obtain rfl : s.writeE 0 Z = E := by rw [HEE.out, if_pos hE1]
        obtain rfl : s.write 0 Z = D := by rw [HDD.out, if_pos hE1]
        have hEb : (s.writeE 0 Z != 0) = true := by simpa using hE1
        have HE1 := Lib.hid hE1
        generalize s.writeE 0 Z = E at *
        generalize s.write 0 Z = s1 at *
        clear h hE hD hb h2 CR HEE HDD hE1 hm1 hl1 CC hm
        go_enter Tryz.func31, Tryz.ntmps31
        go_wp2_with fail
        refine CH.mono ?_
        rintro e w' ⟨rfl, rfl⟩
        go_wp2_with fail
        refine (CR' _).mono ?_
        rintro e w1 ⟨rfl, hB1⟩
        have H1 := Lib.hid (H.out.below hB1)
        have S1 := Lib.hid (Stir.of_below (F := Foot b g m) hB1)
        clear hB1 CR' CH
        go_wp2_with fail
        refine (CW _ H1.out).mono ?_
        rintro e w2 ⟨rfl, h2', s2⟩
        have H2 := Lib.hid h2'
        have S2 := Lib.hid (S1.out.trans s2 (fun i e => .inl e))
        clear h2' s2 CW
        go_wp2
        go_ret2
        exact ⟨_, rfl, .inr ⟨HE1.out, rfl⟩, H2.out, S2.out⟩
end
end Go.Proofs.YtknfakaklmpboaaGreatDoor

