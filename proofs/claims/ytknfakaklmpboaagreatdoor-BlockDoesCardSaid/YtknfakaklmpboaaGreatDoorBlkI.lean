/-
  A volume: Open.
-/
import Derived.Test.YtknfakaklmpboaaGreatDoorBlkH
namespace Go.Proofs.YtknfakaklmpboaaGreatDoor
open Go.RowKit Go Go.Maps SM

def rootsTo (s : DS) : Nat → Int × Nat × ByteArray
  | 0 => (80, 0, none0)
  | k + 1 => stepRoot s k (rootsTo s k)
theorem roots_to (s : DS) : roots s = rootsTo s 2 := rfl
theorem readE_two {s : DS} {k : Nat} (hk : k < s.stay.length) : s.readE (k : Int) = 2 ↔ s.dead = true := by
  unfold DS.readE DS.may
  have h1 : ¬ ((k : Int) < 0 ∨ (s.stay.length : Int) ≤ (k : Int)) := by omega
  cases hd : s.dead with
  | true => simp
  | false =>
    simp only [if_neg h1]
    cases s.bad (k : Int) <;> simp
/-- of a root so far: its number is 0 and there is none, or all is in its bounds -/
theorem rootsTo_ok (s : DS) : ∀ k, ((rootsTo s k).2.1 = 0 ∧ (rootsTo s k).2.2 = none0) ∨ (1 ≤ (rootsTo s k).2.1 ∧ (rootsTo s k).2.1 ≤ 1099511627776 ∧ (rootsTo s k).2.2.size ≤ 40)
  | 0 => .inl ⟨rfl, rfl⟩
  | k + 1 => by
    have ih := rootsTo_ok s k
    unfold rootsTo stepRoot
    split
    · exact ih
    · split
      · rename_i h
        rw [Bool.and_eq_true] at h
        obtain ⟨a, b, c, _, _⟩ := isRoot_is.1 h.1
        exact .inr ⟨a, b, rText_size c⟩
      · exact ih
theorem rootsTo_ne (s : DS) : ∀ k, (rootsTo s k).1 ≠ 0
  | 0 => by rw [rootsTo]; decide
  | k + 1 => by
    have ih := rootsTo_ne s k
    unfold rootsTo stepRoot
    split
    · assumption
    · split
      · exact ih
      · exact ih
theorem VolAt.lower {base base' l b g m c : Nat} {F : Nat → Prop} {x : VS} {w : World} (h : VolAt base l b g m c F x w) (hb : base' ≤ base) : VolAt base' l b g m c F x w :=
  ⟨h.obj, h.disk, by
    obtain ⟨m', r, T, nd, nx, pv, D', a1, a2, a3, a4, a5⟩ := h.kept
    exact ⟨m', r, T, nd, nx, pv, D', a1, a2, a3, fun k hk => Nat.le_trans hb (a4 k hk), a5⟩, h.far, h.apart, h.tle, h.nle, h.big⟩
section
variable {b g m : Nat} {s : DS} {w w' : World}
set_option maxRecDepth 100000 in
set_option maxHeartbeats 4000000 in
theorem vopen_any (h : DiskAt b g m s w) :
    Calls Tryz.prog 19 #[.pointer (some ⟨b, 0, none⟩)] w fun e w' => ∃ p, e = .returned (.tuple #[.pointer p, .int .i64 (vopenE s)]) ∧ VNew w.heap.size b g m p (vopenE s) (vopenX s) w' ∧ Below w.heap.size w w' := by
  have CH := holds_any h
  have H := Lib.hid h
  obtain ⟨E, hE⟩ : ∃ E, vopenE s = E := ⟨_, rfl⟩
  rw [hE]
  cases hb : badV s with
  | true =>
    obtain rfl : 80 = E := by rw [← hE, vopenE, hb]; rfl
    rw [hb] at CH
    clear h hE hb
    go_enter Tryz.func19, Tryz.ntmps19
    go_wp2_with fail
    refine CH.mono ?_
    rintro e w' ⟨rfl, rfl⟩
    go_wp2
    go_ret2
    exact ⟨_, rfl, .inr ⟨by decide, rfl⟩, Below.refl _ _⟩
  | false =>
    rw [hb] at CH
    have hl32 := (big_is hb).2.2
    have HEE := Lib.hid (show E = if s.dead then 2 else if (rootsTo s 2).2.1 = 0 then (rootsTo s 2).1 else 0 by rw [← hE, vopenE, hb, if_neg (by decide), roots_to])
    have HXX := Lib.hid (show vopenX s = ⟨s, (rootsTo s 2).2.2, (rootsTo s 2).2.1, [], false⟩ by rw [vopenX, roots_to])
    have HBb := Lib.hid hb
    have HRk := Lib.hid (fun k => rootsTo_ok s k)
    have HRn := Lib.hid (fun k => rootsTo_ne s k)
    have H32 := Lib.hid hl32
    obtain ⟨w0, hw0⟩ : ∃ w0, w.alloc (.cells #[.int .i64 0, .string ⟨#[]⟩] 65) = w0 := ⟨_, rfl⟩
    have HB0 := Lib.hid (show Below w.heap.size w w0 by rw [← hw0]; exact (Below.refl _ w).alloc (Nat.le_refl _) _)
    have HO0 := Lib.hid (show w0.heap[w.heap.size]? = some (numO 0 none0) by rw [← hw0]; exact heap_alloc_new _ _)
    clear h hE hb hl32
    go_enter Tryz.func19, Tryz.ntmps19
    go_wp2_with fail
    refine CH.mono ?_
    rintro e w' ⟨rfl, rfl⟩
    clear CH
    go_wp2
    go_loopw [13, 5] (fun i e wr => ∃ (k : Nat) (a : Int × Nat × ByteArray), k ≤ 2 ∧ i = .int .i64 k ∧ e = .int .i64 a.1 ∧ Hid (a = rootsTo s k) ∧ Hid (wr.heap[w.heap.size]? = some (numO a.2.1 a.2.2)) ∧ Hid (Below w.heap.size w wr) ∧ Hid (0 < k → s.dead = false)) (fun i _ _ => 2 - (intOf i).toNat)
    case atStart => exact ⟨0, (80, 0, none0), by omega, rfl, rfl, Lib.hid rfl, HO0, HB0, Lib.hid (fun h => absurd h (by omega))⟩
    case round =>
      clear HB0 HO0 hw0
      obtain ⟨k, ⟨a1, a2, a3⟩, hk, rfl, rfl, HA, HO, HB, HD⟩ := hrel
      by_cases hlt : k < 2
      · have hki : (k : Int) < 2 := by omega
        have CR := read_any (H.out.below HB.out) (k : Int) ⟨by omega, by omega⟩
        have HTwo := Lib.hid (readE_two (s := s) (k := k) (by have := H32.out; omega))
        have HSt := Lib.hid (show rootsTo s (k + 1) = stepRoot s k (a1, a2, a3) by rw [rootsTo, ← HA.out])
        have HSz := Lib.hid (fun he => H.out.1.readS_size (n := (k : Int)) he)
        have CF := fun x hx w => find_any k x hx w
        clear HA
        by_cases h2 : s.readE (k : Int) = 2
        · have HE2 := Lib.hid (show E = 2 by rw [HEE.out, HTwo.out.1 h2]; rfl)
          rw [h2] at CR
          generalize s.readS (k : Int) = X at *
          clear h2 HTwo HSt HSz CF
          go_wp2_with fail
          refine CR.mono ?_
          rintro e w2 ⟨rfl, hB2⟩
          have HB2 := Lib.hid (HB.out.trans (hB2.mono HB.out.size))
          clear hB2 CR
          go_wp2
          go_ret2
          exact ⟨none, by rw [HE2.out]; rfl, .inr ⟨by rw [HE2.out]; decide, rfl⟩, HB2.out⟩
        · have h2b : (s.readE (k : Int) == 2) = false := beq_eq_false_iff_ne.2 h2
          have HDk := Lib.hid (show s.dead = false from Bool.eq_false_iff.2 (fun e => h2 (HTwo.out.2 e)))
          by_cases h0 : s.readE (k : Int) = 0
          · have hsz := HSz.out h0
            have CF := CF _ hsz
            rw [h0] at CR
            by_cases hr : isRoot (s.readS (k : Int)) k = true
            · have hrn := isRoot_is.1 hr
              unfold foundV at CF
              rw [if_pos hr] at CF
              unfold numV at CF
              by_cases hgt : a2 < rNum (s.readS (k : Int))
              · have HS2 := Lib.hid (show rootsTo s (k + 1) = (a1, rNum (s.readS (k : Int)), rText (s.readS (k : Int))) by rw [HSt.out, stepRoot, if_neg (by rw [h0]; simp), hr]; simp [hgt])
                generalize rNum (s.readS (k : Int)) = n at *
                generalize rText (s.readS (k : Int)) = t at *
                generalize s.readS (k : Int) = X at *
                have hgi : (a2 : Int) < (n : Int) := by omega
                clear h2 h0 hsz hr hrn hgt HTwo HSt HSz h2b
                go_wp2_with fail
                refine CR.mono ?_
                rintro e w2 ⟨rfl, hB2⟩
                have HB2 := Lib.hid (HB.out.trans (hB2.mono HB.out.size))
                have HO2 := Lib.hid (keeps_of hB2 HO.out)
                clear hB2 CR
                go_wp2_with fail
                refine (CF _).mono ?_
                rintro e w3 ⟨rfl, hB3⟩
                have HB3 := Lib.hid (HB2.out.trans (hB3.mono HB2.out.size))
                have HO3 := Lib.hid (keeps_of hB3 HO2.out)
                obtain ⟨w4, hw4⟩ : ∃ w4, w3.alloc (.cells #[.int .i64 n, .string t] 65) = w4 := ⟨_, rfl⟩
                have hB4 : Below w3.heap.size w3 w4 := by rw [← hw4]; exact (Below.refl _ w3).alloc (Nat.le_refl _) _
                have HB4 := Lib.hid (HB3.out.trans (hB4.mono HB3.out.size))
                have HO4 := Lib.hid (keeps_of hB4 HO3.out)
                have HN4 := Lib.hid (show w4.heap[w3.heap.size]? = some (numO n t) by rw [← hw4]; exact heap_alloc_new _ _)
                have q0 := numO.c0 HO4.out
                have q1 := numO.c1 HO4.out
                have qf := numO.fr HO4.out
                have r0 := numO.c0 HN4.out
                have r1 := numO.c1 HN4.out
                clear hB3 hB4 CF
                go_wp2
                go_roundw
                case rel =>
                  refine ⟨k + 1, (a1, n, t), by omega, by go_num, rfl, Lib.hid HS2.out.symm, Lib.hid ?_, Lib.hid (below_set (below_set HB4.out (Nat.le_refl _) _) (Nat.le_refl _) _), Lib.hid (fun _ => HDk.out)⟩
                  have h1 : (w4.setCell ⟨w.heap.size, 0, none⟩ (.int .i64 n)).heap[w.heap.size]? = some (numO n a3) := by rw [heap_set HO4.out]; simp [numO]
                  rw [heap_set h1]
                  simp [numO]
                case measure => simp [intOf]; omega
              · have HS2 := Lib.hid (show rootsTo s (k + 1) = (a1, a2, a3) by rw [HSt.out, stepRoot, if_neg (by rw [h0]; simp), hr]; simp [hgt])
                generalize rNum (s.readS (k : Int)) = n at *
                generalize rText (s.readS (k : Int)) = t at *
                generalize s.readS (k : Int) = X at *
                have hgi : ¬ (a2 : Int) < (n : Int) := by omega
                clear h2 h0 hsz hr hrn hgt HTwo HSt HSz h2b
                go_wp2_with fail
                refine CR.mono ?_
                rintro e w2 ⟨rfl, hB2⟩
                have HB2 := Lib.hid (HB.out.trans (hB2.mono HB.out.size))
                have HO2 := Lib.hid (keeps_of hB2 HO.out)
                clear hB2 CR
                go_wp2_with fail
                refine (CF _).mono ?_
                rintro e w3 ⟨rfl, hB3⟩
                have HB3 := Lib.hid (HB2.out.trans (hB3.mono HB2.out.size))
                have HO3 := Lib.hid (keeps_of hB3 HO2.out)
                obtain ⟨w4, hw4⟩ : ∃ w4, w3.alloc (.cells #[.int .i64 n, .string t] 65) = w4 := ⟨_, rfl⟩
                have hB4 : Below w3.heap.size w3 w4 := by rw [← hw4]; exact (Below.refl _ w3).alloc (Nat.le_refl _) _
                have HB4 := Lib.hid (HB3.out.trans (hB4.mono HB3.out.size))
                have HO4 := Lib.hid (keeps_of hB4 HO3.out)
                have HN4 := Lib.hid (show w4.heap[w3.heap.size]? = some (numO n t) by rw [← hw4]; exact heap_alloc_new _ _)
                have q0 := numO.c0 HO4.out
                have r0 := numO.c0 HN4.out
                clear hB3 hB4 CF
                go_wp2
                go_roundw
                case rel => exact ⟨k + 1, (a1, a2, a3), by omega, by go_num, rfl, Lib.hid HS2.out.symm, HO4, HB4, Lib.hid (fun _ => HDk.out)⟩
                case measure => simp [intOf]; omega
            · have HS2 := Lib.hid (show rootsTo s (k + 1) = (a1, a2, a3) by rw [HSt.out, stepRoot, if_neg (by rw [h0]; simp), Bool.eq_false_iff.2 hr]; simp)
              unfold foundV at CF
              rw [if_neg hr] at CF
              generalize s.readS (k : Int) = X at *
              have hgb : decide ((a2 : Int) < 0) = false := decide_eq_false (by omega)
              clear h2 h0 hsz hr HTwo HSt HSz h2b
              go_wp2_with fail
              refine CR.mono ?_
              rintro e w2 ⟨rfl, hB2⟩
              have HB2 := Lib.hid (HB.out.trans (hB2.mono HB.out.size))
              have HO2 := Lib.hid (keeps_of hB2 HO.out)
              clear hB2 CR
              go_wp2_with fail
              refine (CF _).mono ?_
              rintro e w3 ⟨rfl, hB3⟩
              have HB3 := Lib.hid (HB2.out.trans (hB3.mono HB2.out.size))
              have HO3 := Lib.hid (keeps_of hB3 HO2.out)
              obtain ⟨w4, hw4⟩ : ∃ w4, w3.alloc (.cells #[.int .i64 0, .string ⟨#[]⟩] 65) = w4 := ⟨_, rfl⟩
              have hB4 : Below w3.heap.size w3 w4 := by rw [← hw4]; exact (Below.refl _ w3).alloc (Nat.le_refl _) _
              have HB4 := Lib.hid (HB3.out.trans (hB4.mono HB3.out.size))
              have HO4 := Lib.hid (keeps_of hB4 HO3.out)
              have HN4 := Lib.hid (show w4.heap[w3.heap.size]? = some (numO 0 ⟨#[]⟩) by rw [← hw4]; exact heap_alloc_new _ _)
              have r0 : w4.cell? ⟨w3.heap.size, 0, none⟩ = some (.int .i64 0) := numO.c0 HN4.out
              have r1 := numO.c1 HN4.out
              have rf := numO.fr HN4.out
              obtain ⟨w5, hw5⟩ : ∃ w5, (w4.setCell ⟨w3.heap.size, 0, none⟩ (.int .i64 0)).setCell ⟨w3.heap.size, 1, none⟩ (.string ⟨#[]⟩) = w5 := ⟨_, rfl⟩
              have hne : w.heap.size ≠ w3.heap.size := Nat.ne_of_lt (lt_of_heap HO3.out)
              have HB5 := Lib.hid (show Below w.heap.size w w5 by rw [← hw5]; exact below_set (below_set HB4.out HB3.out.size _) HB3.out.size _)
              have HO5 := Lib.hid (show w5.heap[w.heap.size]? = some (numO a2 a3) by rw [← hw5]; exact heap_set_other (heap_set_other HO4.out hne _) hne _)
              have s0 : w5.cell? ⟨w3.heap.size, 0, none⟩ = some (.int .i64 0) := by
                have h1 : (w4.setCell ⟨w3.heap.size, 0, none⟩ (.int .i64 0)).heap[w3.heap.size]? = some (numO 0 ⟨#[]⟩) := by rw [heap_set HN4.out]; simp [numO]
                have h2 : w5.heap[w3.heap.size]? = some (numO 0 ⟨#[]⟩) := by rw [← hw5, heap_set h1]; simp [numO]
                exact numO.c0 h2
              have q0 := numO.c0 HO5.out
              clear hB3 hB4 CF hne
              go_wp2
              go_roundw
              case rel => exact ⟨k + 1, (a1, a2, a3), by omega, by go_num, rfl, Lib.hid HS2.out.symm, HO5, HB5, Lib.hid (fun _ => HDk.out)⟩
              case measure => simp [intOf]; omega
          · have HS2 := Lib.hid (show rootsTo s (k + 1) = (s.readE (k : Int), a2, a3) by rw [HSt.out, stepRoot, if_pos h0])
            have h0b : (s.readE (k : Int) != 0) = true := by simpa using h0
            generalize s.readS (k : Int) = X at *
            generalize s.readE (k : Int) = E3 at *
            clear h2 h0 HTwo HSt HSz CF
            go_wp2_with fail
            refine CR.mono ?_
            rintro e w2 ⟨rfl, hB2⟩
            have HB2 := Lib.hid (HB.out.trans (hB2.mono HB.out.size))
            have HO2 := Lib.hid (keeps_of hB2 HO.out)
            clear hB2 CR
            go_wp2
            go_roundw
            case rel => exact ⟨k + 1, (E3, a2, a3), by omega, by go_num, rfl, Lib.hid HS2.out.symm, HO2, HB2, Lib.hid (fun _ => HDk.out)⟩
            case measure => simp [intOf]; omega
      · have hki : ¬ (k : Int) < 2 := by omega
        have hk2 : k = 2 := by omega
        have HDd := Lib.hid (HD.out (by omega))
        have hok := HRk.out 2
        have HA := Lib.hid (show (a1, a2, a3) = rootsTo s 2 by rw [HA.out, hk2])
        clear hk2
        have HEE2 := Lib.hid (show E = if a2 = 0 then a1 else 0 by rw [HEE.out, HDd.out, ← HA.out]; rfl)
        have HXX2 := Lib.hid (show vopenX s = ⟨s, a3, a2, [], false⟩ by rw [HXX.out, ← HA.out])
        have HNe := Lib.hid (show a1 ≠ 0 by have := HRn.out 2; rw [← HA.out] at this; exact this)
        rw [← HA.out] at hok
        simp only at hok
        have q0 := numO.c0 HO.out
        have q1 := numO.c1 HO.out
        clear HD HEE HXX HA
        rcases hok with ⟨rfl, rfl⟩ | ⟨n1, n2, n3⟩
        · have HE1 := Lib.hid (show E = a1 by rw [HEE2.out, if_pos rfl])
          have q0' : wr.cell? ⟨w.heap.size, 0, none⟩ = some (.int .i64 0) := q0
          have q1' : wr.cell? ⟨w.heap.size, 1, none⟩ = some (.string ⟨#[]⟩) := q1
          clear q0 q1 HEE2
          go_wp2
          go_ret2
          exact ⟨none, by rw [HE1.out]; rfl, .inr ⟨by rw [HE1.out]; exact HNe.out, rfl⟩, HB.out⟩
        · have HE1 := Lib.hid (show E = 0 by rw [HEE2.out, if_neg (by omega)])
          have CO := fun w (h : DiskAt b g m s w) => vover_any h HBb.out n2 n3
          unfold numV at CO
          have hnb : ((a2 : Int) == 0) = false := beq_eq_false_iff_ne.2 (by omega)
          clear HEE2
          go_wp2_with fail
          refine (CO _ (H.out.below HB.out)).mono ?_
          rintro e w6 ⟨l, c, F, rfl, hl6, hv6, hB6⟩
          have HV6 := Lib.hid hv6
          have HL6 := Lib.hid hl6
          have HB6 := Lib.hid (HB.out.trans (hB6.mono HB.out.size))
          clear hv6 hl6 hB6 CO
          go_wp2
          go_ret2
          exact ⟨some ⟨l, 0, none⟩, by rw [HE1.out]; rfl, .inl ⟨HE1.out, l, c, F, rfl, Nat.le_trans HB.out.size HL6.out, by rw [HXX2.out]; exact HV6.out.lower HB.out.size⟩, HB6.out⟩
end
end Go.Proofs.YtknfakaklmpboaaGreatDoor

