/-
  What is moved are the first things, as many as there is room for; none is lost, the order of each stays: for every two lists of numbers, of which the first sixty are sent (of the second: as many as there is room for), and every number for the room.
  Conditions: none besides the row's own.
-/
import Derived.Test.YtmlemgifejefiaaPipF
import Derived.Test.YtmlemgifejefiaaKitI
import Derived.OwnWalk
import Derived.IntWalk
namespace Go.Proofs.Ytmlemgifejefiaa.moves
open Go.ChangeShapes Go.WideShapes Go.ChangeAt Go.RowKit Go

set_option maxRecDepth 100000 in
set_option maxHeartbeats 4000000 in
theorem walk (va : Value) (za : List Int) (vb : Value) (zb : List Int) (room : Int) (w : World) (hOa : IntsAt w va za) (hza : za.length ≤ 140737488351232 ∧ ∀ z ∈ za, IntOk z)
    (hOb : IntsAt w vb zb) (hzb : zb.length ≤ 140737488351232 ∧ ∀ z ∈ zb, IntOk z) (_hn : -9223372036854775808 ≤ room ∧ room ≤ 9223372036854775807) :
    Calls Try.prog 7 #[va, vb, .int .i64 room] w fun r w' => r = .returned (.bool true) ∧ Below w.heap.size w w' := by
  obtain ⟨aa, capa, rfl, ha⟩ := hOa
  obtain ⟨ab, capb, rfl, hb⟩ := hOb
  have HA := Lib.hid ha
  have HB := Lib.hid hb
  have hza1 := hza.1
  have hzb1 := hzb.1
  obtain ⟨X, hX1, hX2, hm1, hm2, -⟩ := cut_to za.length 60 (by omega)
  obtain ⟨z, hz1', hz2⟩ := and_to 31 (by omega) room
  have hz1 : bits .and .i64 room 31 = (z : Int) := hz1'
  obtain ⟨R, hR⟩ : ∃ R, 1 + z = R := ⟨_, rfl⟩
  have hR1 : 1 ≤ R := by omega
  have hR2 : R ≤ 32 := by omega
  have hzi : (z : Int) ≤ 31 := by omega
  have hRi : (1 : Int) + (z : Int) = (R : Int) := by omega
  have HRR := Lib.hid (And.intro hR1 hR2)
  have HXX := Lib.hid (And.intro hX1 hX2)
  clear ha hb hza hzb hz1' hz2 hR hR1 hR2 hX1 hX2
  go_enter Try.func7, Try.ntmps7
  go_wp2_with fail
  refine (PI.new_any 60 (by omega) (by omega) _).mono ?_
  rintro e w1 ⟨p, c, rfl, hp, lp, lc, B1⟩
  go_wp2_with fail
  refine (PI.new_any R HRR.out.1 (by have := HRR.out.2; omega) _).mono ?_
  rintro e w2 ⟨q, d, rfl, hq, lq, ld, B2⟩
  have hn : PI.Two p c q d := ⟨by have := hp.lt_p; omega, by have := hp.lt_c; omega⟩
  have P2 := Lib.hid (hp.later B2)
  have lq2 : w.heap.size ≤ q := Nat.le_trans B1.size lq
  have ld2 : w.heap.size ≤ d := Nat.le_trans B1.size ld
  have B3 := Lib.hid (B1.trans (B2.mono B1.size))
  have Q2 := Lib.hid hq
  have HN := Lib.hid hn
  clear hp hq B1 B2 lq ld hn hz1 hRi hzi
  go_wp2_with fail
  clear hm1 hm2
  have hX1 := HXX.out.1
  have hX2 := HXX.out.2
  go_loopw [14] (fun i wr => ∃ j : Nat, j ≤ X ∧ i = .int .i64 j ∧ PI.PipeAt p c 60 false (za.take j) wr ∧ PI.PipeAt q d R false [] wr ∧ Below w.heap.size w wr) (fun i _ => X - (intOf i).toNat)
  case atStart => exact ⟨0, Nat.zero_le _, rfl, P2.out, Q2.out, B3.out⟩
  case round =>
    clear P2 Q2 B3
    obtain ⟨j, hj, rfl, hp, hq, hB⟩ := hrel
    by_cases hlt : j < X
    · obtain ⟨b, off, rfl, hb, hbc⟩ := HA.out (by intro e; rw [e] at hX1; simp at hX1; omega)
      have hcell := (hB.cell (p := ⟨b, off + j, none⟩) hb).trans (hbc j (by omega))
      have HX := Lib.hid (show za.take (j + 1) = za.take j ++ [za[j]] by rw [List.take_succ_eq_append_getElem (by omega)])
      have hji : (j : Int) < (X : Int) := by omega
      have hjl : (j : Int) < (za.length : Int) := by omega
      have P3 := Lib.hid hp
      have Q3 := Lib.hid hq
      have B3 := Lib.hid hB
      have HR := Lib.hid (show (za.take j).length < 60 by simp; omega)
      generalize za[j] = x at *
      clear hp hq hB hbc
      go_wp2_with fail
      refine (PI.send_room P3.out HR.out x).mono ?_
      rintro e w3 ⟨rfl, h, hs⟩
      have P4 := Lib.hid h
      have Q4 := Lib.hid (Q3.out.other P3.out HN.out.symm hs)
      have B4 := Lib.hid (below_turn B3.out lp lc hs)
      clear h hs P3 Q3 B3
      go_wp2_with fail
      go_roundw
      case rel => exact ⟨j + 1, hlt, by go_num, by rw [HX.out]; exact P4.out, Q4.out, B4.out⟩
      case measure => simp [intOf]; omega
    · obtain rfl : j = X := by omega
      obtain ⟨ys, hys⟩ : ∃ ys, za.take j = ys := ⟨_, rfl⟩
      rw [hys] at hp
      have P3 := Lib.hid hp
      have Q3 := Lib.hid hq
      have B3 := Lib.hid hB
      have HY := Lib.hid hys
      clear hp hq hB hlt hys
      obtain ⟨Y, hY⟩ : ∃ Y, Y = min zb.length R := ⟨_, rfl⟩
      have hY1 : Y ≤ zb.length := by omega
      have hY2 : Y ≤ R := by omega
      have HYm := Lib.hid hY
      clear hY
      go_wp2_with fail
      go_loopw [13] (fun i wr => ∃ t : Nat, t ≤ Y ∧ i = .int .i64 t ∧ PI.PipeAt p c 60 false ys wr ∧ PI.PipeAt q d R false (zb.take t) wr ∧ Below w.heap.size w wr) (fun i _ => Y - (intOf i).toNat)
      case atStart => exact ⟨0, Nat.zero_le _, rfl, P3.out, Q3.out, B3.out⟩
      case round =>
        clear P3 Q3 B3
        obtain ⟨t, ht, rfl, hp, hq, hB⟩ := hrel
        have P3 := Lib.hid hp
        have Q3 := Lib.hid hq
        have B3 := Lib.hid hB
        by_cases hlt : t < zb.length
        · obtain ⟨b, off, rfl, hb, hbc⟩ := HB.out (by intro e; rw [e] at hlt; simp at hlt)
          have hcell := (hB.cell (p := ⟨b, off + t, none⟩) hb).trans (hbc t hlt)
          have HX := Lib.hid (show zb.take (t + 1) = zb.take t ++ [zb[t]] by rw [List.take_succ_eq_append_getElem (by omega)])
          have hjl : (t : Int) < (zb.length : Int) := by omega
          have HL := Lib.hid (show (zb.take t).length = t by simp; omega)
          generalize zb[t] = x at *
          clear hp hq hB hbc
          by_cases hr : t < Y
          · go_wp2_with fail
            refine (PI.send_room Q3.out (by rw [HL.out]; omega) x).mono ?_
            rintro e w3 ⟨rfl, h, hs⟩
            have Q4 := Lib.hid h
            have P4 := Lib.hid (P3.out.other Q3.out HN.out hs)
            have B4 := Lib.hid (below_turn B3.out lq2 ld2 hs)
            clear h hs P3 Q3 B3
            go_wp2_with fail
            go_roundw
            case rel => exact ⟨t + 1, hr, by go_num, P4.out, by rw [HX.out]; exact Q4.out, B4.out⟩
            case measure => simp [intOf]; omega
          · go_wp2_with fail
            refine (PI.send_full Q3.out (by rw [HL.out]; have := HYm.out; omega) x).mono ?_
            rintro e w3 ⟨rfl, hB⟩
            have P4 := Lib.hid (P3.out.later hB)
            have Q4 := Lib.hid (Q3.out.later hB)
            have B4 := Lib.hid (B3.out.trans (hB.mono B3.out.size))
            obtain rfl : t = Y := by omega
            clear hB P3 Q3 B3
            go_wp2_with fail
            obtain ⟨ws, hws⟩ : ∃ ws, zb.take t = ws := ⟨_, rfl⟩
            rw [hws] at Q4
            have HW := Lib.hid hws
            have HWL := Lib.hid (show ws.length = t by rw [← hws]; simp; omega)
            have HYL := Lib.hid (show ys.length = j by rw [← HY.out]; simp; omega)
            obtain ⟨K, hK⟩ : ∃ K, PI.mvN false R ys ws = K := ⟨_, rfl⟩
            have hK1 : K = min j (R - t) := by rw [← hK, ← HYL.out, ← HWL.out]; rfl
            have HK := Lib.hid hK
            clear hws hK
            refine (PI.move_any P4.out Q4.out HN.out).mono ?_
            rintro e w4 ⟨rfl, hp, hq, hs⟩
            rw [HK.out] at hp hq ⊢
            have hB := below_turn2 B4.out lp lc lq2 ld2 hs
            clear P4 Q4 B4 hs
            obtain ⟨us, hus⟩ : ∃ us, ws ++ ys.take K = us := ⟨_, rfl⟩
            rw [hus] at hq
            have HU := Lib.hid hus
            have hul : us.length = t + K := by rw [← hus]; simp [HWL.out, HYL.out]; omega
            have hvl : (ys.drop K).length = j - K := by simp [HYL.out]
            have HUL := Lib.hid hul
            have HVL := Lib.hid hvl
            have P5 := Lib.hid hp
            have Q5 := Lib.hid hq
            have B5 := Lib.hid hB
            have HK1 := Lib.hid hK1
            obtain ⟨D, hD⟩ : ∃ D, D = R - t := ⟨_, rfl⟩
            obtain ⟨T, hT⟩ : ∃ T, T = t + K := ⟨_, rfl⟩
            obtain ⟨E, hE⟩ : ∃ E, E = j - K := ⟨_, rfl⟩
            have hDi : (R : Int) - (t : Int) = (D : Int) := by omega
            have hTi : (t : Int) + (K : Int) = (T : Int) := by omega
            have hEi : (j : Int) - (K : Int) = (E : Int) := by omega
            have hcs : ((D : Int) < (j : Int) ∧ K = D) ∨ (¬ (D : Int) < (j : Int) ∧ K = j) := by omega
            have hji : (j : Int) ≤ 60 := hX2
            have hRR : (R : Int) ≤ 32 := by have := HRR.out.2; omega
            have hti : (t : Int) ≤ 32 := by omega
            have hKi : (K : Int) ≤ 60 := by omega
            have HD := Lib.hid (And.intro hD (And.intro hT hE))
            have hUi : us.length = T := by omega
            have hVi : (ys.drop K).length = E := by omega
            clear hp hq hB hK1 hus hul hvl hD hT hE hX2
            have HDi := Lib.hid hDi
            have HEi := Lib.hid hEi
            have hgo : ((D : Int) < (j : Int) ∧ ((K : Int) != (D : Int)) = false) ∨ (¬ (D : Int) < (j : Int) ∧ ((K : Int) != (j : Int)) = false) := by
              rcases hcs with ⟨h1, h2⟩ | ⟨h1, h2⟩
              · exact Or.inl ⟨h1, by rw [h2]; simp⟩
              · exact Or.inr ⟨h1, by rw [h2]; simp⟩
            clear hcs
            rcases hgo with ⟨hg1, hg2⟩ | ⟨hg1, hg2⟩
            all_goals (
              go_wp2_with fail
              refine (PI.len_any Q5.out).mono ?_
              rintro e w' ⟨rfl, rfl⟩
              rw [hUi]
              go_wp2_with fail
              refine (PI.len_any P5.out).mono ?_
              rintro e w' ⟨rfl, rfl⟩
              rw [hVi]
              go_wp2_with fail
              clear hg1 hg2 hDi hEi
              go_loopw [16] (fun i wr => ∃ m : Nat, m ≤ T ∧ i = .int .i64 m ∧ PI.PipeAt q d R false (us.drop m) wr ∧ PI.PipeAt p c 60 false (ys.drop K) wr ∧ Below w.heap.size w wr) (fun i _ => T - (intOf i).toNat)
              case atStart => exact ⟨0, Nat.zero_le _, rfl, Q5.out, P5.out, B5.out⟩
              case round =>
                clear P5 Q5 B5
                obtain ⟨m, hm, rfl, hq, hp, hB⟩ := hrel
                have P6 := Lib.hid hp
                have B6 := Lib.hid hB
                by_cases hlm : m < T
                · rw [List.drop_eq_getElem_cons (by omega : m < us.length)] at hq
                  have hmi : (m : Int) < (T : Int) := by omega
                  by_cases hmt : m < t
                  · have hx : us[m]'(by omega) = zb[m]'(by omega) := by
                      have h1 := HU.out
                      have h2 := HW.out
                      subst h1
                      rw [List.getElem_append_left (by rw [HWL.out]; exact hmt)]
                      subst h2
                      rw [List.getElem_take]
                    rw [hx] at hq
                    obtain ⟨b', off', e, hb', hbc'⟩ := HB.out (by intro e; rw [e] at hY1; simp at hY1; omega)
                    have HC := Lib.hid (fun (v : World) (h : Below w.heap.size w v) => (h.cell (p := ⟨b', off' + m, none⟩) hb').trans (hbc' m (by omega)))
                    cases e
                    have hmti : (m : Int) < (t : Int) := by omega
                    have hml : (m : Int) < (zb.length : Int) := by omega
                    have hge : decide ((m : Int) ≥ (t : Int)) = false := by simp; omega
                    have Q6 := Lib.hid hq
                    clear hq hp hB hx hbc'
                    generalize zb[m]'(by omega) = x at *
                    go_wp2_with fail
                    refine (PI.take_some Q6.out).mono ?_
                    rintro e w5 ⟨rfl, h, hs⟩
                    have P7 := Lib.hid (P6.out.other Q6.out HN.out hs)
                    have Q7 := Lib.hid h
                    have hB7 := below_turn B6.out lq2 ld2 hs
                    have hc2 := HC.out _ hB7
                    have B7 := Lib.hid hB7
                    clear h hs P6 Q6 B6 hB7 HC
                    go_wp2_with fail
                    go_roundw
                    case rel => exact ⟨m + 1, hlm, by go_num, Q7.out, P7.out, B7.out⟩
                    case measure => simp [intOf]; omega
                  · have hKj : K ≤ j := by have := HK1.out; omega
                    obtain ⟨g, hg⟩ : ∃ g, m - t = g := ⟨_, rfl⟩
                    have hgl : g < za.length := by omega
                    have hx : us[m]'(by omega) = za[g]'hgl := by
                      have h1 := HU.out
                      have h2 := HY.out
                      subst h1
                      subst hg
                      rw [List.getElem_append_right (by rw [HWL.out]; omega)]
                      rw [List.getElem_take]
                      subst h2
                      rw [List.getElem_take]
                      simp only [HWL.out]
                    rw [hx] at hq
                    obtain ⟨b', off', e, hb', hbc'⟩ := HA.out (by intro e; rw [e] at hgl; simp at hgl)
                    have HC := Lib.hid (fun (v : World) (h : Below w.heap.size w v) => (h.cell (p := ⟨b', off' + g, none⟩) hb').trans (hbc' g hgl))
                    cases e
                    have hmti : ¬ (m : Int) < (t : Int) := by omega
                    have hge : (t : Int) ≤ (m : Int) := by omega
                    have hgi : (m : Int) - (t : Int) = (g : Int) := by omega
                    have hml : (g : Int) < (za.length : Int) := by omega
                    have Q6 := Lib.hid hq
                    clear hq hp hB hx hbc' hg
                    generalize za[g]'hgl = x at *
                    clear hgl hKj
                    go_wp2_with fail
                    refine (PI.take_some Q6.out).mono ?_
                    rintro e w5 ⟨rfl, h, hs⟩
                    have P7 := Lib.hid (P6.out.other Q6.out HN.out hs)
                    have Q7 := Lib.hid h
                    have hB7 := below_turn B6.out lq2 ld2 hs
                    have hc2 := HC.out _ hB7
                    have B7 := Lib.hid hB7
                    clear h hs P6 Q6 B6 hB7 HC
                    go_wp2_with fail
                    go_roundw
                    case rel => exact ⟨m + 1, hlm, by go_num, Q7.out, P7.out, B7.out⟩
                    case measure => simp [intOf]; omega
                · obtain rfl : m = T := by omega
                  have hKj : K ≤ j := by have := HK1.out; omega
                  clear hq hp hB
                  go_wp2_with fail
                  go_loopw [19] (fun i wr => ∃ n : Nat, K ≤ n ∧ n ≤ j ∧ i = .int .i64 n ∧ PI.PipeAt p c 60 false (ys.drop n) wr ∧ Below w.heap.size w wr) (fun i _ => j - (intOf i).toNat)
                  case atStart => exact ⟨K, Nat.le_refl _, hKj, rfl, P6.out, B6.out⟩
                  case round =>
                    clear P6 B6
                    obtain ⟨n, hn1, hn2, rfl, hp, hB⟩ := hrel
                    have B6 := Lib.hid hB
                    by_cases hln : n < j
                    · rw [List.drop_eq_getElem_cons (by rw [HYL.out]; exact hln)] at hp
                      have hx : ys[n]'(by rw [HYL.out]; exact hln) = za[n]'(by omega) := by
                        have h2 := HY.out
                        subst h2
                        rw [List.getElem_take]
                      rw [hx] at hp
                      obtain ⟨b', off', e, hb', hbc'⟩ := HA.out (by intro e; rw [e] at hX1; simp at hX1; omega)
                      have HC := Lib.hid (fun (v : World) (h : Below w.heap.size w v) => (h.cell (p := ⟨b', off' + n, none⟩) hb').trans (hbc' n (by omega)))
                      cases e
                      have hni : (n : Int) < (j : Int) := by omega
                      have hnl : (n : Int) < (za.length : Int) := by omega
                      have P6 := Lib.hid hp
                      clear hp hB hx hbc'
                      generalize za[n]'(by omega) = x at *
                      go_wp2_with fail
                      refine (PI.take_some P6.out).mono ?_
                      rintro e w5 ⟨rfl, h, hs⟩
                      have P7 := Lib.hid h
                      have hB7 := below_turn B6.out lp lc hs
                      have hc2 := HC.out _ hB7
                      have B7 := Lib.hid hB7
                      clear h hs P6 B6 hB7 HC
                      go_wp2_with fail
                      go_roundw
                      case rel => exact ⟨n + 1, by omega, hln, by go_num, P7.out, B7.out⟩
                      case measure => simp [intOf]; omega
                    · obtain rfl : n = j := by omega
                      clear hp hB
                      go_wp2_with fail
                      refine (fixed_any _).mono ?_
                      rintro e w9 ⟨rfl, hB⟩
                      have B7 := Lib.hid (B6.out.trans (hB.mono B6.out.size))
                      clear hB B6
                      go_wp2_with fail
                      go_ret
                      exact ⟨rfl, B7.out⟩)
        · have P4 := P3
          have Q4 := Q3
          have B4 := B3
          obtain rfl : t = Y := by have := HYm.out; omega
          clear hp hq hB P3 Q3 B3
          go_wp2_with fail
          obtain ⟨ws, hws⟩ : ∃ ws, zb.take t = ws := ⟨_, rfl⟩
          rw [hws] at Q4
          have HW := Lib.hid hws
          have HWL := Lib.hid (show ws.length = t by rw [← hws]; simp; omega)
          have HYL := Lib.hid (show ys.length = j by rw [← HY.out]; simp; omega)
          obtain ⟨K, hK⟩ : ∃ K, PI.mvN false R ys ws = K := ⟨_, rfl⟩
          have hK1 : K = min j (R - t) := by rw [← hK, ← HYL.out, ← HWL.out]; rfl
          have HK := Lib.hid hK
          clear hws hK
          refine (PI.move_any P4.out Q4.out HN.out).mono ?_
          rintro e w4 ⟨rfl, hp, hq, hs⟩
          rw [HK.out] at hp hq ⊢
          have hB := below_turn2 B4.out lp lc lq2 ld2 hs
          clear P4 Q4 B4 hs
          obtain ⟨us, hus⟩ : ∃ us, ws ++ ys.take K = us := ⟨_, rfl⟩
          rw [hus] at hq
          have HU := Lib.hid hus
          have hul : us.length = t + K := by rw [← hus]; simp [HWL.out, HYL.out]; omega
          have hvl : (ys.drop K).length = j - K := by simp [HYL.out]
          have HUL := Lib.hid hul
          have HVL := Lib.hid hvl
          have P5 := Lib.hid hp
          have Q5 := Lib.hid hq
          have B5 := Lib.hid hB
          have HK1 := Lib.hid hK1
          obtain ⟨D, hD⟩ : ∃ D, D = R - t := ⟨_, rfl⟩
          obtain ⟨T, hT⟩ : ∃ T, T = t + K := ⟨_, rfl⟩
          obtain ⟨E, hE⟩ : ∃ E, E = j - K := ⟨_, rfl⟩
          have hDi : (R : Int) - (t : Int) = (D : Int) := by omega
          have hTi : (t : Int) + (K : Int) = (T : Int) := by omega
          have hEi : (j : Int) - (K : Int) = (E : Int) := by omega
          have hcs : ((D : Int) < (j : Int) ∧ K = D) ∨ (¬ (D : Int) < (j : Int) ∧ K = j) := by omega
          have hji : (j : Int) ≤ 60 := hX2
          have hRR : (R : Int) ≤ 32 := by have := HRR.out.2; omega
          have hti : (t : Int) ≤ 32 := by omega
          have hKi : (K : Int) ≤ 60 := by omega
          have HD := Lib.hid (And.intro hD (And.intro hT hE))
          have hUi : us.length = T := by omega
          have hVi : (ys.drop K).length = E := by omega
          clear hp hq hB hK1 hus hul hvl hD hT hE hX2
          have HDi := Lib.hid hDi
          have HEi := Lib.hid hEi
          have hgo : ((D : Int) < (j : Int) ∧ ((K : Int) != (D : Int)) = false) ∨ (¬ (D : Int) < (j : Int) ∧ ((K : Int) != (j : Int)) = false) := by
            rcases hcs with ⟨h1, h2⟩ | ⟨h1, h2⟩
            · exact Or.inl ⟨h1, by rw [h2]; simp⟩
            · exact Or.inr ⟨h1, by rw [h2]; simp⟩
          clear hcs
          rcases hgo with ⟨hg1, hg2⟩ | ⟨hg1, hg2⟩
          all_goals (
            go_wp2_with fail
            refine (PI.len_any Q5.out).mono ?_
            rintro e w' ⟨rfl, rfl⟩
            rw [hUi]
            go_wp2_with fail
            refine (PI.len_any P5.out).mono ?_
            rintro e w' ⟨rfl, rfl⟩
            rw [hVi]
            go_wp2_with fail
            clear hg1 hg2 hDi hEi
            go_loopw [16] (fun i wr => ∃ m : Nat, m ≤ T ∧ i = .int .i64 m ∧ PI.PipeAt q d R false (us.drop m) wr ∧ PI.PipeAt p c 60 false (ys.drop K) wr ∧ Below w.heap.size w wr) (fun i _ => T - (intOf i).toNat)
            case atStart => exact ⟨0, Nat.zero_le _, rfl, Q5.out, P5.out, B5.out⟩
            case round =>
              clear P5 Q5 B5
              obtain ⟨m, hm, rfl, hq, hp, hB⟩ := hrel
              have P6 := Lib.hid hp
              have B6 := Lib.hid hB
              by_cases hlm : m < T
              · rw [List.drop_eq_getElem_cons (by omega : m < us.length)] at hq
                have hmi : (m : Int) < (T : Int) := by omega
                by_cases hmt : m < t
                · have hx : us[m]'(by omega) = zb[m]'(by omega) := by
                    have h1 := HU.out
                    have h2 := HW.out
                    subst h1
                    rw [List.getElem_append_left (by rw [HWL.out]; exact hmt)]
                    subst h2
                    rw [List.getElem_take]
                  rw [hx] at hq
                  obtain ⟨b', off', e, hb', hbc'⟩ := HB.out (by intro e; rw [e] at hY1; simp at hY1; omega)
                  have HC := Lib.hid (fun (v : World) (h : Below w.heap.size w v) => (h.cell (p := ⟨b', off' + m, none⟩) hb').trans (hbc' m (by omega)))
                  cases e
                  have hmti : (m : Int) < (t : Int) := by omega
                  have hml : (m : Int) < (zb.length : Int) := by omega
                  have hge : decide ((m : Int) ≥ (t : Int)) = false := by simp; omega
                  have Q6 := Lib.hid hq
                  clear hq hp hB hx hbc'
                  generalize zb[m]'(by omega) = x at *
                  go_wp2_with fail
                  refine (PI.take_some Q6.out).mono ?_
                  rintro e w5 ⟨rfl, h, hs⟩
                  have P7 := Lib.hid (P6.out.other Q6.out HN.out hs)
                  have Q7 := Lib.hid h
                  have hB7 := below_turn B6.out lq2 ld2 hs
                  have hc2 := HC.out _ hB7
                  have B7 := Lib.hid hB7
                  clear h hs P6 Q6 B6 hB7 HC
                  go_wp2_with fail
                  go_roundw
                  case rel => exact ⟨m + 1, hlm, by go_num, Q7.out, P7.out, B7.out⟩
                  case measure => simp [intOf]; omega
                · have hKj : K ≤ j := by have := HK1.out; omega
                  obtain ⟨g, hg⟩ : ∃ g, m - t = g := ⟨_, rfl⟩
                  have hgl : g < za.length := by omega
                  have hx : us[m]'(by omega) = za[g]'hgl := by
                    have h1 := HU.out
                    have h2 := HY.out
                    subst h1
                    subst hg
                    rw [List.getElem_append_right (by rw [HWL.out]; omega)]
                    rw [List.getElem_take]
                    subst h2
                    rw [List.getElem_take]
                    simp only [HWL.out]
                  rw [hx] at hq
                  obtain ⟨b', off', e, hb', hbc'⟩ := HA.out (by intro e; rw [e] at hgl; simp at hgl)
                  have HC := Lib.hid (fun (v : World) (h : Below w.heap.size w v) => (h.cell (p := ⟨b', off' + g, none⟩) hb').trans (hbc' g hgl))
                  cases e
                  have hmti : ¬ (m : Int) < (t : Int) := by omega
                  have hge : (t : Int) ≤ (m : Int) := by omega
                  have hgi : (m : Int) - (t : Int) = (g : Int) := by omega
                  have hml : (g : Int) < (za.length : Int) := by omega
                  have Q6 := Lib.hid hq
                  clear hq hp hB hx hbc' hg
                  generalize za[g]'hgl = x at *
                  clear hgl hKj
                  go_wp2_with fail
                  refine (PI.take_some Q6.out).mono ?_
                  rintro e w5 ⟨rfl, h, hs⟩
                  have P7 := Lib.hid (P6.out.other Q6.out HN.out hs)
                  have Q7 := Lib.hid h
                  have hB7 := below_turn B6.out lq2 ld2 hs
                  have hc2 := HC.out _ hB7
                  have B7 := Lib.hid hB7
                  clear h hs P6 Q6 B6 hB7 HC
                  go_wp2_with fail
                  go_roundw
                  case rel => exact ⟨m + 1, hlm, by go_num, Q7.out, P7.out, B7.out⟩
                  case measure => simp [intOf]; omega
              · obtain rfl : m = T := by omega
                have hKj : K ≤ j := by have := HK1.out; omega
                clear hq hp hB
                go_wp2_with fail
                go_loopw [19] (fun i wr => ∃ n : Nat, K ≤ n ∧ n ≤ j ∧ i = .int .i64 n ∧ PI.PipeAt p c 60 false (ys.drop n) wr ∧ Below w.heap.size w wr) (fun i _ => j - (intOf i).toNat)
                case atStart => exact ⟨K, Nat.le_refl _, hKj, rfl, P6.out, B6.out⟩
                case round =>
                  clear P6 B6
                  obtain ⟨n, hn1, hn2, rfl, hp, hB⟩ := hrel
                  have B6 := Lib.hid hB
                  by_cases hln : n < j
                  · rw [List.drop_eq_getElem_cons (by rw [HYL.out]; exact hln)] at hp
                    have hx : ys[n]'(by rw [HYL.out]; exact hln) = za[n]'(by omega) := by
                      have h2 := HY.out
                      subst h2
                      rw [List.getElem_take]
                    rw [hx] at hp
                    obtain ⟨b', off', e, hb', hbc'⟩ := HA.out (by intro e; rw [e] at hX1; simp at hX1; omega)
                    have HC := Lib.hid (fun (v : World) (h : Below w.heap.size w v) => (h.cell (p := ⟨b', off' + n, none⟩) hb').trans (hbc' n (by omega)))
                    cases e
                    have hni : (n : Int) < (j : Int) := by omega
                    have hnl : (n : Int) < (za.length : Int) := by omega
                    have P6 := Lib.hid hp
                    clear hp hB hx hbc'
                    generalize za[n]'(by omega) = x at *
                    go_wp2_with fail
                    refine (PI.take_some P6.out).mono ?_
                    rintro e w5 ⟨rfl, h, hs⟩
                    have P7 := Lib.hid h
                    have hB7 := below_turn B6.out lp lc hs
                    have hc2 := HC.out _ hB7
                    have B7 := Lib.hid hB7
                    clear h hs P6 B6 hB7 HC
                    go_wp2_with fail
                    go_roundw
                    case rel => exact ⟨n + 1, by omega, hln, by go_num, P7.out, B7.out⟩
                    case measure => simp [intOf]; omega
                  · obtain rfl : n = j := by omega
                    clear hp hB
                    go_wp2_with fail
                    refine (fixed_any _).mono ?_
                    rintro e w9 ⟨rfl, hB⟩
                    have B7 := Lib.hid (B6.out.trans (hB.mono B6.out.size))
                    clear hB B6
                    go_wp2_with fail
                    go_ret
                    exact ⟨rfl, B7.out⟩)

set_option maxRecDepth 100000 in
/-- WHAT THE WALK GIVES, for every argument that can be read. -/
theorem contract (H : Type) (enc : TypeId × Value → H) (W : World) (base : Nat) (args : Array Value) (ds gs : List (DataW H)) (before : List MemPlace)
    (hval : ∀ (j : Nat) t v, Try.f7.params[j]? = some t → args[j]? = some v → Value.okWide Try.prog W .any base t v)
    (hW : DataW.Whole enc Try.prog Try.f7.params.toList Rows.pipeMovesSpec.vars false W args.toList ds gs before)
    (hreach : (DataW.weightsEach Try.prog (Try.f7.params.toList) ds).all (· ≤ reachBytes) = true) :
    Calls Try.prog 7 args W fun e W' => ∃ v, e = .returned v ∧ Rows.pipeMovesSpec.post enc Try.prog Try.f7 false true false false W args v W' := by
  have hW' := hW
  obtain ⟨p, q, hA0, hV, rfl, hfz, hnd⟩ := hW
  have hA : DataW.TrodAll enc Try.prog W 0 (fun _ => true) true Try.f7.params.toList args.toList ds p := hA0
  rw [Try.params7] at hA hval hreach
  obtain ⟨v0, v1, v2, d0, d1, d2, p0, p1, p2, rfl, rfl, rfl, h0, h1, h2⟩ := trodAll_three hA
  obtain ⟨rfl, rfl⟩ := trodVars_none hV
  obtain ⟨n2, rfl, rfl, rfl, wn2⟩ := open_int Try.underlying3 (hval 2 3 v2 rfl rfl) h2
  have r2 := int_range wn2
  have lt0 : ∀ x ∈ p0, x.block < W.heap.size := fun x hx => hW'.lt x (by simp [hx])
  obtain ⟨l0, k0, r0⟩ := ints_open (hval 0 29 v0 rfl rfl) h0 lt0 hreach (j := 0) rfl rfl
  have lt1 : ∀ x ∈ p1, x.block < W.heap.size := fun x hx => hW'.lt x (by simp [hx])
  obtain ⟨l1, k1, r1⟩ := ints_open (hval 1 29 v1 rfl rfl) h1 lt1 hreach (j := 1) rfl rfl
  clear hA0 hval
  simp only [List.append_nil] at hW'
  refine (walk v0 l0 v1 l1 n2 W k0 r0 k1 r1 r2).mono fun e W' ⟨he, hB⟩ => ?_
  subst he
  exact ⟨_, rfl, post_of_below (pa := p0 ++ (p1 ++ ([]))) (pv := []) hW' (fun _ _ _ => trodAll_mk1 (shut_bool Try.underlying4 _)) (fun sp hsp => trodAll_mk3 (WideElems.Trod_stays laidOut (by kernel_rfl) (of_decide_eq_true (by kernel_rfl)) h0 (fun x hx => hB.same (lt0 x hx)) (fun x hx => hsp x (by simp [hx]))) (WideElems.Trod_stays laidOut (by kernel_rfl) (of_decide_eq_true (by kernel_rfl)) h1 (fun x hx => hB.same (lt1 x hx)) (fun x hx => hsp x (by simp [hx]))) (shut_int Try.underlying3 wn2)) (fun _ _ => rfl) (by simp) hB (ok_one (by kernel_rfl) rfl (okWide_bool_mk Try.underlying4 _))⟩

theorem reads (os : Os) {H : Type} (enc : TypeId × Value → H) : ∃ places, DataW.whole enc Try.prog ((laidWorld os).forCall (fun _ _ => 0) ⟨#[], #[.slice none 0 0, .slice none 0 0, .int .i64 0], []⟩).memory Try.f7.params.toList Rows.pipeMovesSpec.vars false (#[.slice none 0 0, .slice none 0 0, .int .i64 0] : Array Value).toList 8 = some ([.nil, .nil, .lit (.int .i64 0)], [], places) :=
  ⟨[], by kernel_rfl⟩

set_option maxRecDepth 100000 in
theorem lifted (os : Os) (started : os.Started) (H : Type) (enc : TypeId × Value → H) (F : Stop.Interp) :
    ReturnsInHanded {} Try.checked os 7 .any ((OpenSpec.ofChange Rows.pipeMovesSpec).preRow enc Try.prog Try.f7 Rows.pipeMovesRow.domain false Rows.pipeMovesRow.laid) (((OpenSpec.ofChange Rows.pipeMovesSpec).at F).post enc Try.prog Try.f7 false true false false) := by
  obtain ⟨places, hx⟩ := reads os enc
  refine returnsInHanded_of_row (C := Try.checked) (s := OpenSpec.ofChange Rows.pipeMovesSpec) own started (by kernel_rfl) Try.func7
    (witness_row_at (enc := enc) (C := Try.checked) false (laidWorld os) #[.slice none 0 0, .slice none 0 0, .int .i64 0] rfl (by kernel_rfl) (by kernel_rfl) (by kernel_rfl)
      (OpenSpec.preRow_of_cond 8 hx (by kernel_rfl) (fun k hk => by cases hk) (by kernel_rfl) (laid_met os _))) ?_
  intro W base args ds gs before hval hW _ hcond hreach hL _ _
  obtain ⟨p, q, hA0, hV, hpq, hfz, hnd⟩ := id hW
  obtain ⟨rfl, _⟩ := trodVars_none hV
  rw [List.append_nil] at hreach
  exact contract H enc W base args ds [] before hval hW hreach

theorem said : Rows.PipeMovesSaid :=
  OpenClaim.holds_of_cond 7 Try.f7 rfl rfl rfl rfl rfl rfl rfl ⟨rfl, rfl, rfl, rfl, rfl⟩ rfl rfl rfl rfl rfl (by kernel_rfl) Try.func7 (by kernel_rfl)
    (of_decide_eq_true (by kernel_rfl)) (by unfold Func.isWrapper; first | (rw [if_pos (by decide +kernel)]; kernel_rfl) | (rw [if_neg (by decide +kernel)]; exact ⟨rfl, rfl⟩))
    (fun os started H enc _ F => by rw [OpenClaim.pre_eq_preRow]; exact lifted os started H enc F)



end Go.Proofs.Ytmlemgifejefiaa.moves
