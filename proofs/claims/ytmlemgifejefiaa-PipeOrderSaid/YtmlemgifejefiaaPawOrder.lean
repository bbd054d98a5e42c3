/-
  Things that are sent are taken in their order, each once, none is lost, however many are taken between, and through two pipes: for every list of texts, of which the first three hundred are sent, and every list of numbers for how many are taken between.
  Conditions: none besides the row's own.
-/
import Derived.Test.YtmlemgifejefiaaPipF
import Derived.Test.YtmlemgifejefiaaKitI
import Derived.Test.YtmlemgifejefiaaKitS
import Derived.OwnWalk
namespace Go.Proofs.Ytmlemgifejefiaa.order
open Go.ChangeShapes Go.WideShapes Go.ChangeAt Go.RowKit Go

theorem drop_take_snoc {α : Type} (zs : List α) (t h : Nat) (hh : h ≤ t) (ht : t < zs.length) : (zs.take (t + 1)).drop h = (zs.take t).drop h ++ [zs[t]] := by
  rw [List.take_succ_eq_append_getElem ht, List.drop_append_of_le_length (by rw [List.length_take]; omega)]
theorem drop_take_cons {α : Type} (zs : List α) (t h : Nat) (hh : h < t) (ht : t ≤ zs.length) : (zs.take t).drop h = zs[h] :: (zs.take t).drop (h + 1) := by
  rw [List.drop_eq_getElem_cons (by rw [List.length_take]; omega), List.getElem_take]
theorem drop_take_len {α : Type} (zs : List α) (t h : Nat) (ht : t ≤ zs.length) : ((zs.take t).drop h).length = t - h := by
  rw [List.length_drop, List.length_take]; omega

set_option maxRecDepth 100000 in
set_option maxHeartbeats 8000000 in
theorem walk (va : Value) (zs : List ByteArray) (vb : Value) (zb : List Int) (w : World) (hOa : StrsAt w va zs) (hza : zs.length ≤ 140737488351232 ∧ ∀ s ∈ zs, s.size ≤ 140737488351232)
    (hOb : IntsAt w vb zb) (hzb : zb.length ≤ 140737488351232 ∧ ∀ z ∈ zb, IntOk z) :
    Calls Try.prog 5 #[va, vb] w fun r w' => r = .returned (.bool true) ∧ Below w.heap.size w w' := by
  obtain ⟨aa, capa, rfl, ha⟩ := hOa
  obtain ⟨ab, capb, rfl, hb⟩ := hOb
  have HA := Lib.hid ha
  have HB := Lib.hid hb
  have hza1 := hza.1
  have hzb1 := hzb.1
  obtain ⟨N, hN1, hN2, hm1, hm2, -⟩ := cut_to zs.length 300 (by omega)
  have HNN := Lib.hid (And.intro hN1 hN2)
  clear ha hb hza hzb hN1 hN2
  go_enter Try.func5, Try.ntmps5
  go_wp2_with fail
  refine (PS.new_any 4 (by omega) (by omega) _).mono ?_
  rintro e w1 ⟨p, c, rfl, hp, lp, lc, B1⟩
  go_wp2_with fail
  refine (PS.new_any 3 (by omega) (by omega) _).mono ?_
  rintro e w2 ⟨q, d, rfl, hq, lq, ld, B2⟩
  have hn : PS.Two p c q d := ⟨by have := hp.lt_p; omega, by have := hp.lt_c; omega⟩
  have P2 := Lib.hid (hp.later B2)
  have lq2 : w.heap.size ≤ q := Nat.le_trans B1.size lq
  have ld2 : w.heap.size ≤ d := Nat.le_trans B1.size ld
  have B3 := Lib.hid (B1.trans (B2.mono B1.size))
  have Q2 := Lib.hid hq
  have HN := Lib.hid hn
  clear hp hq B1 B2 lq ld hn
  go_wp2_with fail
  clear hm1 hm2
  have hN1 := HNN.out.1
  have hN2 := HNN.out.2
  go_loopw [9, 10, 12] (fun u v i wr => ∃ (at0 h0 i0 : Nat) (A B : List ByteArray), at0 ≤ N ∧ h0 ≤ at0 ∧ i0 ≤ 2000 ∧ i0 ≤ h0 + 300 ∧ u = .int .i64 at0 ∧ v = .int .i64 h0 ∧ i = .int .i64 i0 ∧ PS.PipeAt p c 4 false A wr ∧ PS.PipeAt q d 3 false B wr ∧ B ++ A = (zs.take at0).drop h0 ∧ Below w.heap.size w wr) (fun _ _ i _ => 2000 - (intOf i).toNat)
  case atStart => exact ⟨0, 0, 0, [], [], Nat.zero_le _, Nat.le_refl _, Nat.zero_le _, Nat.zero_le _, rfl, rfl, rfl, P2.out, Q2.out, by simp, B3.out⟩
  case round =>
    clear P2 Q2 B3
    obtain ⟨at0, h0, i0, A, B, h1, h2, h3, h4, rfl, rfl, rfl, hp, hq, hl, hB⟩ := hrel
    have P3 := Lib.hid hp
    have Q3 := Lib.hid hq
    have B3 := Lib.hid hB
    have HL := Lib.hid hl
    clear hp hq hB hl
    by_cases hi : i0 < 2000
    · by_cases hh : h0 < N
      · have hi0 : (i0 : Int) < 2000 := by omega
        have hh0 : (h0 : Int) < (N : Int) := by omega
        go_wp2_with fail
        clear hi0 hh0
        go_loopw [9] (fun u wr => ∃ (at1 : Nat) (A : List ByteArray), h0 ≤ at1 ∧ at1 ≤ N ∧ u = .int .i64 at1 ∧ PS.PipeAt p c 4 false A wr ∧ PS.PipeAt q d 3 false B wr ∧ B ++ A = (zs.take at1).drop h0 ∧ Below w.heap.size w wr) (fun u _ => N - (intOf u).toNat)
        case atStart => exact ⟨at0, A, h2, h1, rfl, P3.out, Q3.out, HL.out, B3.out⟩
        case round =>
          clear P3 Q3 B3 HL h1 h2 A
          obtain ⟨at1, A, h1, h2, rfl, hp, hq, hl, hB⟩ := hrel
          by_cases hat : at1 < N
          · have hati : (at1 : Int) < (N : Int) := by omega
            obtain ⟨b', off', e, hb', hbc'⟩ := HA.out (by intro e; rw [e] at hN1; simp at hN1; omega)
            have hcell := (hB.cell (p := ⟨b', off' + at1, none⟩) hb').trans (hbc' at1 (by omega))
            cases e
            have hal : (at1 : Int) < (zs.length : Int) := by omega
            have HX := Lib.hid (drop_take_snoc zs at1 h0 h1 (by omega))
            have P4 := Lib.hid hp
            have Q4 := Lib.hid hq
            have B4 := Lib.hid hB
            have HL := Lib.hid hl
            clear hp hq hB hl hbc'
            generalize zs[at1]'(by omega) = x at *
            by_cases hr : A.length < 4
            · go_wp2_with fail
              refine (PS.send_room P4.out hr x).mono ?_
              rintro e w3 ⟨rfl, h, hs⟩
              have P5 := Lib.hid h
              have Q5 := Lib.hid (Q4.out.other P4.out HN.out.symm hs)
              have B5 := Lib.hid (below_turn B4.out lp lc hs)
              clear h hs P4 Q4 B4
              go_wp2_with fail
              go_roundw
              case rel => exact ⟨at1 + 1, _, by omega, hat, by go_num, P5.out, Q5.out, by rw [HX.out, ← HL.out, List.append_assoc], B5.out⟩
              case measure => simp [intOf]; omega
            · have hfl := P4.out.fits
              have hf : A.length = 4 := by omega
              go_wp2_with fail
              refine (PS.send_full P4.out hf x).mono ?_
              rintro e w3 ⟨rfl, hB⟩
              have P5 := Lib.hid (P4.out.later hB)
              have Q5 := Lib.hid (Q4.out.later hB)
              have B5 := Lib.hid (B4.out.trans (hB.mono B4.out.size))
              have HS := Lib.hid (show 1 ≤ B.length + A.length by omega)
              clear hB P4 Q4 B4 HX hcell hr hfl hf hati hat
              go_wp2_with fail
              refine (PS.move_any P5.out Q5.out HN.out).mono ?_
              rintro e w4 ⟨rfl, hp, hq, hs⟩
              have hB := below_turn2 B5.out lp lc lq2 ld2 hs
              obtain ⟨K, hK⟩ : ∃ K, PS.mvN false 3 A B = K := ⟨_, rfl⟩
              have hKm : K = min A.length (3 - B.length) := hK.symm
              rw [hK] at hp hq ⊢
              clear hs P5 Q5 B5 hK
              obtain ⟨A2, hA2⟩ : ∃ A2, A.drop K = A2 := ⟨_, rfl⟩
              obtain ⟨B2, hB2⟩ : ∃ B2, B ++ A.take K = B2 := ⟨_, rfl⟩
              have hab : B2 ++ A2 = (zs.take at1).drop h0 := by rw [← HL.out, ← hB2, ← hA2, List.append_assoc, List.take_append_drop]
              have hb2 : 1 ≤ B2.length := by
                rw [← hB2, List.length_append, List.length_take]
                have := HS.out
                omega
              rw [hA2] at hp
              rw [hB2] at hq
              have P6 := Lib.hid hp
              have Q6 := Lib.hid hq
              have B6 := Lib.hid hB
              have HL2 := Lib.hid hab
              have HB2 := Lib.hid hb2
              clear hp hq hB hab hb2 hA2 hB2 hKm HL HS
              by_cases hi2 : i0 < zb.length
              · have hi2i : (i0 : Int) < (zb.length : Int) := by omega
                by_cases hi3 : i0 < 300
                · have hi3i : (i0 : Int) < 300 := by omega
                  obtain ⟨b9, off9, e9, hb9, hbc9⟩ := HB.out (by intro e; rw [e] at hi2; simp at hi2)
                  have hcell9 := (B6.out.cell (p := ⟨b9, off9 + i0, none⟩) hb9).trans (hbc9 i0 hi2)
                  cases e9
                  generalize zb[i0]'(hi2) = y at *
                  obtain ⟨kt, hkt', hkt3⟩ := and_to 3 (by omega) y
                  have hkt : bits .and .i64 y 3 = (kt : Int) := hkt'
                  have HK3 := Lib.hid (show kt ≤ 3 ∧ (i0 < 300 ∨ kt = 1) from ⟨hkt3, Or.inl hi3⟩)
                  clear hkt' hkt3 hbc9 hi2
                  go_wp2_with fail
                  clear hi2i hi3i hkt hcell9
                  have hkt : kt = kt := rfl
                  go_loopw [10, 13] (fun v k wr => ∃ (x1 k1 : Nat) (B : List ByteArray), h0 ≤ x1 ∧ x1 ≤ at1 ∧ x1 + k1 = h0 + kt ∧ v = .int .i64 x1 ∧ k = .int .i64 k1 ∧ PS.PipeAt q d 3 false B wr ∧ PS.PipeAt p c 4 false A2 wr ∧ B ++ A2 = (zs.take at1).drop x1 ∧ (x1 = h0 → B = B2) ∧ Below w.heap.size w wr) (fun _ k _ => (intOf k).toNat)
                  case atStart => exact ⟨h0, kt, B2, Nat.le_refl _, h1, rfl, rfl, by first | rfl | (rw [hkt]; rfl), Q6.out, P6.out, HL2.out, fun _ => rfl, B6.out⟩
                  case round =>
                    clear P6 Q6 B6 HL2 hkt
                    obtain ⟨x1, k1, B, hx1, hx2, hx3, rfl, rfl, hq, hp, hl, hb, hB⟩ := hrel
                    have P8 := Lib.hid hp
                    have HBB := Lib.hid hb
                    by_cases hk : 0 < k1
                    · have hki : (0 : Int) < (k1 : Int) := by omega
                      have hk3 : (k1 : Int) ≤ 3 := by have := HK3.out.1; omega
                      cases B with
                      | cons y B =>
                        have hlen := congrArg List.length hl
                        rw [List.length_append, List.length_cons, drop_take_len _ _ _ (by omega)] at hlen
                        have hxa : x1 < at1 := by omega
                        rw [drop_take_cons zs at1 x1 hxa (by omega), List.cons_append] at hl
                        obtain ⟨hl1, hl2⟩ := List.cons.inj hl
                        rw [hl1] at hq
                        obtain ⟨b', off', e, hb', hbc'⟩ := HA.out (by intro e; rw [e] at hN1; simp at hN1; omega)
                        have HC := Lib.hid (fun (v : World) (h : Below w.heap.size w v) => (h.cell (p := ⟨b', off' + x1, none⟩) hb').trans (hbc' x1 (by omega)))
                        cases e
                        have hxai : (x1 : Int) < (at1 : Int) := by omega
                        have hxl : (x1 : Int) < (zs.length : Int) := by omega
                        have Q7 := Lib.hid hq
                        have B7 := Lib.hid hB
                        have HL7 := Lib.hid hl2
                        clear hp hq hl hl1 hl2 hb hB hbc' hlen
                        generalize zs[x1]'(by omega) = x at *
                        go_wp2_with fail
                        refine (PS.take_some Q7.out).mono ?_
                        rintro e w5 ⟨rfl, h, hs⟩
                        have P9 := Lib.hid (P8.out.other Q7.out HN.out hs)
                        have Q9 := Lib.hid h
                        have hB9 := below_turn B7.out lq2 ld2 hs
                        have hc9 := HC.out _ hB9
                        have B9 := Lib.hid hB9
                        clear h hs P8 Q7 B7 hB9 HC
                        go_wp2_with fail
                        go_roundw
                        case rel => exact ⟨x1 + 1, k1 - 1, B, by omega, hxa, by omega, by go_num, by first | go_num | (congr 1; omega), Q9.out, P9.out, HL7.out, fun e => by omega, B9.out⟩
                        case measure => simp [intOf]; omega
                      | nil =>
                        have HEND := Lib.hid (show i0 + 1 ≤ x1 + 300 by
                          have h5 := HK3.out.2
                          by_cases hx : x1 = h0
                          · have := HBB.out hx
                            have h6 := HB2.out
                            rw [← this] at h6
                            simp at h6
                          · omega)
                        have Q8 := Lib.hid hq
                        have HL8 := Lib.hid hl
                        have B7 := Lib.hid hB
                        obtain ⟨B, hBe⟩ : ∃ B, B = ([] : List ByteArray) := ⟨_, rfl⟩
                        rw [← hBe] at HL8
                        have hcl : True := trivial
                        clear hp hq hl hb hB
                        go_wp2_with fail
                        refine (PS.take_none Q8.out).mono ?_
                        rintro e w' ⟨rfl, rfl⟩
                        rw [← hBe] at Q8
                        have B8 := B7
                        clear hki hBe hk3
                        go_wp2_with fail
                        refine (PS.len_any P8.out).mono ?_
                        rintro e w' ⟨rfl, rfl⟩
                        go_wp2_with fail
                        refine (PS.len_any Q8.out).mono ?_
                        rintro e w' ⟨rfl, rfl⟩
                        have hlen := congrArg List.length HL8.out
                        rw [List.length_append, drop_take_len _ _ _ (by omega)] at hlen
                        obtain ⟨n1, hn1⟩ : ∃ n1, A2.length = n1 := ⟨_, rfl⟩
                        obtain ⟨n2, hn2⟩ : ∃ n2, B.length = n2 := ⟨_, rfl⟩
                        obtain ⟨S, hS⟩ : ∃ S, at1 - x1 = S := ⟨_, rfl⟩
                        have hs1 : (n1 : Int) + (n2 : Int) = (S : Int) := by omega
                        have hs2 : (at1 : Int) - (x1 : Int) = (S : Int) := by omega
                        have hS3 : (S : Int) ≤ 300 := by omega
                        have ha3 : (at1 : Int) ≤ 300 := by omega
                        have hx3 : (x1 : Int) ≤ 300 := by omega
                        have hi3 : (i0 : Int) < 2000 := by omega
                        have hn1i : (n1 : Int) ≤ 300 := by omega
                        have hn2i : (n2 : Int) ≤ 300 := by omega
                        have HS1 := Lib.hid (And.intro hx2 HEND.out)
                        rw [hn1, hn2]
                        clear hlen hn1 hn2 hS HEND
                        go_wp2_with fail
                        go_roundw
                        case rel => exact ⟨at1, x1, i0 + 1, A2, B, h2, HS1.out.1, by omega, HS1.out.2, rfl, rfl, by go_num, P8.out, Q8.out, HL8.out, B8.out⟩
                        case measure => simp [intOf]; omega
                    · obtain rfl : k1 = 0 := by omega
                      have HEND := Lib.hid (show i0 + 1 ≤ x1 + 300 by
                        have h5 := HK3.out.2
                        omega)
                      have Q8 := Lib.hid hq
                      have HL8 := Lib.hid hl
                      have B8 := Lib.hid hB
                      clear hp hq hl hb hB
                      go_wp2_with fail
                      refine (PS.len_any P8.out).mono ?_
                      rintro e w' ⟨rfl, rfl⟩
                      go_wp2_with fail
                      refine (PS.len_any Q8.out).mono ?_
                      rintro e w' ⟨rfl, rfl⟩
                      have hlen := congrArg List.length HL8.out
                      rw [List.length_append, drop_take_len _ _ _ (by omega)] at hlen
                      obtain ⟨n1, hn1⟩ : ∃ n1, A2.length = n1 := ⟨_, rfl⟩
                      obtain ⟨n2, hn2⟩ : ∃ n2, B.length = n2 := ⟨_, rfl⟩
                      obtain ⟨S, hS⟩ : ∃ S, at1 - x1 = S := ⟨_, rfl⟩
                      have hs1 : (n1 : Int) + (n2 : Int) = (S : Int) := by omega
                      have hs2 : (at1 : Int) - (x1 : Int) = (S : Int) := by omega
                      have hS3 : (S : Int) ≤ 300 := by omega
                      have ha3 : (at1 : Int) ≤ 300 := by omega
                      have hx3 : (x1 : Int) ≤ 300 := by omega
                      have hi3 : (i0 : Int) < 2000 := by omega
                      have hn1i : (n1 : Int) ≤ 300 := by omega
                      have hn2i : (n2 : Int) ≤ 300 := by omega
                      have HS1 := Lib.hid (And.intro hx2 HEND.out)
                      rw [hn1, hn2]
                      clear hlen hn1 hn2 hS HEND
                      go_wp2_with fail
                      go_roundw
                      case rel => exact ⟨at1, x1, i0 + 1, A2, B, h2, HS1.out.1, by omega, HS1.out.2, rfl, rfl, by go_num, P8.out, Q8.out, HL8.out, B8.out⟩
                      case measure => simp [intOf]; omega
                · have hi3i : ¬ (i0 : Int) < 300 := by omega
                  go_wp2_with fail
                  clear hi2i hi3i
                  obtain ⟨kt, hkt⟩ : ∃ kt : Nat, kt = 1 := ⟨_, rfl⟩
                  have HK3 := Lib.hid (show kt ≤ 3 ∧ (i0 < 300 ∨ kt = 1) from ⟨by omega, Or.inr hkt⟩)
                  go_loopw [10, 13] (fun v k wr => ∃ (x1 k1 : Nat) (B : List ByteArray), h0 ≤ x1 ∧ x1 ≤ at1 ∧ x1 + k1 = h0 + kt ∧ v = .int .i64 x1 ∧ k = .int .i64 k1 ∧ PS.PipeAt q d 3 false B wr ∧ PS.PipeAt p c 4 false A2 wr ∧ B ++ A2 = (zs.take at1).drop x1 ∧ (x1 = h0 → B = B2) ∧ Below w.heap.size w wr) (fun _ k _ => (intOf k).toNat)
                  case atStart => exact ⟨h0, kt, B2, Nat.le_refl _, h1, rfl, rfl, by first | rfl | (rw [hkt]; rfl), Q6.out, P6.out, HL2.out, fun _ => rfl, B6.out⟩
                  case round =>
                    clear P6 Q6 B6 HL2 hkt
                    obtain ⟨x1, k1, B, hx1, hx2, hx3, rfl, rfl, hq, hp, hl, hb, hB⟩ := hrel
                    have P8 := Lib.hid hp
                    have HBB := Lib.hid hb
                    by_cases hk : 0 < k1
                    · have hki : (0 : Int) < (k1 : Int) := by omega
                      have hk3 : (k1 : Int) ≤ 3 := by have := HK3.out.1; omega
                      cases B with
                      | cons y B =>
                        have hlen := congrArg List.length hl
                        rw [List.length_append, List.length_cons, drop_take_len _ _ _ (by omega)] at hlen
                        have hxa : x1 < at1 := by omega
                        rw [drop_take_cons zs at1 x1 hxa (by omega), List.cons_append] at hl
                        obtain ⟨hl1, hl2⟩ := List.cons.inj hl
                        rw [hl1] at hq
                        obtain ⟨b', off', e, hb', hbc'⟩ := HA.out (by intro e; rw [e] at hN1; simp at hN1; omega)
                        have HC := Lib.hid (fun (v : World) (h : Below w.heap.size w v) => (h.cell (p := ⟨b', off' + x1, none⟩) hb').trans (hbc' x1 (by omega)))
                        cases e
                        have hxai : (x1 : Int) < (at1 : Int) := by omega
                        have hxl : (x1 : Int) < (zs.length : Int) := by omega
                        have Q7 := Lib.hid hq
                        have B7 := Lib.hid hB
                        have HL7 := Lib.hid hl2
                        clear hp hq hl hl1 hl2 hb hB hbc' hlen
                        generalize zs[x1]'(by omega) = x at *
                        go_wp2_with fail
                        refine (PS.take_some Q7.out).mono ?_
                        rintro e w5 ⟨rfl, h, hs⟩
                        have P9 := Lib.hid (P8.out.other Q7.out HN.out hs)
                        have Q9 := Lib.hid h
                        have hB9 := below_turn B7.out lq2 ld2 hs
                        have hc9 := HC.out _ hB9
                        have B9 := Lib.hid hB9
                        clear h hs P8 Q7 B7 hB9 HC
                        go_wp2_with fail
                        go_roundw
                        case rel => exact ⟨x1 + 1, k1 - 1, B, by omega, hxa, by omega, by go_num, by first | go_num | (congr 1; omega), Q9.out, P9.out, HL7.out, fun e => by omega, B9.out⟩
                        case measure => simp [intOf]; omega
                      | nil =>
                        have HEND := Lib.hid (show i0 + 1 ≤ x1 + 300 by
                          have h5 := HK3.out.2
                          by_cases hx : x1 = h0
                          · have := HBB.out hx
                            have h6 := HB2.out
                            rw [← this] at h6
                            simp at h6
                          · omega)
                        have Q8 := Lib.hid hq
                        have HL8 := Lib.hid hl
                        have B7 := Lib.hid hB
                        obtain ⟨B, hBe⟩ : ∃ B, B = ([] : List ByteArray) := ⟨_, rfl⟩
                        rw [← hBe] at HL8
                        have hcl : True := trivial
                        clear hp hq hl hb hB
                        go_wp2_with fail
                        refine (PS.take_none Q8.out).mono ?_
                        rintro e w' ⟨rfl, rfl⟩
                        rw [← hBe] at Q8
                        have B8 := B7
                        clear hki hBe hk3
                        go_wp2_with fail
                        refine (PS.len_any P8.out).mono ?_
                        rintro e w' ⟨rfl, rfl⟩
                        go_wp2_with fail
                        refine (PS.len_any Q8.out).mono ?_
                        rintro e w' ⟨rfl, rfl⟩
                        have hlen := congrArg List.length HL8.out
                        rw [List.length_append, drop_take_len _ _ _ (by omega)] at hlen
                        obtain ⟨n1, hn1⟩ : ∃ n1, A2.length = n1 := ⟨_, rfl⟩
                        obtain ⟨n2, hn2⟩ : ∃ n2, B.length = n2 := ⟨_, rfl⟩
                        obtain ⟨S, hS⟩ : ∃ S, at1 - x1 = S := ⟨_, rfl⟩
                        have hs1 : (n1 : Int) + (n2 : Int) = (S : Int) := by omega
                        have hs2 : (at1 : Int) - (x1 : Int) = (S : Int) := by omega
                        have hS3 : (S : Int) ≤ 300 := by omega
                        have ha3 : (at1 : Int) ≤ 300 := by omega
                        have hx3 : (x1 : Int) ≤ 300 := by omega
                        have hi3 : (i0 : Int) < 2000 := by omega
                        have hn1i : (n1 : Int) ≤ 300 := by omega
                        have hn2i : (n2 : Int) ≤ 300 := by omega
                        have HS1 := Lib.hid (And.intro hx2 HEND.out)
                        rw [hn1, hn2]
                        clear hlen hn1 hn2 hS HEND
                        go_wp2_with fail
                        go_roundw
                        case rel => exact ⟨at1, x1, i0 + 1, A2, B, h2, HS1.out.1, by omega, HS1.out.2, rfl, rfl, by go_num, P8.out, Q8.out, HL8.out, B8.out⟩
                        case measure => simp [intOf]; omega
                    · obtain rfl : k1 = 0 := by omega
                      have HEND := Lib.hid (show i0 + 1 ≤ x1 + 300 by
                        have h5 := HK3.out.2
                        omega)
                      have Q8 := Lib.hid hq
                      have HL8 := Lib.hid hl
                      have B8 := Lib.hid hB
                      clear hp hq hl hb hB
                      go_wp2_with fail
                      refine (PS.len_any P8.out).mono ?_
                      rintro e w' ⟨rfl, rfl⟩
                      go_wp2_with fail
                      refine (PS.len_any Q8.out).mono ?_
                      rintro e w' ⟨rfl, rfl⟩
                      have hlen := congrArg List.length HL8.out
                      rw [List.length_append, drop_take_len _ _ _ (by omega)] at hlen
                      obtain ⟨n1, hn1⟩ : ∃ n1, A2.length = n1 := ⟨_, rfl⟩
                      obtain ⟨n2, hn2⟩ : ∃ n2, B.length = n2 := ⟨_, rfl⟩
                      obtain ⟨S, hS⟩ : ∃ S, at1 - x1 = S := ⟨_, rfl⟩
                      have hs1 : (n1 : Int) + (n2 : Int) = (S : Int) := by omega
                      have hs2 : (at1 : Int) - (x1 : Int) = (S : Int) := by omega
                      have hS3 : (S : Int) ≤ 300 := by omega
                      have ha3 : (at1 : Int) ≤ 300 := by omega
                      have hx3 : (x1 : Int) ≤ 300 := by omega
                      have hi3 : (i0 : Int) < 2000 := by omega
                      have hn1i : (n1 : Int) ≤ 300 := by omega
                      have hn2i : (n2 : Int) ≤ 300 := by omega
                      have HS1 := Lib.hid (And.intro hx2 HEND.out)
                      rw [hn1, hn2]
                      clear hlen hn1 hn2 hS HEND
                      go_wp2_with fail
                      go_roundw
                      case rel => exact ⟨at1, x1, i0 + 1, A2, B, h2, HS1.out.1, by omega, HS1.out.2, rfl, rfl, by go_num, P8.out, Q8.out, HL8.out, B8.out⟩
                      case measure => simp [intOf]; omega
              · have hi2i : ¬ (i0 : Int) < (zb.length : Int) := by omega
                go_wp2_with fail
                clear hi2i
                obtain ⟨kt, hkt⟩ : ∃ kt : Nat, kt = 1 := ⟨_, rfl⟩
                have HK3 := Lib.hid (show kt ≤ 3 ∧ (i0 < 300 ∨ kt = 1) from ⟨by omega, Or.inr hkt⟩)
                go_loopw [10, 13] (fun v k wr => ∃ (x1 k1 : Nat) (B : List ByteArray), h0 ≤ x1 ∧ x1 ≤ at1 ∧ x1 + k1 = h0 + kt ∧ v = .int .i64 x1 ∧ k = .int .i64 k1 ∧ PS.PipeAt q d 3 false B wr ∧ PS.PipeAt p c 4 false A2 wr ∧ B ++ A2 = (zs.take at1).drop x1 ∧ (x1 = h0 → B = B2) ∧ Below w.heap.size w wr) (fun _ k _ => (intOf k).toNat)
                case atStart => exact ⟨h0, kt, B2, Nat.le_refl _, h1, rfl, rfl, by first | rfl | (rw [hkt]; rfl), Q6.out, P6.out, HL2.out, fun _ => rfl, B6.out⟩
                case round =>
                  clear P6 Q6 B6 HL2 hkt
                  obtain ⟨x1, k1, B, hx1, hx2, hx3, rfl, rfl, hq, hp, hl, hb, hB⟩ := hrel
                  have P8 := Lib.hid hp
                  have HBB := Lib.hid hb
                  by_cases hk : 0 < k1
                  · have hki : (0 : Int) < (k1 : Int) := by omega
                    have hk3 : (k1 : Int) ≤ 3 := by have := HK3.out.1; omega
                    cases B with
                    | cons y B =>
                      have hlen := congrArg List.length hl
                      rw [List.length_append, List.length_cons, drop_take_len _ _ _ (by omega)] at hlen
                      have hxa : x1 < at1 := by omega
                      rw [drop_take_cons zs at1 x1 hxa (by omega), List.cons_append] at hl
                      obtain ⟨hl1, hl2⟩ := List.cons.inj hl
                      rw [hl1] at hq
                      obtain ⟨b', off', e, hb', hbc'⟩ := HA.out (by intro e; rw [e] at hN1; simp at hN1; omega)
                      have HC := Lib.hid (fun (v : World) (h : Below w.heap.size w v) => (h.cell (p := ⟨b', off' + x1, none⟩) hb').trans (hbc' x1 (by omega)))
                      cases e
                      have hxai : (x1 : Int) < (at1 : Int) := by omega
                      have hxl : (x1 : Int) < (zs.length : Int) := by omega
                      have Q7 := Lib.hid hq
                      have B7 := Lib.hid hB
                      have HL7 := Lib.hid hl2
                      clear hp hq hl hl1 hl2 hb hB hbc' hlen
                      generalize zs[x1]'(by omega) = x at *
                      go_wp2_with fail
                      refine (PS.take_some Q7.out).mono ?_
                      rintro e w5 ⟨rfl, h, hs⟩
                      have P9 := Lib.hid (P8.out.other Q7.out HN.out hs)
                      have Q9 := Lib.hid h
                      have hB9 := below_turn B7.out lq2 ld2 hs
                      have hc9 := HC.out _ hB9
                      have B9 := Lib.hid hB9
                      clear h hs P8 Q7 B7 hB9 HC
                      go_wp2_with fail
                      go_roundw
                      case rel => exact ⟨x1 + 1, k1 - 1, B, by omega, hxa, by omega, by go_num, by first | go_num | (congr 1; omega), Q9.out, P9.out, HL7.out, fun e => by omega, B9.out⟩
                      case measure => simp [intOf]; omega
                    | nil =>
                      have HEND := Lib.hid (show i0 + 1 ≤ x1 + 300 by
                        have h5 := HK3.out.2
                        by_cases hx : x1 = h0
                        · have := HBB.out hx
                          have h6 := HB2.out
                          rw [← this] at h6
                          simp at h6
                        · omega)
                      have Q8 := Lib.hid hq
                      have HL8 := Lib.hid hl
                      have B7 := Lib.hid hB
                      obtain ⟨B, hBe⟩ : ∃ B, B = ([] : List ByteArray) := ⟨_, rfl⟩
                      rw [← hBe] at HL8
                      have hcl : True := trivial
                      clear hp hq hl hb hB
                      go_wp2_with fail
                      refine (PS.take_none Q8.out).mono ?_
                      rintro e w' ⟨rfl, rfl⟩
                      rw [← hBe] at Q8
                      have B8 := B7
                      clear hki hBe hk3
                      go_wp2_with fail
                      refine (PS.len_any P8.out).mono ?_
                      rintro e w' ⟨rfl, rfl⟩
                      go_wp2_with fail
                      refine (PS.len_any Q8.out).mono ?_
                      rintro e w' ⟨rfl, rfl⟩
                      have hlen := congrArg List.length HL8.out
                      rw [List.length_append, drop_take_len _ _ _ (by omega)] at hlen
                      obtain ⟨n1, hn1⟩ : ∃ n1, A2.length = n1 := ⟨_, rfl⟩
                      obtain ⟨n2, hn2⟩ : ∃ n2, B.length = n2 := ⟨_, rfl⟩
                      obtain ⟨S, hS⟩ : ∃ S, at1 - x1 = S := ⟨_, rfl⟩
                      have hs1 : (n1 : Int) + (n2 : Int) = (S : Int) := by omega
                      have hs2 : (at1 : Int) - (x1 : Int) = (S : Int) := by omega
                      have hS3 : (S : Int) ≤ 300 := by omega
                      have ha3 : (at1 : Int) ≤ 300 := by omega
                      have hx3 : (x1 : Int) ≤ 300 := by omega
                      have hi3 : (i0 : Int) < 2000 := by omega
                      have hn1i : (n1 : Int) ≤ 300 := by omega
                      have hn2i : (n2 : Int) ≤ 300 := by omega
                      have HS1 := Lib.hid (And.intro hx2 HEND.out)
                      rw [hn1, hn2]
                      clear hlen hn1 hn2 hS HEND
                      go_wp2_with fail
                      go_roundw
                      case rel => exact ⟨at1, x1, i0 + 1, A2, B, h2, HS1.out.1, by omega, HS1.out.2, rfl, rfl, by go_num, P8.out, Q8.out, HL8.out, B8.out⟩
                      case measure => simp [intOf]; omega
                  · obtain rfl : k1 = 0 := by omega
                    have HEND := Lib.hid (show i0 + 1 ≤ x1 + 300 by
                      have h5 := HK3.out.2
                      omega)
                    have Q8 := Lib.hid hq
                    have HL8 := Lib.hid hl
                    have B8 := Lib.hid hB
                    clear hp hq hl hb hB
                    go_wp2_with fail
                    refine (PS.len_any P8.out).mono ?_
                    rintro e w' ⟨rfl, rfl⟩
                    go_wp2_with fail
                    refine (PS.len_any Q8.out).mono ?_
                    rintro e w' ⟨rfl, rfl⟩
                    have hlen := congrArg List.length HL8.out
                    rw [List.length_append, drop_take_len _ _ _ (by omega)] at hlen
                    obtain ⟨n1, hn1⟩ : ∃ n1, A2.length = n1 := ⟨_, rfl⟩
                    obtain ⟨n2, hn2⟩ : ∃ n2, B.length = n2 := ⟨_, rfl⟩
                    obtain ⟨S, hS⟩ : ∃ S, at1 - x1 = S := ⟨_, rfl⟩
                    have hs1 : (n1 : Int) + (n2 : Int) = (S : Int) := by omega
                    have hs2 : (at1 : Int) - (x1 : Int) = (S : Int) := by omega
                    have hS3 : (S : Int) ≤ 300 := by omega
                    have ha3 : (at1 : Int) ≤ 300 := by omega
                    have hx3 : (x1 : Int) ≤ 300 := by omega
                    have hi3 : (i0 : Int) < 2000 := by omega
                    have hn1i : (n1 : Int) ≤ 300 := by omega
                    have hn2i : (n2 : Int) ≤ 300 := by omega
                    have HS1 := Lib.hid (And.intro hx2 HEND.out)
                    rw [hn1, hn2]
                    clear hlen hn1 hn2 hS HEND
                    go_wp2_with fail
                    go_roundw
                    case rel => exact ⟨at1, x1, i0 + 1, A2, B, h2, HS1.out.1, by omega, HS1.out.2, rfl, rfl, by go_num, P8.out, Q8.out, HL8.out, B8.out⟩
                    case measure => simp [intOf]; omega
          · obtain rfl : at1 = N := by omega
            have P5 := Lib.hid hp
            have Q5 := Lib.hid hq
            have B5 := Lib.hid hB
            have HL := Lib.hid hl
            have HS := Lib.hid (show 1 ≤ B.length + A.length by
              have := congrArg List.length hl
              rw [drop_take_len _ _ _ hN1, List.length_append] at this
              omega)
            clear hp hq hB hl hat
            go_wp2_with fail
            refine (PS.move_any P5.out Q5.out HN.out).mono ?_
            rintro e w4 ⟨rfl, hp, hq, hs⟩
            have hB := below_turn2 B5.out lp lc lq2 ld2 hs
            obtain ⟨K, hK⟩ : ∃ K, PS.mvN false 3 A B = K := ⟨_, rfl⟩
            have hKm : K = min A.length (3 - B.length) := hK.symm
            rw [hK] at hp hq ⊢
            clear hs P5 Q5 B5 hK
            obtain ⟨A2, hA2⟩ : ∃ A2, A.drop K = A2 := ⟨_, rfl⟩
            obtain ⟨B2, hB2⟩ : ∃ B2, B ++ A.take K = B2 := ⟨_, rfl⟩
            have hab : B2 ++ A2 = (zs.take at1).drop h0 := by rw [← HL.out, ← hB2, ← hA2, List.append_assoc, List.take_append_drop]
            have hb2 : 1 ≤ B2.length := by
              rw [← hB2, List.length_append, List.length_take]
              have := HS.out
              omega
            rw [hA2] at hp
            rw [hB2] at hq
            have P6 := Lib.hid hp
            have Q6 := Lib.hid hq
            have B6 := Lib.hid hB
            have HL2 := Lib.hid hab
            have HB2 := Lib.hid hb2
            clear hp hq hB hab hb2 hA2 hB2 hKm HL HS
            by_cases hi2 : i0 < zb.length
            · have hi2i : (i0 : Int) < (zb.length : Int) := by omega
              by_cases hi3 : i0 < 300
              · have hi3i : (i0 : Int) < 300 := by omega
                obtain ⟨b9, off9, e9, hb9, hbc9⟩ := HB.out (by intro e; rw [e] at hi2; simp at hi2)
                have hcell9 := (B6.out.cell (p := ⟨b9, off9 + i0, none⟩) hb9).trans (hbc9 i0 hi2)
                cases e9
                generalize zb[i0]'(hi2) = y at *
                obtain ⟨kt, hkt', hkt3⟩ := and_to 3 (by omega) y
                have hkt : bits .and .i64 y 3 = (kt : Int) := hkt'
                have HK3 := Lib.hid (show kt ≤ 3 ∧ (i0 < 300 ∨ kt = 1) from ⟨hkt3, Or.inl hi3⟩)
                clear hkt' hkt3 hbc9 hi2
                go_wp2_with fail
                clear hi2i hi3i hkt hcell9
                have hkt : kt = kt := rfl
                go_loopw [10, 13] (fun v k wr => ∃ (x1 k1 : Nat) (B : List ByteArray), h0 ≤ x1 ∧ x1 ≤ at1 ∧ x1 + k1 = h0 + kt ∧ v = .int .i64 x1 ∧ k = .int .i64 k1 ∧ PS.PipeAt q d 3 false B wr ∧ PS.PipeAt p c 4 false A2 wr ∧ B ++ A2 = (zs.take at1).drop x1 ∧ (x1 = h0 → B = B2) ∧ Below w.heap.size w wr) (fun _ k _ => (intOf k).toNat)
                case atStart => exact ⟨h0, kt, B2, Nat.le_refl _, h1, rfl, rfl, by first | rfl | (rw [hkt]; rfl), Q6.out, P6.out, HL2.out, fun _ => rfl, B6.out⟩
                case round =>
                  clear P6 Q6 B6 HL2 hkt
                  obtain ⟨x1, k1, B, hx1, hx2, hx3, rfl, rfl, hq, hp, hl, hb, hB⟩ := hrel
                  have P8 := Lib.hid hp
                  have HBB := Lib.hid hb
                  by_cases hk : 0 < k1
                  · have hki : (0 : Int) < (k1 : Int) := by omega
                    have hk3 : (k1 : Int) ≤ 3 := by have := HK3.out.1; omega
                    cases B with
                    | cons y B =>
                      have hlen := congrArg List.length hl
                      rw [List.length_append, List.length_cons, drop_take_len _ _ _ (by omega)] at hlen
                      have hxa : x1 < at1 := by omega
                      rw [drop_take_cons zs at1 x1 hxa (by omega), List.cons_append] at hl
                      obtain ⟨hl1, hl2⟩ := List.cons.inj hl
                      rw [hl1] at hq
                      obtain ⟨b', off', e, hb', hbc'⟩ := HA.out (by intro e; rw [e] at hN1; simp at hN1; omega)
                      have HC := Lib.hid (fun (v : World) (h : Below w.heap.size w v) => (h.cell (p := ⟨b', off' + x1, none⟩) hb').trans (hbc' x1 (by omega)))
                      cases e
                      have hxai : (x1 : Int) < (at1 : Int) := by omega
                      have hxl : (x1 : Int) < (zs.length : Int) := by omega
                      have Q7 := Lib.hid hq
                      have B7 := Lib.hid hB
                      have HL7 := Lib.hid hl2
                      clear hp hq hl hl1 hl2 hb hB hbc' hlen
                      generalize zs[x1]'(by omega) = x at *
                      go_wp2_with fail
                      refine (PS.take_some Q7.out).mono ?_
                      rintro e w5 ⟨rfl, h, hs⟩
                      have P9 := Lib.hid (P8.out.other Q7.out HN.out hs)
                      have Q9 := Lib.hid h
                      have hB9 := below_turn B7.out lq2 ld2 hs
                      have hc9 := HC.out _ hB9
                      have B9 := Lib.hid hB9
                      clear h hs P8 Q7 B7 hB9 HC
                      go_wp2_with fail
                      go_roundw
                      case rel => exact ⟨x1 + 1, k1 - 1, B, by omega, hxa, by omega, by go_num, by first | go_num | (congr 1; omega), Q9.out, P9.out, HL7.out, fun e => by omega, B9.out⟩
                      case measure => simp [intOf]; omega
                    | nil =>
                      have HEND := Lib.hid (show i0 + 1 ≤ x1 + 300 by
                        have h5 := HK3.out.2
                        by_cases hx : x1 = h0
                        · have := HBB.out hx
                          have h6 := HB2.out
                          rw [← this] at h6
                          simp at h6
                        · omega)
                      have Q8 := Lib.hid hq
                      have HL8 := Lib.hid hl
                      have B7 := Lib.hid hB
                      obtain ⟨B, hBe⟩ : ∃ B, B = ([] : List ByteArray) := ⟨_, rfl⟩
                      rw [← hBe] at HL8
                      have hcl : True := trivial
                      clear hp hq hl hb hB
                      go_wp2_with fail
                      refine (PS.take_none Q8.out).mono ?_
                      rintro e w' ⟨rfl, rfl⟩
                      rw [← hBe] at Q8
                      have B8 := B7
                      clear hki hBe hk3
                      go_wp2_with fail
                      refine (PS.len_any P8.out).mono ?_
                      rintro e w' ⟨rfl, rfl⟩
                      go_wp2_with fail
                      refine (PS.len_any Q8.out).mono ?_
                      rintro e w' ⟨rfl, rfl⟩
                      have hlen := congrArg List.length HL8.out
                      rw [List.length_append, drop_take_len _ _ _ (by omega)] at hlen
                      obtain ⟨n1, hn1⟩ : ∃ n1, A2.length = n1 := ⟨_, rfl⟩
                      obtain ⟨n2, hn2⟩ : ∃ n2, B.length = n2 := ⟨_, rfl⟩
                      obtain ⟨S, hS⟩ : ∃ S, at1 - x1 = S := ⟨_, rfl⟩
                      have hs1 : (n1 : Int) + (n2 : Int) = (S : Int) := by omega
                      have hs2 : (at1 : Int) - (x1 : Int) = (S : Int) := by omega
                      have hS3 : (S : Int) ≤ 300 := by omega
                      have ha3 : (at1 : Int) ≤ 300 := by omega
                      have hx3 : (x1 : Int) ≤ 300 := by omega
                      have hi3 : (i0 : Int) < 2000 := by omega
                      have hn1i : (n1 : Int) ≤ 300 := by omega
                      have hn2i : (n2 : Int) ≤ 300 := by omega
                      have HS1 := Lib.hid (And.intro hx2 HEND.out)
                      rw [hn1, hn2]
                      clear hlen hn1 hn2 hS HEND
                      go_wp2_with fail
                      go_roundw
                      case rel => exact ⟨at1, x1, i0 + 1, A2, B, h2, HS1.out.1, by omega, HS1.out.2, rfl, rfl, by go_num, P8.out, Q8.out, HL8.out, B8.out⟩
                      case measure => simp [intOf]; omega
                  · obtain rfl : k1 = 0 := by omega
                    have HEND := Lib.hid (show i0 + 1 ≤ x1 + 300 by
                      have h5 := HK3.out.2
                      omega)
                    have Q8 := Lib.hid hq
                    have HL8 := Lib.hid hl
                    have B8 := Lib.hid hB
                    clear hp hq hl hb hB
                    go_wp2_with fail
                    refine (PS.len_any P8.out).mono ?_
                    rintro e w' ⟨rfl, rfl⟩
                    go_wp2_with fail
                    refine (PS.len_any Q8.out).mono ?_
                    rintro e w' ⟨rfl, rfl⟩
                    have hlen := congrArg List.length HL8.out
                    rw [List.length_append, drop_take_len _ _ _ (by omega)] at hlen
                    obtain ⟨n1, hn1⟩ : ∃ n1, A2.length = n1 := ⟨_, rfl⟩
                    obtain ⟨n2, hn2⟩ : ∃ n2, B.length = n2 := ⟨_, rfl⟩
                    obtain ⟨S, hS⟩ : ∃ S, at1 - x1 = S := ⟨_, rfl⟩
                    have hs1 : (n1 : Int) + (n2 : Int) = (S : Int) := by omega
                    have hs2 : (at1 : Int) - (x1 : Int) = (S : Int) := by omega
                    have hS3 : (S : Int) ≤ 300 := by omega
                    have ha3 : (at1 : Int) ≤ 300 := by omega
                    have hx3 : (x1 : Int) ≤ 300 := by omega
                    have hi3 : (i0 : Int) < 2000 := by omega
                    have hn1i : (n1 : Int) ≤ 300 := by omega
                    have hn2i : (n2 : Int) ≤ 300 := by omega
                    have HS1 := Lib.hid (And.intro hx2 HEND.out)
                    rw [hn1, hn2]
                    clear hlen hn1 hn2 hS HEND
                    go_wp2_with fail
                    go_roundw
                    case rel => exact ⟨at1, x1, i0 + 1, A2, B, h2, HS1.out.1, by omega, HS1.out.2, rfl, rfl, by go_num, P8.out, Q8.out, HL8.out, B8.out⟩
                    case measure => simp [intOf]; omega
              · have hi3i : ¬ (i0 : Int) < 300 := by omega
                go_wp2_with fail
                clear hi2i hi3i
                obtain ⟨kt, hkt⟩ : ∃ kt : Nat, kt = 1 := ⟨_, rfl⟩
                have HK3 := Lib.hid (show kt ≤ 3 ∧ (i0 < 300 ∨ kt = 1) from ⟨by omega, Or.inr hkt⟩)
                go_loopw [10, 13] (fun v k wr => ∃ (x1 k1 : Nat) (B : List ByteArray), h0 ≤ x1 ∧ x1 ≤ at1 ∧ x1 + k1 = h0 + kt ∧ v = .int .i64 x1 ∧ k = .int .i64 k1 ∧ PS.PipeAt q d 3 false B wr ∧ PS.PipeAt p c 4 false A2 wr ∧ B ++ A2 = (zs.take at1).drop x1 ∧ (x1 = h0 → B = B2) ∧ Below w.heap.size w wr) (fun _ k _ => (intOf k).toNat)
                case atStart => exact ⟨h0, kt, B2, Nat.le_refl _, h1, rfl, rfl, by first | rfl | (rw [hkt]; rfl), Q6.out, P6.out, HL2.out, fun _ => rfl, B6.out⟩
                case round =>
                  clear P6 Q6 B6 HL2 hkt
                  obtain ⟨x1, k1, B, hx1, hx2, hx3, rfl, rfl, hq, hp, hl, hb, hB⟩ := hrel
                  have P8 := Lib.hid hp
                  have HBB := Lib.hid hb
                  by_cases hk : 0 < k1
                  · have hki : (0 : Int) < (k1 : Int) := by omega
                    have hk3 : (k1 : Int) ≤ 3 := by have := HK3.out.1; omega
                    cases B with
                    | cons y B =>
                      have hlen := congrArg List.length hl
                      rw [List.length_append, List.length_cons, drop_take_len _ _ _ (by omega)] at hlen
                      have hxa : x1 < at1 := by omega
                      rw [drop_take_cons zs at1 x1 hxa (by omega), List.cons_append] at hl
                      obtain ⟨hl1, hl2⟩ := List.cons.inj hl
                      rw [hl1] at hq
                      obtain ⟨b', off', e, hb', hbc'⟩ := HA.out (by intro e; rw [e] at hN1; simp at hN1; omega)
                      have HC := Lib.hid (fun (v : World) (h : Below w.heap.size w v) => (h.cell (p := ⟨b', off' + x1, none⟩) hb').trans (hbc' x1 (by omega)))
                      cases e
                      have hxai : (x1 : Int) < (at1 : Int) := by omega
                      have hxl : (x1 : Int) < (zs.length : Int) := by omega
                      have Q7 := Lib.hid hq
                      have B7 := Lib.hid hB
                      have HL7 := Lib.hid hl2
                      clear hp hq hl hl1 hl2 hb hB hbc' hlen
                      generalize zs[x1]'(by omega) = x at *
                      go_wp2_with fail
                      refine (PS.take_some Q7.out).mono ?_
                      rintro e w5 ⟨rfl, h, hs⟩
                      have P9 := Lib.hid (P8.out.other Q7.out HN.out hs)
                      have Q9 := Lib.hid h
                      have hB9 := below_turn B7.out lq2 ld2 hs
                      have hc9 := HC.out _ hB9
                      have B9 := Lib.hid hB9
                      clear h hs P8 Q7 B7 hB9 HC
                      go_wp2_with fail
                      go_roundw
                      case rel => exact ⟨x1 + 1, k1 - 1, B, by omega, hxa, by omega, by go_num, by first | go_num | (congr 1; omega), Q9.out, P9.out, HL7.out, fun e => by omega, B9.out⟩
                      case measure => simp [intOf]; omega
                    | nil =>
                      have HEND := Lib.hid (show i0 + 1 ≤ x1 + 300 by
                        have h5 := HK3.out.2
                        by_cases hx : x1 = h0
                        · have := HBB.out hx
                          have h6 := HB2.out
                          rw [← this] at h6
                          simp at h6
                        · omega)
                      have Q8 := Lib.hid hq
                      have HL8 := Lib.hid hl
                      have B7 := Lib.hid hB
                      obtain ⟨B, hBe⟩ : ∃ B, B = ([] : List ByteArray) := ⟨_, rfl⟩
                      rw [← hBe] at HL8
                      have hcl : True := trivial
                      clear hp hq hl hb hB
                      go_wp2_with fail
                      refine (PS.take_none Q8.out).mono ?_
                      rintro e w' ⟨rfl, rfl⟩
                      rw [← hBe] at Q8
                      have B8 := B7
                      clear hki hBe hk3
                      go_wp2_with fail
                      refine (PS.len_any P8.out).mono ?_
                      rintro e w' ⟨rfl, rfl⟩
                      go_wp2_with fail
                      refine (PS.len_any Q8.out).mono ?_
                      rintro e w' ⟨rfl, rfl⟩
                      have hlen := congrArg List.length HL8.out
                      rw [List.length_append, drop_take_len _ _ _ (by omega)] at hlen
                      obtain ⟨n1, hn1⟩ : ∃ n1, A2.length = n1 := ⟨_, rfl⟩
                      obtain ⟨n2, hn2⟩ : ∃ n2, B.length = n2 := ⟨_, rfl⟩
                      obtain ⟨S, hS⟩ : ∃ S, at1 - x1 = S := ⟨_, rfl⟩
                      have hs1 : (n1 : Int) + (n2 : Int) = (S : Int) := by omega
                      have hs2 : (at1 : Int) - (x1 : Int) = (S : Int) := by omega
                      have hS3 : (S : Int) ≤ 300 := by omega
                      have ha3 : (at1 : Int) ≤ 300 := by omega
                      have hx3 : (x1 : Int) ≤ 300 := by omega
                      have hi3 : (i0 : Int) < 2000 := by omega
                      have hn1i : (n1 : Int) ≤ 300 := by omega
                      have hn2i : (n2 : Int) ≤ 300 := by omega
                      have HS1 := Lib.hid (And.intro hx2 HEND.out)
                      rw [hn1, hn2]
                      clear hlen hn1 hn2 hS HEND
                      go_wp2_with fail
                      go_roundw
                      case rel => exact ⟨at1, x1, i0 + 1, A2, B, h2, HS1.out.1, by omega, HS1.out.2, rfl, rfl, by go_num, P8.out, Q8.out, HL8.out, B8.out⟩
                      case measure => simp [intOf]; omega
                  · obtain rfl : k1 = 0 := by omega
                    have HEND := Lib.hid (show i0 + 1 ≤ x1 + 300 by
                      have h5 := HK3.out.2
                      omega)
                    have Q8 := Lib.hid hq
                    have HL8 := Lib.hid hl
                    have B8 := Lib.hid hB
                    clear hp hq hl hb hB
                    go_wp2_with fail
                    refine (PS.len_any P8.out).mono ?_
                    rintro e w' ⟨rfl, rfl⟩
                    go_wp2_with fail
                    refine (PS.len_any Q8.out).mono ?_
                    rintro e w' ⟨rfl, rfl⟩
                    have hlen := congrArg List.length HL8.out
                    rw [List.length_append, drop_take_len _ _ _ (by omega)] at hlen
                    obtain ⟨n1, hn1⟩ : ∃ n1, A2.length = n1 := ⟨_, rfl⟩
                    obtain ⟨n2, hn2⟩ : ∃ n2, B.length = n2 := ⟨_, rfl⟩
                    obtain ⟨S, hS⟩ : ∃ S, at1 - x1 = S := ⟨_, rfl⟩
                    have hs1 : (n1 : Int) + (n2 : Int) = (S : Int) := by omega
                    have hs2 : (at1 : Int) - (x1 : Int) = (S : Int) := by omega
                    have hS3 : (S : Int) ≤ 300 := by omega
                    have ha3 : (at1 : Int) ≤ 300 := by omega
                    have hx3 : (x1 : Int) ≤ 300 := by omega
                    have hi3 : (i0 : Int) < 2000 := by omega
                    have hn1i : (n1 : Int) ≤ 300 := by omega
                    have hn2i : (n2 : Int) ≤ 300 := by omega
                    have HS1 := Lib.hid (And.intro hx2 HEND.out)
                    rw [hn1, hn2]
                    clear hlen hn1 hn2 hS HEND
                    go_wp2_with fail
                    go_roundw
                    case rel => exact ⟨at1, x1, i0 + 1, A2, B, h2, HS1.out.1, by omega, HS1.out.2, rfl, rfl, by go_num, P8.out, Q8.out, HL8.out, B8.out⟩
                    case measure => simp [intOf]; omega
            · have hi2i : ¬ (i0 : Int) < (zb.length : Int) := by omega
              go_wp2_with fail
              clear hi2i
              obtain ⟨kt, hkt⟩ : ∃ kt : Nat, kt = 1 := ⟨_, rfl⟩
              have HK3 := Lib.hid (show kt ≤ 3 ∧ (i0 < 300 ∨ kt = 1) from ⟨by omega, Or.inr hkt⟩)
              go_loopw [10, 13] (fun v k wr => ∃ (x1 k1 : Nat) (B : List ByteArray), h0 ≤ x1 ∧ x1 ≤ at1 ∧ x1 + k1 = h0 + kt ∧ v = .int .i64 x1 ∧ k = .int .i64 k1 ∧ PS.PipeAt q d 3 false B wr ∧ PS.PipeAt p c 4 false A2 wr ∧ B ++ A2 = (zs.take at1).drop x1 ∧ (x1 = h0 → B = B2) ∧ Below w.heap.size w wr) (fun _ k _ => (intOf k).toNat)
              case atStart => exact ⟨h0, kt, B2, Nat.le_refl _, h1, rfl, rfl, by first | rfl | (rw [hkt]; rfl), Q6.out, P6.out, HL2.out, fun _ => rfl, B6.out⟩
              case round =>
                clear P6 Q6 B6 HL2 hkt
                obtain ⟨x1, k1, B, hx1, hx2, hx3, rfl, rfl, hq, hp, hl, hb, hB⟩ := hrel
                have P8 := Lib.hid hp
                have HBB := Lib.hid hb
                by_cases hk : 0 < k1
                · have hki : (0 : Int) < (k1 : Int) := by omega
                  have hk3 : (k1 : Int) ≤ 3 := by have := HK3.out.1; omega
                  cases B with
                  | cons y B =>
                    have hlen := congrArg List.length hl
                    rw [List.length_append, List.length_cons, drop_take_len _ _ _ (by omega)] at hlen
                    have hxa : x1 < at1 := by omega
                    rw [drop_take_cons zs at1 x1 hxa (by omega), List.cons_append] at hl
                    obtain ⟨hl1, hl2⟩ := List.cons.inj hl
                    rw [hl1] at hq
                    obtain ⟨b', off', e, hb', hbc'⟩ := HA.out (by intro e; rw [e] at hN1; simp at hN1; omega)
                    have HC := Lib.hid (fun (v : World) (h : Below w.heap.size w v) => (h.cell (p := ⟨b', off' + x1, none⟩) hb').trans (hbc' x1 (by omega)))
                    cases e
                    have hxai : (x1 : Int) < (at1 : Int) := by omega
                    have hxl : (x1 : Int) < (zs.length : Int) := by omega
                    have Q7 := Lib.hid hq
                    have B7 := Lib.hid hB
                    have HL7 := Lib.hid hl2
                    clear hp hq hl hl1 hl2 hb hB hbc' hlen
                    generalize zs[x1]'(by omega) = x at *
                    go_wp2_with fail
                    refine (PS.take_some Q7.out).mono ?_
                    rintro e w5 ⟨rfl, h, hs⟩
                    have P9 := Lib.hid (P8.out.other Q7.out HN.out hs)
                    have Q9 := Lib.hid h
                    have hB9 := below_turn B7.out lq2 ld2 hs
                    have hc9 := HC.out _ hB9
                    have B9 := Lib.hid hB9
                    clear h hs P8 Q7 B7 hB9 HC
                    go_wp2_with fail
                    go_roundw
                    case rel => exact ⟨x1 + 1, k1 - 1, B, by omega, hxa, by omega, by go_num, by first | go_num | (congr 1; omega), Q9.out, P9.out, HL7.out, fun e => by omega, B9.out⟩
                    case measure => simp [intOf]; omega
                  | nil =>
                    have HEND := Lib.hid (show i0 + 1 ≤ x1 + 300 by
                      have h5 := HK3.out.2
                      by_cases hx : x1 = h0
                      · have := HBB.out hx
                        have h6 := HB2.out
                        rw [← this] at h6
                        simp at h6
                      · omega)
                    have Q8 := Lib.hid hq
                    have HL8 := Lib.hid hl
                    have B7 := Lib.hid hB
                    obtain ⟨B, hBe⟩ : ∃ B, B = ([] : List ByteArray) := ⟨_, rfl⟩
                    rw [← hBe] at HL8
                    have hcl : True := trivial
                    clear hp hq hl hb hB
                    go_wp2_with fail
                    refine (PS.take_none Q8.out).mono ?_
                    rintro e w' ⟨rfl, rfl⟩
                    rw [← hBe] at Q8
                    have B8 := B7
                    clear hki hBe hk3
                    go_wp2_with fail
                    refine (PS.len_any P8.out).mono ?_
                    rintro e w' ⟨rfl, rfl⟩
                    go_wp2_with fail
                    refine (PS.len_any Q8.out).mono ?_
                    rintro e w' ⟨rfl, rfl⟩
                    have hlen := congrArg List.length HL8.out
                    rw [List.length_append, drop_take_len _ _ _ (by omega)] at hlen
                    obtain ⟨n1, hn1⟩ : ∃ n1, A2.length = n1 := ⟨_, rfl⟩
                    obtain ⟨n2, hn2⟩ : ∃ n2, B.length = n2 := ⟨_, rfl⟩
                    obtain ⟨S, hS⟩ : ∃ S, at1 - x1 = S := ⟨_, rfl⟩
                    have hs1 : (n1 : Int) + (n2 : Int) = (S : Int) := by omega
                    have hs2 : (at1 : Int) - (x1 : Int) = (S : Int) := by omega
                    have hS3 : (S : Int) ≤ 300 := by omega
                    have ha3 : (at1 : Int) ≤ 300 := by omega
                    have hx3 : (x1 : Int) ≤ 300 := by omega
                    have hi3 : (i0 : Int) < 2000 := by omega
                    have hn1i : (n1 : Int) ≤ 300 := by omega
                    have hn2i : (n2 : Int) ≤ 300 := by omega
                    have HS1 := Lib.hid (And.intro hx2 HEND.out)
                    rw [hn1, hn2]
                    clear hlen hn1 hn2 hS HEND
                    go_wp2_with fail
                    go_roundw
                    case rel => exact ⟨at1, x1, i0 + 1, A2, B, h2, HS1.out.1, by omega, HS1.out.2, rfl, rfl, by go_num, P8.out, Q8.out, HL8.out, B8.out⟩
                    case measure => simp [intOf]; omega
                · obtain rfl : k1 = 0 := by omega
                  have HEND := Lib.hid (show i0 + 1 ≤ x1 + 300 by
                    have h5 := HK3.out.2
                    omega)
                  have Q8 := Lib.hid hq
                  have HL8 := Lib.hid hl
                  have B8 := Lib.hid hB
                  clear hp hq hl hb hB
                  go_wp2_with fail
                  refine (PS.len_any P8.out).mono ?_
                  rintro e w' ⟨rfl, rfl⟩
                  go_wp2_with fail
                  refine (PS.len_any Q8.out).mono ?_
                  rintro e w' ⟨rfl, rfl⟩
                  have hlen := congrArg List.length HL8.out
                  rw [List.length_append, drop_take_len _ _ _ (by omega)] at hlen
                  obtain ⟨n1, hn1⟩ : ∃ n1, A2.length = n1 := ⟨_, rfl⟩
                  obtain ⟨n2, hn2⟩ : ∃ n2, B.length = n2 := ⟨_, rfl⟩
                  obtain ⟨S, hS⟩ : ∃ S, at1 - x1 = S := ⟨_, rfl⟩
                  have hs1 : (n1 : Int) + (n2 : Int) = (S : Int) := by omega
                  have hs2 : (at1 : Int) - (x1 : Int) = (S : Int) := by omega
                  have hS3 : (S : Int) ≤ 300 := by omega
                  have ha3 : (at1 : Int) ≤ 300 := by omega
                  have hx3 : (x1 : Int) ≤ 300 := by omega
                  have hi3 : (i0 : Int) < 2000 := by omega
                  have hn1i : (n1 : Int) ≤ 300 := by omega
                  have hn2i : (n2 : Int) ≤ 300 := by omega
                  have HS1 := Lib.hid (And.intro hx2 HEND.out)
                  rw [hn1, hn2]
                  clear hlen hn1 hn2 hS HEND
                  go_wp2_with fail
                  go_roundw
                  case rel => exact ⟨at1, x1, i0 + 1, A2, B, h2, HS1.out.1, by omega, HS1.out.2, rfl, rfl, by go_num, P8.out, Q8.out, HL8.out, B8.out⟩
                  case measure => simp [intOf]; omega
      · obtain rfl : h0 = N := by omega
        have hi0 : (i0 : Int) < 2000 := by omega
        go_wp2_with fail
        refine (fixed_any _).mono ?_
        rintro e w9 ⟨rfl, hB⟩
        have B7 := Lib.hid (B3.out.trans (hB.mono B3.out.size))
        clear hB B3
        go_wp2_with fail
        go_ret
        exact ⟨rfl, B7.out⟩
    · exfalso; omega

set_option maxRecDepth 100000 in
/-- WHAT THE WALK GIVES, for every argument that can be read. -/
theorem contract (H : Type) (enc : TypeId × Value → H) (W : World) (base : Nat) (args : Array Value) (ds gs : List (DataW H)) (before : List MemPlace)
    (hval : ∀ (j : Nat) t v, Try.f5.params[j]? = some t → args[j]? = some v → Value.okWide Try.prog W .any base t v)
    (hW : DataW.Whole enc Try.prog Try.f5.params.toList Rows.pipeOrderSpec.vars false W args.toList ds gs before)
    (hreach : (DataW.weightsEach Try.prog (Try.f5.params.toList) ds).all (· ≤ reachBytes) = true) :
    Calls Try.prog 5 args W fun e W' => ∃ v, e = .returned v ∧ Rows.pipeOrderSpec.post enc Try.prog Try.f5 false true false false W args v W' := by
  have hW' := hW
  obtain ⟨p, q, hA0, hV, rfl, hfz, hnd⟩ := hW
  have hA : DataW.TrodAll enc Try.prog W 0 (fun _ => true) true Try.f5.params.toList args.toList ds p := hA0
  rw [Try.params5] at hA hval hreach
  obtain ⟨v0, v1, d0, d1, p0, p1, rfl, rfl, rfl, h0, h1⟩ := trodAll_two hA
  obtain ⟨rfl, rfl⟩ := trodVars_none hV
  have lt0 : ∀ x ∈ p0, x.block < W.heap.size := fun x hx => hW'.lt x (by simp [hx])
  obtain ⟨l0, k0, r0⟩ := strs_open (hval 0 49 v0 rfl rfl) h0 lt0 hreach (j := 0) rfl rfl
  have lt1 : ∀ x ∈ p1, x.block < W.heap.size := fun x hx => hW'.lt x (by simp [hx])
  obtain ⟨l1, k1, r1⟩ := ints_open (hval 1 29 v1 rfl rfl) h1 lt1 hreach (j := 1) rfl rfl
  clear hA0 hval
  simp only [List.append_nil] at hW'
  refine (walk v0 l0 v1 l1 W k0 r0 k1 r1).mono fun e W' ⟨he, hB⟩ => ?_
  subst he
  exact ⟨_, rfl, post_of_below (pa := p0 ++ (p1)) (pv := []) hW' (fun _ _ _ => trodAll_mk1 (shut_bool Try.underlying4 _)) (fun sp hsp => trodAll_mk2 (WideElems.Trod_stays laidOut (by kernel_rfl) (of_decide_eq_true (by kernel_rfl)) h0 (fun x hx => hB.same (lt0 x hx)) (fun x hx => hsp x (by simp [hx]))) (WideElems.Trod_stays laidOut (by kernel_rfl) (of_decide_eq_true (by kernel_rfl)) h1 (fun x hx => hB.same (lt1 x hx)) (fun x hx => hsp x (by simp [hx])))) (fun _ _ => rfl) (by simp) hB (ok_one (by kernel_rfl) rfl (okWide_bool_mk Try.underlying4 _))⟩

theorem reads (os : Os) {H : Type} (enc : TypeId × Value → H) : ∃ places, DataW.whole enc Try.prog ((laidWorld os).forCall (fun _ _ => 0) ⟨#[], #[.slice none 0 0, .slice none 0 0], []⟩).memory Try.f5.params.toList Rows.pipeOrderSpec.vars false (#[.slice none 0 0, .slice none 0 0] : Array Value).toList 8 = some ([.nil, .nil], [], places) :=
  ⟨[], by kernel_rfl⟩

set_option maxRecDepth 100000 in
theorem lifted (os : Os) (started : os.Started) (H : Type) (enc : TypeId × Value → H) (F : Stop.Interp) :
    ReturnsInHanded {} Try.checked os 5 .any ((OpenSpec.ofChange Rows.pipeOrderSpec).preRow enc Try.prog Try.f5 Rows.pipeOrderRow.domain false Rows.pipeOrderRow.laid) (((OpenSpec.ofChange Rows.pipeOrderSpec).at F).post enc Try.prog Try.f5 false true false false) := by
  obtain ⟨places, hx⟩ := reads os enc
  refine returnsInHanded_of_row (C := Try.checked) (s := OpenSpec.ofChange Rows.pipeOrderSpec) own started (by kernel_rfl) Try.func5
    (witness_row_at (enc := enc) (C := Try.checked) false (laidWorld os) #[.slice none 0 0, .slice none 0 0] rfl (by kernel_rfl) (by kernel_rfl) (by kernel_rfl)
      (OpenSpec.preRow_of_cond 8 hx (by kernel_rfl) (fun k hk => by cases hk) (by kernel_rfl) (laid_met os _))) ?_
  intro W base args ds gs before hval hW _ hcond hreach hL _ _
  obtain ⟨p, q, hA0, hV, hpq, hfz, hnd⟩ := id hW
  obtain ⟨rfl, _⟩ := trodVars_none hV
  rw [List.append_nil] at hreach
  exact contract H enc W base args ds [] before hval hW hreach

theorem said : Rows.PipeOrderSaid :=
  OpenClaim.holds_of_cond 5 Try.f5 rfl rfl rfl rfl rfl rfl rfl ⟨rfl, rfl, rfl, rfl, rfl⟩ rfl rfl rfl rfl rfl (by kernel_rfl) Try.func5 (by kernel_rfl)
    (of_decide_eq_true (by kernel_rfl)) (by unfold Func.isWrapper; first | (rw [if_pos (by decide +kernel)]; kernel_rfl) | (rw [if_neg (by decide +kernel)]; exact ⟨rfl, rfl⟩))
    (fun os started H enc _ F => by rw [OpenClaim.pre_eq_preRow]; exact lifted os started H enc F)



end Go.Proofs.Ytmlemgifejefiaa.order
