/-
  What is stored is loaded, whatever stood there: its blocks are as many as its shape, none twice, each of them taken just now or one of the old ones; what is old and not taken is what it was, and the old bytes are still loaded: for every two texts, of which the first 17,000 bytes are taken.
  Conditions: none besides the row's own.
-/
import Derived.Test.YtaniajldnkcbjaaGreatTreQ
namespace Go.Proofs.YtaniajldnkcbjaaGreat.tback
open Go.ChangeShapes Go.WideShapes Go.ChangeAt Go.RowKit Go.Shelf Go Go.Maps SM PL AL TR

theorem sum_take_next (f : Nat → Nat) (L : List Nat) (i : Nat) (h : i < L.length) : ((L.take (i + 1)).map f).sum = ((L.take i).map f).sum + f L[i] := by
  rw [List.take_succ_eq_append_getElem h, List.map_append, List.sum_append]
  simp
theorem count_le_one {L : List Nat} (h : L.Nodup) (x j : Nat) : (L.take j).count x ≤ 1 := by
  have h1 : (L.take j).Nodup := h.sublist (List.take_sublist _ _)
  rw [h1.count]
  split <;> omega
theorem sum_le_len {L1 L2 : List Nat} (h : L1.Nodup) : ∀ i, ((L2.take i).map fun y => L1.count y).sum ≤ i
  | 0 => by simp
  | i + 1 => by
    by_cases hi : i < L2.length
    · rw [sum_take_next _ _ _ hi]
      have h1 := sum_le_len (L2 := L2) h i
      have h2 := count_le_one h L2[i] L1.length
      rw [List.take_length] at h2
      omega
    · have e : L2.take (i + 1) = L2.take i := by rw [List.take_of_length_le (by omega), List.take_of_length_le (by omega)]
      rw [e]
      have := sum_le_len (L2 := L2) h i
      omega
set_option maxRecDepth 100000 in
set_option maxHeartbeats 16000000 in
theorem walk (s1 s2 : ByteArray) (w : World) (hs1 : s1.size ≤ 140737488351232) (hs2 : s2.size ≤ 140737488351232) :
    Calls Tryz.prog 5 #[.string s1, .string s2] w fun r w' => r = .returned (.bool true) ∧ Below w.heap.size w w' := by
  have CB1 := fun w => bytesT_any s1 (by omega) w
  have CB2 := fun w => bytesT_any s2 (by omega) w
  obtain ⟨A, hA⟩ : ∃ A, cutT s1 = A := ⟨_, rfl⟩
  obtain ⟨Z, hZ⟩ : ∃ Z, cutT s2 = Z := ⟨_, rfl⟩
  rw [hA] at CB1
  rw [hZ] at CB2
  have CL := fun w => laid_tree 300 (by omega) (by omega) w
  have CN := fun w => pool_new 300 (by omega) (by omega) w
  have CL' : ∀ w, Calls Tryz.prog 12 #[.int .i64 300] w _ := CL
  have CN' : ∀ w, Calls Tryz.prog 21 #[.string ⟨#[]⟩, .int .i64 300, .int .i64 1] w _ := CN
  clear CL CN hA hZ
  go_enter Tryz.func5, Tryz.ntmps5
  go_wp2_with fail
  refine (CB1 _).mono ?_
  rintro e w' ⟨rfl, rfl⟩
  go_wp2_with fail
  refine (CB2 _).mono ?_
  rintro e w' ⟨rfl, rfl⟩
  go_wp2_with fail
  refine (CL' _).mono ?_
  rintro e w1 ⟨l, b, g, m, c, r, q, d, rfl, hl⟩
  have HL := Lib.hid hl
  clear hl CL' CB1 CB2
  go_wp2_with fail
  refine (CN' _).mono ?_
  rintro e w2 ⟨pl, rfl, ⟨F, hp⟩, hB2⟩
  have H2 := Lib.hid (TB.start HL.out (by omega) (by omega) hB2 hp (fun _ => []))
  clear hp hB2 CN'
  by_cases hA16 : A.size ≤ 16384
  · have CS := store_first H2.out A hA16
    unfold srcV at CS
    have hAA : (A.toList != A.toList) = false := by simp
    have hZZ : (Z.toList != Z.toList) = false := by simp
    go_wp2_with fail
    refine CS.mono ?_
    rintro e w3 ⟨t1, M3, lv1, x3, P3, rfl, h3, ht3, hk3, hP3, ht72⟩
    have HT3 := Lib.hid ht3
    obtain ⟨r1, hr1⟩ : ∃ r1, rootOf lv1 = r1 := ⟨_, rfl⟩
    rw [hr1]
    obtain ⟨w4, hw4⟩ : ∃ w4, w3.alloc (.cells #[.int .i64 (r1 : Nat), .int .i64 (A.size : Nat)] 29) = w4 := ⟨_, rfl⟩
    have hB4 : Below w3.heap.size w3 w4 := by rw [← hw4]; exact (Below.refl _ w3).alloc (Nat.le_refl _) _
    have hob4 : w4.heap[w3.heap.size]? = some (.cells #[.int .i64 (r1 : Nat), .int .i64 (A.size : Nat)] 29 (0, 0)) := by rw [← hw4]; exact heap_alloc_new _ _
    obtain ⟨ox, hox⟩ : ∃ ox, w3.heap.size = ox := ⟨_, rfl⟩
    rw [hox] at hob4
    have d0 : w4.cell? ⟨ox, 0, none⟩ = some (.int .i64 (r1 : Nat)) := by simp [World.cell?, hob4]
    have d1 : w4.cell? ⟨ox, 1, none⟩ = some (.int .i64 (A.size : Nat)) := by simp [World.cell?, hob4]
    have H4 := Lib.hid (h3.later hB4)
    have HX4 := Lib.hid hob4
    have CR := reach_law H4.out HT3.out
    rw [hr1] at CR
    have HR1 := Lib.hid hr1
    unfold srcV at CR
    clear hB4 hob4 h3 ht3 hk3 hP3 CS hr1
    go_wp2_with fail
    refine CR.mono ?_
    rintro e w5 ⟨vo, x5, rfl, hro, h5, hk5⟩
    obtain ⟨ao, capo, rfl⟩ := row_shape hro
    have H5 := Lib.hid h5
    have HRo := Lib.hid hro
    have hX5 := hk5.kept HX4.out (by unfold VK; decide)
    have HX5 := Lib.hid hX5
    have HFo := Lib.hid (show ∀ j, (Value.slice ao (orderT lv1).length capo).ownBlock = some j → ¬ P3 j from fun j e hj => by
      have h6 := (hro.lt j e).1
      have h7 := (H4.out.pool.lt hj).1
      omega)
    clear CR d0 d1 hro h5 hk5
    have CLf := left300 H5.out
    obtain ⟨lf1, hlf1⟩ : ∃ lf1, 299 - t1 = lf1 := ⟨_, rfl⟩
    rw [hlf1] at CLf
    have HLf1 := Lib.hid hlf1
    go_wp2_with fail
    refine CLf.mono ?_
    rintro e w' ⟨rfl, rfl⟩
    have d0 : w5.cell? ⟨ox, 0, none⟩ = some (.int .i64 (r1 : Nat)) := by simp [World.cell?, hX5]
    have d1 : w5.cell? ⟨ox, 1, none⟩ = some (.int .i64 (A.size : Nat)) := by simp [World.cell?, hX5]
    clear CLf hX5 hlf1
    by_cases hZ16 : Z.size ≤ 16384
    · have CS2 := store_next H5.out HT3.out Z hZ16 (by omega)
      rw [HR1.out, len_of] at CS2
      have CSh := fun w => shape_nat Z.size hZ16 w
      unfold srcV at CS2
      go_wp2_with fail
      refine CS2.mono ?_
      rintro e w6 ⟨t2, R, x6, P6, hR, o, hok, rfl, h6, ht6, ho6, hk6, hP6, ht72'⟩
      have HSame := Lib.hid (show A = Z → t2 = 0 from fun e => by subst e; exact same_none HT3.out hR o)
      have HSh := Lib.hid (shared_is HT3.out ht6 o hok)
      have HT6 := Lib.hid ht6
      have HO6 := Lib.hid ho6
      have HX6 := Lib.hid (hk6.keep HX5.out (by unfold VK; decide) (H5.out.not_pool HX5.out (by decide)))
      have HRo6 := Lib.hid (hk6.row HRo.out (by unfold VK; decide) HFo.out)
      obtain ⟨r2, hr2⟩ : ∃ r2, rootOf R.lv = r2 := ⟨_, rfl⟩
      rw [hr2]
      have HR2 := Lib.hid hr2
      obtain ⟨w7, hw7⟩ : ∃ w7, w6.alloc (.cells #[.int .i64 (r2 : Nat), .int .i64 (Z.size : Nat)] 29) = w7 := ⟨_, rfl⟩
      have hB7 : Below w6.heap.size w6 w7 := by rw [← hw7]; exact (Below.refl _ w6).alloc (Nat.le_refl _) _
      have hob7 : w7.heap[w6.heap.size]? = some (.cells #[.int .i64 (r2 : Nat), .int .i64 (Z.size : Nat)] 29 (0, 0)) := by rw [← hw7]; exact heap_alloc_new _ _
      obtain ⟨oy, hoy⟩ : ∃ oy, w6.heap.size = oy := ⟨_, rfl⟩
      rw [hoy] at hob7
      have HY7 := Lib.hid hob7
      have HX7 := Lib.hid (keeps_of hB7 HX6.out)
      have HRo7 := Lib.hid (owns_below HRo6.out hB7)
      have H7 := Lib.hid (h6.later hB7)
      generalize R.mem = M6 at *
      generalize R.lv = lv2 at *
      clear hR o hok h6 ht6 ho6 hk6 hP6 hr2 hB7 CS2 d0 d1
      have d0 : w7.cell? ⟨oy, 0, none⟩ = some (.int .i64 (r2 : Nat)) := by simp [World.cell?, hob7]
      have d1 : w7.cell? ⟨oy, 1, none⟩ = some (.int .i64 (Z.size : Nat)) := by simp [World.cell?, hob7]
      have CR2 := reach_law H7.out HT6.out
      rw [HR2.out] at CR2
      unfold srcV at CR2
      clear hob7
      go_wp2_with fail
      refine CR2.mono ?_
      rintro e w8 ⟨vl, x8, rfl, hrl, h8, hk8⟩
      obtain ⟨al, capl, rfl⟩ := row_shape hrl
      have H8 := Lib.hid h8
      have HRl8 := Lib.hid hrl
      have HRo8 := Lib.hid (vkeep_row hk8 (by unfold VK; decide) HRo7.out)
      have HX8 := Lib.hid (hk8.kept HX7.out (by unfold VK; decide))
      have hY8 := hk8.kept HY7.out (by unfold VK; decide)
      have HY8 := Lib.hid hY8
      clear CR2 d0 d1 hrl h8 hk8
      obtain ⟨N2, hN2⟩ : ∃ N2, (orderT lv2).length = N2 := ⟨_, rfl⟩
      have hN2s : N2 = (rowsL Z.size).sum := by rw [← hN2, HT6.out.count.1, len_of]
      have hN72 : N2 ≤ 72 := by rw [hN2s]; exact (rows_sum hZ16).1
      rw [← hN2s] at CSh
      have HN2 := Lib.hid hN2
      have HN2s := Lib.hid hN2s
      rw [hN2]
      clear hN2 hN2s
      go_wp2_with fail
      refine (CSh _).mono ?_
      rintro e w' ⟨rfl, rfl⟩
      have d0 : w8.cell? ⟨oy, 0, none⟩ = some (.int .i64 (r2 : Nat)) := by simp [World.cell?, hY8]
      have d1 : w8.cell? ⟨oy, 1, none⟩ = some (.int .i64 (Z.size : Nat)) := by simp [World.cell?, hY8]
      have CL2 := load_law H8.out HT6.out
      rw [HR2.out] at CL2
      unfold srcV at CL2
      clear CSh hY8
      go_wp2_with fail
      refine CL2.mono ?_
      rintro e w9 ⟨x9, rfl, h9, hk9⟩
      have H9 := Lib.hid h9
      have HRl9 := Lib.hid (vkeep_row hk9 (by unfold VK; decide) HRl8.out)
      have HRo9 := Lib.hid (vkeep_row hk9 (by unfold VK; decide) HRo8.out)
      have hX9 := hk9.kept HX8.out (by unfold VK; decide)
      clear CL2 d0 d1 h9 hk9
      have d0 : w9.cell? ⟨ox, 0, none⟩ = some (.int .i64 (r1 : Nat)) := by simp [World.cell?, hX9]
      have d1 : w9.cell? ⟨ox, 1, none⟩ = some (.int .i64 (A.size : Nat)) := by simp [World.cell?, hX9]
      have CL3 := load_law H9.out HO6.out
      rw [HR1.out] at CL3
      unfold srcV at CL3
      clear hX9
      go_wp2_with fail
      refine CL3.mono ?_
      rintro e w10 ⟨x10, rfl, h10, hk10⟩
      have H10 := Lib.hid h10
      have hRl := vkeep_row hk10 (by unfold VK; decide) HRl9.out
      have hRo := vkeep_row hk10 (by unfold VK; decide) HRo9.out
      clear CL3 d0 d1 h10 hk10
      obtain ⟨N1, hN1⟩ : ∃ N1, (orderT lv1).length = N1 := ⟨_, rfl⟩
      have hN172 : N1 ≤ 72 := by rw [← hN1, HT3.out.count.1, len_of]; exact (rows_sum hA16).1
      rw [hN1]
      have hO1 := HT3.out.order.1
      have hO2 := HT6.out.order.1
      have hSum := HSh.out
      rw [len_of, ← HN2s.out] at hSum
      obtain ⟨L1, hL1⟩ : ∃ L1, orderT lv1 = L1 := ⟨_, rfl⟩
      obtain ⟨L2, hL2⟩ : ∃ L2, orderT lv2 = L2 := ⟨_, rfl⟩
      have hN2' := HN2.out
      rw [hL1] at hO1 hSum hN1 hRo
      rw [hL2] at hO2 hSum hN2' hRl
      obtain ⟨al', capl', el, hcl⟩ := ints_row hRl
      obtain ⟨ao', capo', eo, hco⟩ := ints_row hRo
      injection el with el1 el2 el3
      injection eo with eo1 eo2 eo3
      subst el1 el3 eo1 eo3
      have HO1 := Lib.hid hO1
      have HO2 := Lib.hid hO2
      have HSum := Lib.hid hSum
      have HN1 := Lib.hid hN1
      have HN2' := Lib.hid hN2'
      have HCl := Lib.hid hcl
      have HCo := Lib.hid hco
      have HBs := Lib.hid H10.out.vw.below
      have CLf2 := left300 H10.out
      obtain ⟨lf2, hlf2⟩ : ∃ lf2, 299 - (t1 + t2) = lf2 := ⟨_, rfl⟩
      rw [hlf2] at CLf2
      have HLf := Lib.hid (show (lf1 : Int) - (lf2 : Int) = (t2 : Int) by have := HLf1.out; omega)
      clear hO1 hO2 hSum hN1 hN2' hcl hco hRl hRo hL1 hL2 el2 eo2 CLf2
      have HLf2 := Lib.hid hlf2
      clear hlf2
      go_wp2
      go_loopw [23, 24] (fun s i wr => ∃ c : Nat, c ≤ N2 ∧ i = .int .i64 c ∧ s = .int .i64 (((L2.take c).map fun y => L1.count y).sum : Nat) ∧ Hid (Below w10.heap.size w10 wr)) (fun _ i _ => N2 - (intOf i).toNat)
      case atStart => exact ⟨0, Nat.zero_le _, rfl, rfl, Lib.hid (Below.refl _ _)⟩
      case round =>
        obtain ⟨c, hc, rfl, rfl, HB⟩ := hrel
        obtain ⟨S, hS⟩ : ∃ S, ((L2.take c).map fun y => L1.count y).sum = S := ⟨_, rfl⟩
        have hSc : S ≤ c := by rw [← hS]; exact sum_le_len HO1.out c
        have HS := Lib.hid hS
        rw [hS]
        clear hS
        by_cases hlt : c < N2
        · have hci : (c : Int) < (N2 : Int) := by omega
          have HLt := Lib.hid hlt
          have hcL : c < L2.length := by rw [HN2'.out]; exact hlt
          obtain ⟨g2, hg2, hgs2, hcs2⟩ := HCl.out (fun e => by rw [e] at hcL; simp at hcL)
          subst hg2
          obtain ⟨xc, hxc⟩ : ∃ xc, L2[c] = xc := ⟨_, rfl⟩
          have HSn := Lib.hid (show ((L2.take (c + 1)).map fun y => L1.count y).sum = S + L1.count xc by rw [sum_take_next _ _ _ hcL, HS.out, hxc])
          have HXc := Lib.hid hxc
          have HGs2 := Lib.hid hgs2
          have HCs2 := Lib.hid hcs2
          have HcL := Lib.hid hcL
          clear hxc hgs2 hcs2 hlt
          go_wp2
          go_loopw [23, 25] (fun s k wq => ∃ j : Nat, j ≤ N1 ∧ k = .int .i64 j ∧ s = .int .i64 (S + (L1.take j).count xc : Nat) ∧ Hid (Below w10.heap.size w10 wq)) (fun _ k _ => N1 - (intOf k).toNat)
          case atStart => exact ⟨0, Nat.zero_le _, rfl, rfl, HB⟩
          case round =>
            obtain ⟨j, hj, rfl, rfl, HBq⟩ := hrel
            obtain ⟨V, hV⟩ : ∃ V, (L1.take j).count xc = V := ⟨_, rfl⟩
            have hV1 : V ≤ 1 := by rw [← hV]; exact count_le_one HO1.out xc j
            have HV := Lib.hid hV
            rw [hV]
            clear hV
            by_cases hlj : j < N1
            · have hji : (j : Int) < (N1 : Int) := by omega
              have HLj := Lib.hid hlj
              have hjL : j < L1.length := by rw [HN1.out]; exact hlj
              obtain ⟨g1, hg1, hgs1, hcs1⟩ := HCo.out (fun e => by rw [e] at hjL; simp at hjL)
              have hn := count_next L1 xc j hjL
              rw [HV.out] at hn
              have ca := (HBq.out.cell (p := ⟨g2, c, none⟩) HGs2.out).trans (HCs2.out c HcL.out)
              rw [HXc.out] at ca
              have cb := (HBq.out.cell (p := ⟨g1, j, none⟩) hgs1).trans (hcs1 j hjL)
              obtain ⟨xj, hxj⟩ : ∃ xj, L1[j] = xj := ⟨_, rfl⟩
              rw [hxj] at hn cb
              have j0 : (0 : Int) ≤ (j : Int) := by omega
              have c0 : (0 : Int) ≤ (c : Int) := by omega
              clear hxj hgs1 hcs1 hlj
              subst hg1
              rcases Nat.decEq xj xc with e | e
              · rw [if_neg e] at hn
                have hne : ((xc : Int) == (xj : Nat)) = false := by simp; omega
                clear e
                go_wp2
                go_region_held3 (fun w' => w'.cell? ⟨g2, c, none⟩ = some (.int .i64 (xc : Nat)) ∧ w'.cell? ⟨g1, j, none⟩ = some (.int .i64 (xj : Nat))) (first | exact ⟨ca, cb⟩) (first | fail)
                all_goals (
                  go_wp2
                  go_roundw
                  case rel => exact ⟨j + 1, by have := HLj.out; omega, by go_num, by rw [hn]; rfl, Lib.hid HBq.out.drew⟩
                  case measure => exact (show ∀ a j : Nat, a < j → j - ((a : Int) + 1).toNat < j - (a : Int).toNat from fun a j h => by omega) j N1 HLj.out)
              · rw [if_pos e] at hn
                subst e
                go_wp2
                go_region_held3 (fun w' => w'.cell? ⟨g2, c, none⟩ = some (.int .i64 (xj : Nat)) ∧ w'.cell? ⟨g1, j, none⟩ = some (.int .i64 (xj : Nat))) (first | exact ⟨ca, cb⟩) (first | fail)
                all_goals (
                  go_wp2
                  go_roundw
                  case rel => exact ⟨j + 1, by have := HLj.out; omega, by go_num, by rw [hn]; go_num, Lib.hid HBq.out.drew⟩
                  case measure => exact (show ∀ a j : Nat, a < j → j - ((a : Int) + 1).toNat < j - (a : Int).toNat from fun a j h => by omega) j N1 HLj.out)
            · have hji : ¬ (j : Int) < (N1 : Int) := by omega
              have hVt : V = L1.count xc := by rw [← HV.out, List.take_of_length_le (by rw [HN1.out]; omega)]
              have HSn' := HSn.out
              rw [← hVt] at HSn'
              have HSk := Lib.hid HSn'
              clear hVt HSn' HV
              go_wp2
              go_loopw [26] (fun k wz => ∃ a : Nat, a ≤ c ∧ k = .int .i64 a ∧ Hid (Below w10.heap.size w10 wz)) (fun k _ => c - (intOf k).toNat)
              case atStart => exact ⟨0, Nat.zero_le _, rfl, HBq⟩
              case round =>
                obtain ⟨a, ha, rfl, HBz⟩ := hrel
                by_cases hla : a < c
                · have hai : (a : Int) < (c : Int) := by omega
                  have HLa := Lib.hid hla
                  have haL : a < L2.length := by have := HcL.out; omega
                  have ca := (HBz.out.cell (p := ⟨g2, a, none⟩) HGs2.out).trans (HCs2.out a haL)
                  have cb := (HBz.out.cell (p := ⟨g2, c, none⟩) HGs2.out).trans (HCs2.out c HcL.out)
                  have hdif : L2[a] ≠ L2[c]'HcL.out := fun e => by
                    have := (List.getElem_inj HO2.out).1 e
                    omega
                  rw [HXc.out] at cb hdif
                  obtain ⟨xa, hxa⟩ : ∃ xa, L2[a] = xa := ⟨_, rfl⟩
                  rw [hxa] at ca hdif
                  have hne : ((xc : Int) == (xa : Nat)) = false := by simp; omega
                  have a0 : (0 : Int) ≤ (a : Int) := by omega
                  have aN : (a : Int) < (N2 : Int) := by omega
                  have c0 : (0 : Int) ≤ (c : Int) := by omega
                  clear hxa hdif haL hla
                  go_wp2
                  go_region_held3 (fun w' => w'.cell? ⟨g2, c, none⟩ = some (.int .i64 (xc : Nat)) ∧ w'.cell? ⟨g2, a, none⟩ = some (.int .i64 (xa : Nat))) (first | exact ⟨cb, ca⟩) (first | fail)
                  all_goals (
                    go_wp2
                    go_roundw
                    case rel => exact ⟨a + 1, by have := HLa.out; omega, by go_num, Lib.hid HBz.out.drew⟩
                    case measure => exact (show ∀ a j : Nat, a < j → j - ((a : Int) + 1).toNat < j - (a : Int).toNat from fun a j h => by omega) a c HLa.out)
                · have hai : ¬ (a : Int) < (c : Int) := by omega
                  go_wp2
                  go_roundw
                  case rel => exact ⟨c + 1, by have := HLt.out; omega, by go_num, by rw [HSk.out]; go_num, HBz⟩
                  case measure => exact (show ∀ a j : Nat, a < j → j - ((a : Int) + 1).toNat < j - (a : Int).toNat from fun a j h => by omega) c N2 HLt.out
        · have hci : ¬ (c : Int) < (N2 : Int) := by omega
          have hSt : S + t2 = N2 := by
            have h1 := HSum.out
            rw [← HS.out, List.take_of_length_le (by rw [HN2'.out]; omega)]
            exact h1
          have h11 := H10.out.later HB.out
          have CLf2 := left300 h11
          rw [HLf2.out] at CLf2
          have hl1 : lf1 ≤ 299 := by rw [← HLf1.out]; omega
          have hl2 : lf2 ≤ 299 := by rw [← HLf2.out]; omega
          have hLS : ((lf1 : Int) - (lf2 : Int) == (N2 : Int) - (S : Int)) = true := by
            rw [HLf.out, beq_iff_eq]
            omega
          have HBe := Lib.hid (HBs.out.trans (HB.out.mono HBs.out.size))
          have CF := fun w => fixed11_any w
          clear h11
          go_wp2_with fail
          refine CLf2.mono ?_
          rintro e w' ⟨rfl, rfl⟩
          have hAZ : ((A.toList == Z.toList) = false ∧ (A.toList != Z.toList) = true ∧ ¬ A.toList = Z.toList) ∨ (A = Z ∧ S = N2 ∧ lf2 = lf1) := by
            by_cases e : A = Z
            · have := HSame.out e
              exact .inr ⟨e, by omega, by rw [← HLf1.out, ← HLf2.out]; omega⟩
            · have h := texts_ne e
              refine .inl ⟨h.1, h.2, fun e2 => ?_⟩
              rw [e2] at h
              simp at h
          rcases hAZ with ⟨hq1, hq2, hq3⟩ | ⟨hq, hNS, hLL⟩
          · go_wp2_with fail
            all_goals (
              refine (CF _).mono ?_
              rintro e w' ⟨rfl, hB9⟩
              have HB9 := Lib.hid (HBe.out.trans (hB9.mono HBe.out.size))
              clear hB9
              go_wp2
              go_ret
              exact ⟨rfl, HB9.out⟩)
          · subst hq
            subst hNS
            subst hLL
            go_wp2_with fail
            all_goals (
              refine (CF _).mono ?_
              rintro e w' ⟨rfl, hB9⟩
              have HB9 := Lib.hid (HBe.out.trans (hB9.mono HBe.out.size))
              clear hB9
              go_wp2
              go_ret
              exact ⟨rfl, HB9.out⟩)
    · have hlong : (16384 : Int) < (Z.size : Int) := by omega
      have CS2 := fun w => store_long (pl := pl) (l := l) (r1 : Nat) (A.size : Nat) Z (by omega) w
      unfold srcV blobV at CS2
      go_wp2_with fail
      refine (CS2 _).mono ?_
      rintro e w6 ⟨rfl, hB6⟩
      have HB6 := Lib.hid (H5.out.vw.below.trans (hB6.mono H5.out.vw.below.size))
      clear hB6 CS2 d0 d1
      have CF' := fun W (hW : Below w6.heap.size w6 W) => fixed11_any W
      go_wp2_with fail
      refine (CF' _ ((Below.refl _ _).alloc (Nat.le_refl _) _)).mono ?_
      rintro e w7 ⟨rfl, hB7⟩
      have HB7 := Lib.hid ((HB6.out.alloc HB6.out.size _).trans (hB7.mono (Nat.le_trans HB6.out.size (by simp))))
      clear hB7 CF'
      go_wp2
      go_ret
      exact ⟨rfl, HB7.out⟩
  · have hlong : (16384 : Int) < (A.size : Int) := by omega
    have CS := fun w => store_long (pl := pl) (l := l) 0 0 A (by omega) w
    unfold srcV blobV at CS
    go_wp2_with fail
    refine (CS _).mono ?_
    rintro e w3 ⟨rfl, hB3⟩
    have HB3 := Lib.hid (H2.out.vw.below.trans (hB3.mono H2.out.vw.below.size))
    clear hB3 CS
    have CF' := fun W (hW : Below w3.heap.size w3 W) => fixed11_any W
    go_wp2_with fail
    refine (CF' _ ((Below.refl _ _).alloc (Nat.le_refl _) _)).mono ?_
    rintro e w4 ⟨rfl, hB4⟩
    have HB4 := Lib.hid ((HB3.out.alloc HB3.out.size _).trans (hB4.mono (Nat.le_trans HB3.out.size (by simp))))
    clear hB4 CF'
    go_wp2
    go_ret
    exact ⟨rfl, HB4.out⟩
set_option maxRecDepth 100000 in
/-- WHAT THE WALK GIVES, for every argument that can be read. -/
theorem contract (H : Type) (enc : TypeId × Value → H) (W : World) (base : Nat) (args : Array Value) (ds gs : List (DataW H)) (before : List MemPlace)
    (hval : ∀ (j : Nat) t v, Tryz.f5.params[j]? = some t → args[j]? = some v → Value.okWide Tryz.prog W .any base t v)
    (hW : DataW.Whole enc Tryz.prog Tryz.f5.params.toList Rows.treeBackSpec.vars false W args.toList ds gs before)
    (hreach : (DataW.weightsEach Tryz.prog (Tryz.f5.params.toList) ds).all (· ≤ reachBytes) = true) :
    Calls Tryz.prog 5 args W fun e W' => ∃ v, e = .returned v ∧ Rows.treeBackSpec.post enc Tryz.prog Tryz.f5 false true false false W args v W' := by
  have hW' := hW
  obtain ⟨p, q, hA0, hV, rfl, hfz, hnd⟩ := hW
  have hA : DataW.TrodAll enc Tryz.prog W 0 (fun _ => true) true Tryz.f5.params.toList args.toList ds p := hA0
  rw [Tryz.params5] at hA hval hreach
  obtain ⟨v0, v1, d0, d1, p0, p1, rfl, rfl, rfl, h0, h1⟩ := trodAll_two hA
  obtain ⟨rfl, rfl⟩ := trodVars_none hV
  obtain ⟨s0, rfl, rfl, rfl, ws0⟩ := Go.ChangeMaps.open_string Tryz.underlying9 (hval 0 9 v0 rfl rfl) h0
  have r0 := reach_size (sized_string hreach (j := 0) rfl rfl)
  obtain ⟨s1, rfl, rfl, rfl, ws1⟩ := Go.ChangeMaps.open_string Tryz.underlying9 (hval 1 9 v1 rfl rfl) h1
  have r1 := reach_size (sized_string hreach (j := 1) rfl rfl)
  clear hA0 hval
  simp only [List.append_nil] at hW'
  refine (walk s0 s1 W r0 r1).mono fun e W' ⟨he, hB⟩ => ?_
  subst he
  exact ⟨_, rfl, post_of_below (pa := [] ++ ([])) (pv := []) hW' (fun _ _ _ => trodAll_mk1 (shut_bool Tryz.underlying4 _)) (fun sp hsp => trodAll_mk2 (Go.ChangeMaps.shut_string Tryz.underlying9 ws0) (Go.ChangeMaps.shut_string Tryz.underlying9 ws1)) (fun _ _ => rfl) (by simp) hB (ok_one (by kernel_rfl) rfl (okWide_bool_mk Tryz.underlying4 _))⟩

theorem reads (os : Os) {H : Type} (enc : TypeId × Value → H) : ∃ places, DataW.whole enc Tryz.prog ((laidWorld os).forCall (fun _ _ => 0) ⟨#[], #[.string ⟨#[]⟩, .string ⟨#[]⟩], []⟩).memory Tryz.f5.params.toList Rows.treeBackSpec.vars false (#[.string ⟨#[]⟩, .string ⟨#[]⟩] : Array Value).toList 8 = some ([.lit (.string []), .lit (.string [])], [], places) :=
  ⟨[], by kernel_rfl⟩

set_option maxRecDepth 100000 in
theorem lifted (os : Os) (started : os.Started) (H : Type) (enc : TypeId × Value → H) (F : Stop.Interp) :
    ReturnsInHanded {} Tryz.checked os 5 .any ((OpenSpec.ofChange Rows.treeBackSpec).preRow enc Tryz.prog Tryz.f5 Rows.treeBackRow.domain false Rows.treeBackRow.laid) (((OpenSpec.ofChange Rows.treeBackSpec).at F).post enc Tryz.prog Tryz.f5 false true false false) := by
  obtain ⟨places, hx⟩ := reads os enc
  refine returnsInHanded_of_row (C := Tryz.checked) (s := OpenSpec.ofChange Rows.treeBackSpec) own started (by kernel_rfl) Tryz.func5
    (witness_row_at (enc := enc) (C := Tryz.checked) false (laidWorld os) #[.string ⟨#[]⟩, .string ⟨#[]⟩] rfl (by kernel_rfl) (by kernel_rfl) (by kernel_rfl)
      (OpenSpec.preRow_of_cond 8 hx (by kernel_rfl) (fun k hk => by cases hk) (by kernel_rfl) (laid_met os _))) ?_
  intro W base args ds gs before hval hW _ hcond hreach hL _ _
  obtain ⟨p, q, hA0, hV, hpq, hfz, hnd⟩ := id hW
  obtain ⟨rfl, _⟩ := trodVars_none hV
  rw [List.append_nil] at hreach
  exact contract H enc W base args ds [] before hval hW hreach

theorem said : Rows.TreeBackSaid :=
  OpenClaim.holds_of_cond 5 Tryz.f5 rfl rfl rfl rfl rfl rfl rfl ⟨rfl, rfl, rfl, rfl, rfl⟩ rfl rfl rfl rfl rfl (by kernel_rfl) Tryz.func5 (by kernel_rfl)
    (of_decide_eq_true (by kernel_rfl)) (by unfold Func.isWrapper; first | (rw [if_pos (by decide +kernel)]; kernel_rfl) | (rw [if_neg (by decide +kernel)]; exact ⟨rfl, rfl⟩))
    (fun os started H enc _ F => by rw [OpenClaim.pre_eq_preRow]; exact lifted os started H enc F)



end Go.Proofs.YtaniajldnkcbjaaGreat.tback

