/-
  The blocks of bytes that were stored: the root is reached first, every block once, each among those that there are; bytes of none reach nothing: for every text, of which the first 17,000 bytes are taken.
  Conditions: none besides the row's own.
-/
import Derived.Test.YtaniajldnkcbjaaGreatTN
namespace Go.Proofs.YtaniajldnkcbjaaGreat.treach
open Go.ChangeShapes Go.WideShapes Go.ChangeAt Go.RowKit Go.Shelf Go Go.Maps SM PL AL TR

set_option maxRecDepth 100000 in
set_option maxHeartbeats 8000000 in
theorem walk (s : ByteArray) (w : World) (hs : s.size ≤ 140737488351232) :
    Calls Tryz.prog 8 #[.string s] w fun r w' => r = .returned (.bool true) ∧ Below w.heap.size w w' := by
  have CB := fun w => bytesT_any s (by omega) w
  have hT17 := cutT_size s
  obtain ⟨T, hT⟩ : ∃ T, cutT s = T := ⟨_, rfl⟩
  rw [hT] at CB hT17
  clear hT
  have CL := fun w => laid_tree 300 (by omega) (by omega) w
  have CN := fun w => pool_new 300 (by omega) (by omega) w
  have CL' : ∀ w, Calls Tryz.prog 12 #[.int .i64 300] w _ := CL
  have CN' : ∀ w, Calls Tryz.prog 21 #[.string ⟨#[]⟩, .int .i64 300, .int .i64 1] w _ := CN
  have CF := fun w => fixed11_any w
  have CSh := fun (h : T.size ≤ 16384) w => shape_nat T.size h w
  clear CL CN
  go_enter Tryz.func8, Tryz.ntmps8
  go_wp2_with fail
  refine (CB _).mono ?_
  rintro e w' ⟨rfl, rfl⟩
  go_wp2_with fail
  refine (CL' _).mono ?_
  rintro e w1 ⟨l, b, g, m, c, r, q, d, rfl, hl⟩
  have HL := Lib.hid hl
  clear hl CL' CB
  go_wp2_with fail
  refine (CN' _).mono ?_
  rintro e w2 ⟨pl, rfl, ⟨F, hp⟩, hB2⟩
  have H2 := Lib.hid (TB.start HL.out (by omega) (by omega) hB2 hp (fun _ => []))
  clear hp hB2 CN'
  by_cases h16 : T.size ≤ 16384
  · have CSh' := CSh h16
    obtain ⟨R, hR⟩ : ∃ R, storeLv (decide ((rowsL T.size).length = ([] : List (List Nat)).length)) (rowsL T.size) true [] [] T.data.toList (fun _ => []) ((ord [] 300 1).drop 0) = R := ⟨_, rfl⟩
    have CS := H2.out.store (TT.nil [] 300 1 0 (fun _ => []) (fun _ => False)) T h16 hR
    have CS' : Calls Tryz.prog 22 #[srcV l, .agg #[.int .i64 0, .int .i64 0], .string T, .pointer (some ⟨pl, 0, none⟩)] w2 _ := CS
    have hTl := len_of T
    unfold srcV at CS'
    clear CS hR
    go_wp2_with fail
    refine CS'.mono ?_
    rintro e w3 ⟨t, x3, P3, o, h3, hk3, hP3, hres⟩
    have hok : R.ok = true := room_ok (by rw [hTl]; exact h16) o (by rw [ord300]; omega)
    have he : e = .returned (.tuple #[blobV (rootOf R.lv) T.size, .int .i64 0]) := by
      rcases hres with ⟨_, he⟩ | ⟨he, _⟩
      · exact he
      · rw [hok] at he; cases he
    subst he
    have HT := Lib.hid ((TT.nil [] 300 1 0 (fun _ => []) (fun _ => False)).store (bt := T.data.toList) (by rw [hTl]; exact h16) o hok)
    have H3 := Lib.hid h3
    generalize R.mem = M3 at *
    generalize R.lv = lv at *
    clear o h3 hk3 hP3 hres hok CS'
    unfold blobV
    obtain ⟨rt, hrt⟩ : ∃ rt, rootOf lv = rt := ⟨_, rfl⟩
    obtain ⟨w4, hw4⟩ : ∃ w4, w3.alloc (.cells #[.int .i64 (rt : Nat), .int .i64 (T.size : Nat)] 29) = w4 := ⟨_, rfl⟩
    have hB4 : Below w3.heap.size w3 w4 := by rw [← hw4]; exact (Below.refl _ w3).alloc (Nat.le_refl _) _
    have hob4 : w4.heap[w3.heap.size]? = some (.cells #[.int .i64 (rt : Nat), .int .i64 (T.size : Nat)] 29 (0, 0)) := by rw [← hw4]; exact heap_alloc_new _ _
    have d0 : w4.cell? ⟨w3.heap.size, 0, none⟩ = some (.int .i64 (rt : Nat)) := by simp [World.cell?, hob4]
    have d1 : w4.cell? ⟨w3.heap.size, 1, none⟩ = some (.int .i64 (T.size : Nat)) := by simp [World.cell?, hob4]
    have H4 := Lib.hid (H3.out.later hB4)
    have CR := H4.out.reach HT.out
    rw [hTl, hrt] at CR
    have HO4 := Lib.hid hob4
    have HRt := Lib.hid hrt
    unfold srcV blobV at CR
    obtain ⟨o4, ho4⟩ : ∃ o4, w3.heap.size = o4 := ⟨_, rfl⟩
    rw [ho4] at d0 d1 HO4
    rw [hrt]
    have hcnt := HT.out.count.1
    rw [hTl] at hcnt
    obtain ⟨N, hN⟩ : ∃ N, (orderT lv).length = N := ⟨_, rfl⟩
    rw [hN] at hcnt
    rw [← hcnt] at CSh'
    have hN72 : N ≤ 72 := by rw [hcnt]; exact (rows_sum h16).1
    have HNl := Lib.hid hN
    obtain ⟨qe, hq1, hq2⟩ : ∃ qe : Bool, ((N : Int) == 0) = qe ∧ T.toList.isEmpty = qe := by
      by_cases h0 : T.size = 0
      · have e1 : N = 0 := by rw [hcnt, rows_sum_zero h16]; exact h0
        have e2 : T = ⟨#[]⟩ := by
          apply ByteArray.ext
          exact Array.eq_empty_of_size_eq_zero h0
        subst e1
        rw [e2]
        exact ⟨true, by decide, by rw [ByteArray.toList_eq]; rfl⟩
      · have e1 : N ≠ 0 := fun e => h0 ((rows_sum_zero h16).1 (by rw [← hcnt]; exact e))
        refine ⟨false, by simp; omega, ?_⟩
        rw [ByteArray.toList_eq]
        cases hL : T.data.toList with
        | nil => exact absurd (by rw [← hTl, hL]; rfl) h0
        | cons _ _ => rfl
    have hq3 : (!qe == qe) = false := by cases qe <;> rfl
    clear hB4 hob4 H3 hN hcnt
    go_wp2_with fail
    refine CR.mono ?_
    rintro e w5 ⟨v, rfl, hrow, x5, h5, hk5⟩
    obtain ⟨a5, cap5, rfl, hcell⟩ := ints_row hrow
    rw [HNl.out]
    have H5 := Lib.hid h5
    have hO5 := hk5.kept HO4.out (by unfold VK; decide)
    have c0 : w5.cell? ⟨o4, 0, none⟩ = some (.int .i64 (rt : Nat)) := by simp [World.cell?, hO5]
    have c1 : w5.cell? ⟨o4, 1, none⟩ = some (.int .i64 (T.size : Nat)) := by simp [World.cell?, hO5]
    have HO5 := Lib.hid (lt_of_heap hO5)
    have HCell := Lib.hid hcell
    clear CR d0 d1 hrow h5 hk5 hcell hO5
    go_wp2_with fail
    refine (CSh' _).mono ?_
    rintro e w' ⟨rfl, rfl⟩
    have hord := HT.out.order
    have HOr := Lib.hid hord
    have HBs := Lib.hid H5.out.vw.below
    clear hord CSh' CF
    go_wp2
    go_loopw [12] (fun i wr => ∃ j : Nat, j ≤ N ∧ i = .int .i64 j ∧ Hid (Below w5.heap.size w5 wr)) (fun i _ => N - (intOf i).toNat)
    case atStart => exact ⟨0, Nat.zero_le _, rfl, Lib.hid (Below.refl _ _)⟩
    case round =>
      obtain ⟨j, hj, rfl, HB⟩ := hrel
      by_cases hlt : j < N
      · have hji : (j : Int) < (N : Int) := by omega
        have HLt := Lib.hid hlt
        have hjL : j < (orderT lv).length := by rw [HNl.out]; exact hlt
        obtain ⟨g5, hg5, hgs, hcs⟩ := HCell.out (fun e => by rw [e] at hjL; simp at hjL)
        subst hg5
        have cj := (HB.out.cell (p := ⟨g5, j, none⟩) hgs).trans (hcs j hjL)
        have cr := (HB.out.cell (p := ⟨o4, 0, none⟩) HO5.out).trans c0
        have hx := HOr.out.2.1 _ (List.getElem_mem hjL)
        have HGs := Lib.hid hgs
        have HCs := Lib.hid hcs
        have HX0 := Lib.hid (show j = 0 → (orderT lv)[j] = rt from fun e => by subst e; rw [HOr.out.2.2 hjL]; exact HRt.out)
        obtain ⟨xj, hxj⟩ : ∃ xj, (orderT lv)[j] = xj := ⟨_, rfl⟩
        have HXj := Lib.hid hxj
        rw [hxj] at cj hx HX0
        have x1 : decide ((xj : Int) < 1) = false := decide_eq_false (by omega)
        have x2 : decide ((299 : Int) < (xj : Int)) = false := decide_eq_false (by omega)
        have hn0 : (0 : Int) ≤ (j : Int) := by omega
        have HjL := Lib.hid hjL
        clear hxj hgs hcs hx hlt c0 c1
        have hj0 : (((j : Int) == 0) = true ∧ xj = rt) ∨ ((j : Int) == 0) = false := by
          by_cases e : j = 0
          · exact .inl ⟨by simp; omega, HX0.out e⟩
          · right; simp; omega
        rcases hj0 with hj0 | hj0
        · obtain ⟨hj0, e1⟩ := hj0
          rw [e1] at cj x1 x2 HXj
          go_wp2
          go_region_held3 (fun w' => w'.cell? ⟨g5, j, none⟩ = some (.int .i64 (rt : Nat)) ∧ w'.cell? ⟨o4, 0, none⟩ = some (.int .i64 (rt : Nat))) (first | exact ⟨cj, cr⟩) (first | fail)
          all_goals (
            obtain ⟨wt, hwt⟩ : ∃ wt, wr.drew = wt := ⟨_, rfl⟩
            have HBt := Lib.hid (show Below w5.heap.size w5 wt by rw [← hwt]; exact HB.out.drew)
            go_wp2
            rw [hwt]
            clear cj cr hwt hj0
            go_loopw [13] (fun k wq => ∃ a : Nat, a ≤ j ∧ k = .int .i64 a ∧ Hid (Below w5.heap.size w5 wq)) (fun k _ => j - (intOf k).toNat)
            case atStart => exact ⟨0, Nat.zero_le _, rfl, HBt⟩
            case round =>
              obtain ⟨a, ha, rfl, HBq⟩ := hrel
              by_cases hla : a < j
              · have hai : (a : Int) < (j : Int) := by omega
                have HLa := Lib.hid hla
                have haL : a < (orderT lv).length := by have := HjL.out; omega
                have ca := (HBq.out.cell (p := ⟨g5, a, none⟩) HGs.out).trans (HCs.out a haL)
                have cb := (HBq.out.cell (p := ⟨g5, j, none⟩) HGs.out).trans (HCs.out j HjL.out)
                have hdif : (orderT lv)[a] ≠ (orderT lv)[j]'HjL.out := fun e => by
                  have := (List.getElem_inj HOr.out.1).1 e
                  omega
                rw [HXj.out] at cb hdif
                obtain ⟨xa, hxa⟩ : ∃ xa, (orderT lv)[a] = xa := ⟨_, rfl⟩
                rw [hxa] at ca hdif
                have hne : ((xa : Int) == (rt : Nat)) = false := by simp; omega
                have a0 : (0 : Int) ≤ (a : Int) := by omega
                have aN : (a : Int) < (N : Int) := by omega
                clear hxa hdif haL hla
                go_wp2
                go_region_held3 (fun w' => w'.cell? ⟨g5, a, none⟩ = some (.int .i64 (xa : Nat)) ∧ w'.cell? ⟨g5, j, none⟩ = some (.int .i64 (rt : Nat))) (first | exact ⟨ca, cb⟩) (first | fail)
                all_goals (
                  go_wp2
                  go_roundw
                  case rel => exact ⟨a + 1, by have := HLa.out; omega, by go_num, Lib.hid HBq.out.drew⟩
                  case measure => exact (show ∀ a j : Nat, a < j → j - ((a : Int) + 1).toNat < j - (a : Int).toNat from fun a j h => by omega) a j HLa.out)
              · have hai : ¬ (a : Int) < (j : Int) := by omega
                go_wp2
                go_roundw
                case rel => exact ⟨j + 1, by have := HLt.out; omega, by go_num, HBq⟩
                case measure => exact (show ∀ a j : Nat, a < j → j - ((a : Int) + 1).toNat < j - (a : Int).toNat from fun a j h => by omega) j N HLt.out)
        · skip
          go_wp2
          go_quiet (fail)
          all_goals (
            generalize hwt : World.drewN wr _ = wt
            have HBt := Lib.hid (show Below w5.heap.size w5 wt by rw [← hwt]; exact below_drewN HB.out _)
            go_wp2
            clear cj cr hwt hj0
            go_loopw [13] (fun k wq => ∃ a : Nat, a ≤ j ∧ k = .int .i64 a ∧ Hid (Below w5.heap.size w5 wq)) (fun k _ => j - (intOf k).toNat)
            case atStart => exact ⟨0, Nat.zero_le _, rfl, HBt⟩
            case round =>
              obtain ⟨a, ha, rfl, HBq⟩ := hrel
              by_cases hla : a < j
              · have hai : (a : Int) < (j : Int) := by omega
                have HLa := Lib.hid hla
                have haL : a < (orderT lv).length := by have := HjL.out; omega
                have ca := (HBq.out.cell (p := ⟨g5, a, none⟩) HGs.out).trans (HCs.out a haL)
                have cb := (HBq.out.cell (p := ⟨g5, j, none⟩) HGs.out).trans (HCs.out j HjL.out)
                have hdif : (orderT lv)[a] ≠ (orderT lv)[j]'HjL.out := fun e => by
                  have := (List.getElem_inj HOr.out.1).1 e
                  omega
                rw [HXj.out] at cb hdif
                obtain ⟨xa, hxa⟩ : ∃ xa, (orderT lv)[a] = xa := ⟨_, rfl⟩
                rw [hxa] at ca hdif
                have hne : ((xa : Int) == (xj : Nat)) = false := by simp; omega
                have a0 : (0 : Int) ≤ (a : Int) := by omega
                have aN : (a : Int) < (N : Int) := by omega
                clear hxa hdif haL hla
                go_wp2
                go_region_held3 (fun w' => w'.cell? ⟨g5, a, none⟩ = some (.int .i64 (xa : Nat)) ∧ w'.cell? ⟨g5, j, none⟩ = some (.int .i64 (xj : Nat))) (first | exact ⟨ca, cb⟩) (first | fail)
                all_goals (
                  go_wp2
                  go_roundw
                  case rel => exact ⟨a + 1, by have := HLa.out; omega, by go_num, Lib.hid HBq.out.drew⟩
                  case measure => exact (show ∀ a j : Nat, a < j → j - ((a : Int) + 1).toNat < j - (a : Int).toNat from fun a j h => by omega) a j HLa.out)
              · have hai : ¬ (a : Int) < (j : Int) := by omega
                go_wp2
                go_roundw
                case rel => exact ⟨j + 1, by have := HLt.out; omega, by go_num, HBq⟩
                case measure => exact (show ∀ a j : Nat, a < j → j - ((a : Int) + 1).toNat < j - (a : Int).toNat from fun a j h => by omega) j N HLt.out)
      · have hji : ¬ (j : Int) < (N : Int) := by omega
        have HBe := Lib.hid (HBs.out.trans (HB.out.mono HBs.out.size))
        clear c0 c1
        go_wp2_with fail
        refine (fixed11_any _).mono ?_
        rintro e w9 ⟨rfl, hB9⟩
        have HB9 := Lib.hid (HBe.out.trans (hB9.mono HBe.out.size))
        clear hB9
        go_wp2
        go_ret
        exact ⟨rfl, HB9.out⟩
  · have hlong : (16384 : Int) < (T.size : Int) := by omega
    have CS' := store_long (pl := pl) (l := l) 0 0 T (by omega) w2
    unfold srcV blobV at CS'
    go_wp2_with fail
    refine CS'.mono ?_
    rintro e w3 ⟨rfl, hB3⟩
    have HB3 := Lib.hid (H2.out.vw.below.trans (hB3.mono H2.out.vw.below.size))
    clear hB3 CS'
    have CF' := fun W (hW : Below w3.heap.size w3 W) => fixed11_any W
    go_wp2_with fail
    refine (CF' _ ((Below.refl _ _).alloc (Nat.le_refl _) _)).mono ?_
    rintro e w4 ⟨rfl, hB4⟩
    have HB4 := Lib.hid ((HB3.out.alloc HB3.out.size _).trans (hB4.mono (Nat.le_trans HB3.out.size (by simp))))
    clear hB4 CF'
    go_wp2
    go_ret
    exact ⟨rfl, HB4.out⟩
set_option maxRecDepth 100000 in
/-- WHAT THE WALK GIVES, for every argument that can be read. -/
theorem contract (H : Type) (enc : TypeId × Value → H) (W : World) (base : Nat) (args : Array Value) (ds gs : List (DataW H)) (before : List MemPlace)
    (hval : ∀ (j : Nat) t v, Tryz.f8.params[j]? = some t → args[j]? = some v → Value.okWide Tryz.prog W .any base t v)
    (hW : DataW.Whole enc Tryz.prog Tryz.f8.params.toList Rows.treeReachSpec.vars false W args.toList ds gs before)
    (hreach : (DataW.weightsEach Tryz.prog (Tryz.f8.params.toList) ds).all (· ≤ reachBytes) = true) :
    Calls Tryz.prog 8 args W fun e W' => ∃ v, e = .returned v ∧ Rows.treeReachSpec.post enc Tryz.prog Tryz.f8 false true false false W args v W' := by
  have hW' := hW
  obtain ⟨p, q, hA0, hV, rfl, hfz, hnd⟩ := hW
  have hA : DataW.TrodAll enc Tryz.prog W 0 (fun _ => true) true Tryz.f8.params.toList args.toList ds p := hA0
  rw [Tryz.params8] at hA hval hreach
  obtain ⟨v0, d0, rfl, rfl, h0⟩ := trodAll_one hA
  obtain ⟨rfl, rfl⟩ := trodVars_none hV
  obtain ⟨s0, rfl, rfl, rfl, ws0⟩ := Go.ChangeMaps.open_string Tryz.underlying9 (hval 0 9 v0 rfl rfl) h0
  have r0 := reach_size (sized_string hreach (j := 0) rfl rfl)
  clear hA0 hval
  simp only [List.append_nil] at hW'
  refine (walk s0 W r0).mono fun e W' ⟨he, hB⟩ => ?_
  subst he
  exact ⟨_, rfl, post_of_below (pa := []) (pv := []) hW' (fun _ _ _ => trodAll_mk1 (shut_bool Tryz.underlying4 _)) (fun sp hsp => trodAll_mk1 (Go.ChangeMaps.shut_string Tryz.underlying9 ws0)) (fun _ _ => rfl) (by simp) hB (ok_one (by kernel_rfl) rfl (okWide_bool_mk Tryz.underlying4 _))⟩

theorem reads (os : Os) {H : Type} (enc : TypeId × Value → H) : ∃ places, DataW.whole enc Tryz.prog ((laidWorld os).forCall (fun _ _ => 0) ⟨#[], #[.string ⟨#[]⟩], []⟩).memory Tryz.f8.params.toList Rows.treeReachSpec.vars false (#[.string ⟨#[]⟩] : Array Value).toList 8 = some ([.lit (.string [])], [], places) :=
  ⟨[], by kernel_rfl⟩

set_option maxRecDepth 100000 in
theorem lifted (os : Os) (started : os.Started) (H : Type) (enc : TypeId × Value → H) (F : Stop.Interp) :
    ReturnsInHanded {} Tryz.checked os 8 .any ((OpenSpec.ofChange Rows.treeReachSpec).preRow enc Tryz.prog Tryz.f8 Rows.treeReachRow.domain false Rows.treeReachRow.laid) (((OpenSpec.ofChange Rows.treeReachSpec).at F).post enc Tryz.prog Tryz.f8 false true false false) := by
  obtain ⟨places, hx⟩ := reads os enc
  refine returnsInHanded_of_row (C := Tryz.checked) (s := OpenSpec.ofChange Rows.treeReachSpec) own started (by kernel_rfl) Tryz.func8
    (witness_row_at (enc := enc) (C := Tryz.checked) false (laidWorld os) #[.string ⟨#[]⟩] rfl (by kernel_rfl) (by kernel_rfl) (by kernel_rfl)
      (OpenSpec.preRow_of_cond 8 hx (by kernel_rfl) (fun k hk => by cases hk) (by kernel_rfl) (laid_met os _))) ?_
  intro W base args ds gs before hval hW _ hcond hreach hL _ _
  obtain ⟨p, q, hA0, hV, hpq, hfz, hnd⟩ := id hW
  obtain ⟨rfl, _⟩ := trodVars_none hV
  rw [List.append_nil] at hreach
  exact contract H enc W base args ds [] before hval hW hreach

theorem said : Rows.TreeReachSaid :=
  OpenClaim.holds_of_cond 8 Tryz.f8 rfl rfl rfl rfl rfl rfl rfl ⟨rfl, rfl, rfl, rfl, rfl⟩ rfl rfl rfl rfl rfl (by kernel_rfl) Tryz.func8 (by kernel_rfl)
    (of_decide_eq_true (by kernel_rfl)) (by unfold Func.isWrapper; first | (rw [if_pos (by decide +kernel)]; kernel_rfl) | (rw [if_neg (by decide +kernel)]; exact ⟨rfl, rfl⟩))
    (fun os started H enc _ F => by rw [OpenClaim.pre_eq_preRow]; exact lifted os started H enc F)



end Go.Proofs.YtaniajldnkcbjaaGreat.treach

