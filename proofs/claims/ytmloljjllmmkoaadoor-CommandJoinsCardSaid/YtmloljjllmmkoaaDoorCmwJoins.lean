/-
  For every text: a path are its names, each with a / ahead; the root has none; at most eight.
  Conditions: none besides the row's own.
-/
import Derived.Test.YtmloljjllmmkoaaDoorCmdX
namespace Go.Proofs.YtmloljjllmmkoaaDoor.cjoins
open Go.Proofs.YtmloljjllmmkoaaDoor
open Go.ChangeShapes Go.WideShapes Go.ChangeAt Go.RowKit Go

theorem slashes_take {l : List ByteArray} {j : Nat} (h : j < l.length) : bs (slashes (l.take (j + 1))) = bs (slashes (l.take j)) ++ ((⟨#[47]⟩ : ByteArray) ++ l[j]) := by
  unfold slashes
  rw [List.take_succ_eq_append_getElem h, List.flatMap_append]
  apply ba_ext
  rw [bs_list, ByteArray.data_append, Array.toList_append, bs_list, ByteArray.data_append, Array.toList_append]
  simp only [List.flatMap_cons, List.flatMap_nil, List.append_nil]
  rfl
theorem slashes_len : ∀ {l : List ByteArray}, (∀ n ∈ l, NameOk n) → (slashes l).length ≤ 17 * l.length
  | [], _ => by simp [slashes]
  | p :: r, h => by
    have ih := slashes_len (l := r) (fun n hn => h n (List.mem_cons_of_mem _ hn))
    have hp := (h p (by simp)).2.1
    have hs : p.data.toList.length = p.size := Array.length_toList (xs := p.data)
    show (47 :: p.data.toList ++ slashes r).length ≤ _
    simp only [List.length_append, List.length_cons]
    omega
set_option maxRecDepth 100000 in
set_option maxHeartbeats 4000000 in
theorem walk (s : ByteArray) (W : World) (hs : s.size ≤ 140737488351232) (hg : GE W) :
    Calls Tryd.prog 7 #[.string s] W fun e W' => e = .returned (.bool true) ∧ Below W.heap.size W W' := by
  have CP := path_any s (by omega) W
  unfold PathE at CP
  have HG := Lib.hid hg
  clear hg
  go_enter Tryd.func7, Tryd.ntmps7
  go_wp2_with fail
  refine CP.mono ?_
  rintro e w1 ⟨hp, hB1⟩
  have CF := fixed13_any w1 (HG.out.below hB1)
  have HB1 := Lib.hid hB1
  have hsz1 := hB1.size
  clear hB1 CP
  rcases hp with ⟨l, v, hl, rfl, hrow⟩ | ⟨hno, rfl⟩
  · obtain ⟨a, cap, rfl, hc⟩ := texts_of_row hrow
    have HL := Lib.hid hl
    have HC := Lib.hid hc
    have hl8 : l.length ≤ 8 := hl.2.1
    have HN := Lib.hid hl.1
    clear hl hc hrow
    obtain ⟨N, hN⟩ : ∃ N, l.length = N := ⟨_, rfl⟩
    have HNl := Lib.hid hN
    rw [hN] at hl8 ⊢
    clear hN
    go_wp2
    go_loop [5, 6] (fun t i => ∃ j : Nat, j ≤ N ∧ i = .int .i64 j ∧ t = .string (bs (slashes (l.take j)))) (fun _ i => N - (intOf i).toNat)
    case atStart => exact ⟨0, Nat.zero_le _, rfl, rfl⟩
    case round =>
      obtain ⟨j, hj, rfl, rfl⟩ := hrel
      by_cases hlt : j < N
      · have hji : (j : Int) < (N : Int) := by omega
        have hjl : j < l.length := by rw [HNl.out]; exact hlt
        obtain ⟨b, off, rfl, hx⟩ := HC.out (by rintro rfl; simp at hjl)
        have hcell := hx j hjl
        have HS := Lib.hid (slashes_take hjl)
        have hX := (HN.out l[j] (List.getElem_mem hjl)).2.1
        have hT : (bs (slashes (l.take j))).size ≤ 17 * 8 := by
          rw [bs_size]
          refine Nat.le_trans (slashes_len (fun n hn => HN.out n (List.mem_of_mem_take hn))) ?_
          rw [List.length_take]; omega
        generalize bs (slashes (l.take j)) = T at *
        generalize l[j] = X at *
        clear hx hjl
        go_wp2
        go_round
        case rel => exact ⟨j + 1, hlt, by go_num, by rw [HS.out]⟩
        case measure => simp [intOf]; omega
      · obtain rfl : j = N := by omega
        have ht : l.take j = l := List.take_of_length_le (by rw [HNl.out]; exact Nat.le_refl _)
        rw [ht]
        by_cases h0 : j = 0
        · have he : l = [] := List.eq_nil_of_length_eq_zero (by rw [HNl.out]; exact h0)
          subst h0
          have hs1 : s.toList = [47] := by
            rcases HL.out.2.2 with ⟨_, e⟩ | ⟨e, _⟩
            · rw [toList_eq]; exact e
            · exact absurd he e
          have b1 : (s.toList == [47]) = true := beq_iff_eq.2 hs1
          generalize bs (slashes l) = T at *
          clear hs1 he ht
          go_wp2_with fail
          refine CF.mono ?_
          rintro e w2 ⟨rfl, hB2⟩
          have HB2 := Lib.hid (HB1.out.trans (hB2.mono hsz1))
          clear hB2 CF
          go_wp2
          go_ret
          exact ⟨rfl, HB2.out⟩
        · have hne : l ≠ [] := by rintro rfl; have := HNl.out; simp at this; omega
          have hT : bs (slashes l) = s := by
            rw [slashes_join hne]
            rcases HL.out.2.2 with ⟨e, _⟩ | ⟨_, e⟩
            · exact absurd e hne
            · rw [← e, bs_self]
          rw [hT]
          have b1 : (s.toList == s.toList) = true := beq_iff_eq.2 rfl
          have hj0 : ((j : Int) == 0) = false := beq_eq_false_iff_ne.2 (by omega)
          have hjp : (0 : Int) < (j : Int) := by omega
          have hj8 : (j : Int) ≤ 8 := by omega
          clear ht hne hT h0
          go_wp2_with fail
          refine CF.mono ?_
          rintro e w2 ⟨rfl, hB2⟩
          have HB2 := Lib.hid (HB1.out.trans (hB2.mono hsz1))
          clear hB2 CF
          go_wp2
          go_ret
          exact ⟨rfl, HB2.out⟩
  · clear hno
    go_wp2_with fail
    refine CF.mono ?_
    rintro e w2 ⟨rfl, hB2⟩
    have HB2 := Lib.hid (HB1.out.trans (hB2.mono hsz1))
    clear hB2 CF
    go_wp2
    go_ret
    exact ⟨rfl, HB2.out⟩
set_option maxRecDepth 100000 in
/-- WHAT THE WALK GIVES, for every argument that can be read. -/
theorem contract (H : Type) (enc : TypeId × Value → H) (W : World) (base : Nat) (args : Array Value) (ds gs : List (DataW H)) (before : List MemPlace)
    (hval : ∀ (j : Nat) t v, Tryd.f7.params[j]? = some t → args[j]? = some v → Value.okWide Tryd.prog W .any base t v)
    (hW : DataW.Whole enc Tryd.prog Tryd.f7.params.toList Rows.commandJoinsSpec.vars false W args.toList ds gs before)
    (hreach : (DataW.weightsEach Tryd.prog (Tryd.f7.params.toList) ds).all (· ≤ reachBytes) = true) (hg : GE W) :
    Calls Tryd.prog 7 args W fun e W' => ∃ v, e = .returned v ∧ Rows.commandJoinsSpec.post enc Tryd.prog Tryd.f7 false true false false W args v W' := by
  have hW' := hW
  obtain ⟨p, q, hA0, hV, rfl, hfz, hnd⟩ := hW
  have hA : DataW.TrodAll enc Tryd.prog W 0 (fun _ => true) true Tryd.f7.params.toList args.toList ds p := hA0
  rw [Tryd.params7] at hA hval hreach
  obtain ⟨v0, d0, rfl, rfl, h0⟩ := trodAll_one hA
  obtain ⟨rfl, rfl⟩ := trodVars_none hV
  obtain ⟨s0, rfl, rfl, rfl, ws0⟩ := Go.ChangeMaps.open_string Tryd.underlying9 (hval 0 9 v0 rfl rfl) h0
  have r0 := reach_size (sized_string hreach (j := 0) rfl rfl)
  clear hA0 hval
  simp only [List.append_nil] at hW'
  refine (walk s0 W r0 hg).mono fun e W' ⟨he, hB⟩ => ?_
  subst he
  exact ⟨_, rfl, post_of_below (pa := []) (pv := []) hW' (fun _ _ _ => trodAll_mk1 (shut_bool Tryd.underlying4 _)) (fun sp hsp => trodAll_mk1 (Go.ChangeMaps.shut_string Tryd.underlying9 ws0)) (fun _ _ => rfl) (by simp) hB (ok_one (by kernel_rfl) rfl (okWide_bool_mk Tryd.underlying4 _))⟩

theorem reads (os : Os) {H : Type} (enc : TypeId × Value → H) : ∃ places, DataW.whole enc Tryd.prog ((laidWorld os).forCall (fun _ _ => 0) ⟨#[], #[.string ⟨#[]⟩], []⟩).memory Tryd.f7.params.toList Rows.commandJoinsSpec.vars false (#[.string ⟨#[]⟩] : Array Value).toList 8 = some ([.lit (.string [])], [], places) :=
  ⟨[], by kernel_rfl⟩

set_option maxRecDepth 100000 in
theorem lifted (os : Os) (started : os.Started) (H : Type) (enc : TypeId × Value → H) (F : Stop.Interp) :
    ReturnsInHanded {} Tryd.checked os 7 .any ((OpenSpec.ofChange Rows.commandJoinsSpec).preRow enc Tryd.prog Tryd.f7 Rows.commandJoinsRow.domain false Rows.commandJoinsRow.laid) (((OpenSpec.ofChange Rows.commandJoinsSpec).at F).post enc Tryd.prog Tryd.f7 false true false false) := by
  obtain ⟨places, hx⟩ := reads os enc
  refine returnsInHanded_of_row (C := Tryd.checked) (s := OpenSpec.ofChange Rows.commandJoinsSpec) own started (by kernel_rfl) Tryd.func7
    (witness_row_at (enc := enc) (C := Tryd.checked) false (laidWorld os) #[.string ⟨#[]⟩] rfl (by kernel_rfl) (by kernel_rfl) (by kernel_rfl)
      (OpenSpec.preRow_of_cond 8 hx (by kernel_rfl) (fun k hk => by cases hk) (by kernel_rfl) (laid_met os _))) ?_
  intro W base args ds gs before hval hW _ hcond hreach hL _ _
  obtain ⟨p, q, hA0, hV, hpq, hfz, hnd⟩ := id hW
  obtain ⟨rfl, _⟩ := trodVars_none hV
  rw [List.append_nil] at hreach
  exact contract H enc W base args ds [] before hval hW hreach (handle_of_laid hL)

theorem said : Rows.CommandJoinsSaid :=
  OpenClaim.holds_of_cond 7 Tryd.f7 rfl rfl rfl rfl rfl rfl rfl ⟨rfl, rfl, rfl, rfl, rfl⟩ rfl rfl rfl rfl rfl (by kernel_rfl) Tryd.func7 (by kernel_rfl)
    (of_decide_eq_true (by kernel_rfl)) (by unfold Func.isWrapper; first | (rw [if_pos (by decide +kernel)]; kernel_rfl) | (rw [if_neg (by decide +kernel)]; exact ⟨rfl, rfl⟩))
    (fun os started H enc _ F => by rw [OpenClaim.pre_eq_preRow]; exact lifted os started H enc F)

theorem plain (f : FuncId) (fn : Func) (hf : Tryd.pinned.checked.prog.funcNamed "stillage/stillagelaw13.CommandJoins" = some f) (hfn : Tryd.pinned.checked.prog.funcs[f]? = some fn) :
    true = Tryd.pinned.checked.prog.looks [] ∧ ∀ (j : Nat) t, fn.params[j]? = some t → Tryd.pinned.checked.prog.wantsStandIn t = false := by
  obtain rfl : f = 7 := Option.some.inj ((show Tryd.prog.funcNamed "stillage/stillagelaw13.CommandJoins" = some 7 by kernel_rfl).symm.trans hf) |>.symm
  obtain rfl : fn = Tryd.f7 := (Option.some.inj (Tryd.func7.symm.trans hfn)).symm
  refine ⟨by kernel_rfl, fun j t ht => ?_⟩
  rw [Tryd.params7] at ht
  have hm : t ∈ [9] := by simpa using Array.mem_of_getElem? ht
  have hall : ([9].all fun u => !Tryd.prog.wantsStandIn u) = true := by kernel_rfl
  exact (show Tryd.prog.wantsStandIn t = false by simpa using List.all_eq_true.1 hall t hm)

/-- THE CARD -/
theorem card : Rows.CommandJoinsCardSaid :=
  Claim7.holds_tied_plain_at .later [] _ _ _ _ said (fun _ h => by cases h) (by kernel_rfl) (fun _ h => by cases h) commandJoins_row_tie rfl ⟨rfl, rfl⟩ (by kernel_rfl) rfl plain (by kernel_rfl)


end Go.Proofs.YtmloljjllmmkoaaDoor.cjoins

