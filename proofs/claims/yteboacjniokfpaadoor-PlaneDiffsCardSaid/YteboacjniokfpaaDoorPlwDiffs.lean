/-
  A plane, with what the difference to another one adds, without what it takes, is the other one; what it adds the plane has not, what it takes it has: for every number of blocks (cut to 8 to 300) and every two texts.
  Conditions: none besides the row's own.
-/
import Derived.Test.YteboacjniokfpaaDoorPlnG
namespace Go.Proofs.YteboacjniokfpaaDoor.diffs
open Go.ChangeShapes Go.WideShapes Go.ChangeAt Go.RowKit Go SM PL

set_option maxRecDepth 100000 in
set_option maxHeartbeats 8000000 in
theorem walk (z : Int) (a b : ByteArray) (w : World) (_hz : -9223372036854775808 ≤ z ∧ z ≤ 9223372036854775807) (ha : a.size ≤ 140737488351232) (hb : b.size ≤ 140737488351232) :
    Calls Tryd.prog 5 #[.int .i64 z, .string a, .string b] w fun r w' => r = .returned (.bool true) ∧ Below w.heap.size w w' := by
  go_enter Tryd.func5, Tryd.ntmps5
  go_wp2_with fail
  refine (bound_any _ _).mono ?_
  rintro e w0 ⟨n, rfl, rfl, hn1, hn2, hnz⟩
  have HNZ := Lib.hid hnz
  clear hnz
  go_wp2_with fail
  refine (ml_new n hn1 hn2 w w (Below.refl _ _)).mono ?_
  rintro e w1 ⟨q, rfl, h⟩
  have H1 := Lib.hid h
  clear h
  cases hfa : fitsB n a.data.toList with
  | false =>
    go_wp2_with fail
    refine (H1.out.put_no (p := 1) (by omega) (by omega) hfa).mono ?_
    rintro e w2 ⟨rfl, h⟩
    have H2 := Lib.hid h
    clear h
    go_wp2_with fail
    refine (H2.out.fixed).mono ?_
    rintro e w3 ⟨rfl, h⟩
    have H3 := Lib.hid h
    clear h
    go_wp2_with fail
    refine (H3.out.blocks).mono ?_
    rintro e w' ⟨rfl, rfl⟩
    go_wp2_with fail
    refine (bound_any _ _).mono ?_
    rintro e w' ⟨m, rfl, rfl, _, _, hm⟩
    obtain rfl : n = m := by have := HNZ.out; omega
    have hnn : ((n : Int) == (n : Int)) = true := by simp
    clear hm
    go_wp2
    go_ret
    exact ⟨rfl, H3.out.below⟩
  | true =>
    go_wp2_with fail
    refine (H1.out.put_yes (p := 1) (by omega) (by omega) hfa).mono ?_
    rintro e w2 ⟨rfl, h⟩
    have H2 := Lib.hid h
    clear h
    cases hfb : fitsB n b.data.toList with
    | false =>
      go_wp2_with fail
      refine (H2.out.put_no (p := 2) (by omega) (by omega) hfb).mono ?_
      rintro e w3 ⟨rfl, h⟩
      have H3 := Lib.hid h
      clear h
      go_wp2_with fail
      refine (H3.out.fixed).mono ?_
      rintro e w4 ⟨rfl, h⟩
      have H4 := Lib.hid h
      clear h
      go_wp2_with fail
      refine (H4.out.blocks).mono ?_
      rintro e w' ⟨rfl, rfl⟩
      go_wp2_with fail
      refine (bound_any _ _).mono ?_
      rintro e w' ⟨m, rfl, rfl, _, _, hm⟩
      obtain rfl : n = m := by have := HNZ.out; omega
      have hnn : ((n : Int) == (n : Int)) = true := by simp
      clear hm
      go_wp2
      go_ret
      exact ⟨rfl, H4.out.below⟩
    | true =>
      have Fa := fits_least (fits_iff.1 hfa)
      have Fb := fits_least (fits_iff.1 hfb)
      have La := least_least a.data.toList
      have Lb := least_least b.data.toList
      have C3 := fun W (h : ML w q n (upd (fun _ => []) 1 (least a.data.toList)) W) => h.put_yes (p := 2) (by omega) (by omega) hfb
      have hfree := free_eq (n := n) (f := upd (upd (fun _ => []) 1 (least a.data.toList)) 2 (least b.data.toList)) (((ok_new hn1 (by omega)).put (fits_iff.1 hfa) 1).put (fits_iff.1 hfb) 2)
      have D1 := diff_back (p := least a.data.toList) Lb
      have D2 := and_diff (least a.data.toList) (least b.data.toList)
      have D3 := diff_in (least a.data.toList) (least b.data.toList)
      have D4 := diff_apart (least a.data.toList) (least b.data.toList)
      have Fx : ∀ m, bit (mk bsub (least b.data.toList) (least a.data.toList)) m = true → 1 ≤ m ∧ m < n := fun m hm => Fb m (by rw [bit_mk_sub, Bool.and_eq_true] at hm; exact hm.1)
      have Fy : ∀ m, bit (mk bsub (least a.data.toList) (least b.data.toList)) m = true → 1 ≤ m ∧ m < n := fun m hm => Fa m (by rw [bit_mk_sub, Bool.and_eq_true] at hm; exact hm.1)
      have Fo : Fits n (mk bor (least a.data.toList) (mk bsub (least b.data.toList) (least a.data.toList))) := fun m hm => by
        rw [bit_mk_or, Bool.or_eq_true] at hm
        rcases hm with h | h
        · exact Fa m h
        · exact Fx m h
      have sA := bs_small La Fa (by omega)
      have sB := bs_small Lb Fb (by omega)
      have sX := bs_small (mk_least _ _ _) Fx (by omega)
      have sY := bs_small (mk_least _ _ _) Fy (by omega)
      have sO := bs_small (mk_least _ _ _) Fo (by omega)
      have K : ∀ W, ML w q n (upd (upd (fun _ => []) 1 (least a.data.toList)) 2 (least b.data.toList)) W → _ := fun W h => And.intro (h.diff (p := 1) (t := 2) (by omega) (by omega)) (And.intro (h.plane (p := 1) (by omega)) (And.intro (h.plane (p := 2) (by omega)) (And.intro (h.diff (p := 2) (t := 1) (by omega) (by omega)) (And.intro h.free h.used))))
      have Ko : ∀ W, ML w q n (upd (upd (fun _ => []) 1 (least a.data.toList)) 2 (least b.data.toList)) W → _ := fun W h => And.intro (h.or_ (bs (least a.data.toList)) (bs (mk bsub (least b.data.toList) (least a.data.toList))) (by omega) (by omega)) (And.intro (h.sub_ (bs (mk bor (least a.data.toList) (mk bsub (least b.data.toList) (least a.data.toList)))) (bs (mk bsub (least a.data.toList) (least b.data.toList))) (by omega) (by omega)) (And.intro (h.and_ (bs (least a.data.toList)) (bs (mk bsub (least b.data.toList) (least a.data.toList))) (by omega) (by omega)) (And.intro (h.sub_ (bs (mk bsub (least a.data.toList) (least b.data.toList))) (bs (least a.data.toList)) (by omega) (by omega)) (And.intro (h.and_ (bs (mk bsub (least b.data.toList) (least a.data.toList))) (bs (mk bsub (least a.data.toList) (least b.data.toList))) (by omega) (by omega)) (h.or_ (bs (least a.data.toList)) (bs (least b.data.toList)) (by omega) (by omega))))))
      rw [used_two (by omega) (by omega) (by omega)] at K hfree
      skip
      simp only [orB_bs, subB_bs, andB_bs, D1, D2, D3, D4, show bs [] = ⟨#[]⟩ from rfl] at Ko
      have cU := fun W => cnt_b (bs (mk bor (least a.data.toList) (least b.data.toList))) W (by rw [bs_size]; have := mk_length bor (least a.data.toList) (least b.data.toList); rw [bs_size] at sA sB; omega)
      rw [cntB_bs] at cU
      have e1 : (upd (upd (fun _ => []) 1 (least a.data.toList)) 2 (least b.data.toList)) 1 = least a.data.toList := rfl
      have e2 : (upd (upd (fun _ => []) 1 (least a.data.toList)) 2 (least b.data.toList)) 2 = least b.data.toList := rfl
      rw [e1, e2] at K
      have hnum : ∃ F C : Nat, freeK (upd (upd (fun _ => []) 1 (least a.data.toList)) 2 (least b.data.toList)) n n = F ∧ cnt (mk bor (least a.data.toList) (least b.data.toList)) = C ∧ ((F : Int) + (C : Int) == (n : Int) - 1) = true ∧ C ≤ 4096 ∧ F ≤ 4096 := ⟨_, _, rfl, rfl, by rw [beq_iff_eq]; omega, by omega, by omega⟩
      obtain ⟨F, C, hF, hC, hnum, hC4, hF4⟩ := hnum
      rw [hF] at K
      rw [hC] at cU
      clear hfree D1 D2 D3 D4 Fx Fy Fo Fa Fb La Lb sX sY sO sA sB hF hC e1 e2
      generalize upd (upd (fun _ => []) 1 (least a.data.toList)) 2 (least b.data.toList) = G at *
      generalize bs (mk bor (least a.data.toList) (mk bsub (least b.data.toList) (least a.data.toList))) = O at *
      generalize bs (mk bor (least a.data.toList) (least b.data.toList)) = U at *
      generalize bs (mk bsub (least b.data.toList) (least a.data.toList)) = X at *
      generalize bs (mk bsub (least a.data.toList) (least b.data.toList)) = Y at *
      generalize bs (least a.data.toList) = A at *
      generalize bs (least b.data.toList) = B at *
      have n1 := ne_self B
      have q1 := eq_self X
      have q2 := eq_self Y
      have q3 := eq_self U
      go_wp2_with fail
      refine (C3 _ H2.out).mono ?_
      rintro e w3 ⟨rfl, h⟩
      have H3 := Lib.hid h
      clear h
      go_wp2_with fail
      refine ((K _ H3.out).1).mono ?_
      rintro e w4 ⟨rfl, h⟩
      have H4 := Lib.hid h
      clear h
      go_wp2_with fail
      refine ((K _ H4.out).2.1).mono ?_
      rintro e w' ⟨rfl, rfl⟩
      go_wp2_with fail
      refine ((K _ H4.out).2.2.1).mono ?_
      rintro e w' ⟨rfl, rfl⟩
      go_wp2_with fail
      refine ((Ko _ H4.out).1).mono ?_
      rintro e w5 ⟨rfl, h⟩
      have H5 := Lib.hid h
      clear h
      go_wp2_with fail
      refine ((Ko _ H5.out).2.1).mono ?_
      rintro e w6 ⟨rfl, h⟩
      have H6 := Lib.hid h
      clear h
      go_wp2_with fail
      refine ((Ko _ H6.out).2.2.1).mono ?_
      rintro e w7 ⟨rfl, h⟩
      have H7 := Lib.hid h
      clear h
      go_wp2_with fail
      refine ((Ko _ H7.out).2.2.2.1).mono ?_
      rintro e w8 ⟨rfl, h⟩
      have H8 := Lib.hid h
      clear h
      go_wp2_with fail
      refine ((Ko _ H8.out).2.2.2.2.1).mono ?_
      rintro e w9 ⟨rfl, h⟩
      have H9 := Lib.hid h
      clear h
      go_wp2_with fail
      refine ((K _ H9.out).2.2.2.1).mono ?_
      rintro e w10 ⟨rfl, h⟩
      have H10 := Lib.hid h
      clear h
      go_wp2_with fail
      refine (H10.out.fixed).mono ?_
      rintro e w11 ⟨rfl, h⟩
      have H11 := Lib.hid h
      clear h
      go_wp2_with fail
      refine ((K _ H11.out).2.2.2.2.1).mono ?_
      rintro e w12 ⟨rfl, h⟩
      have H12 := Lib.hid h
      clear h
      go_wp2_with fail
      refine ((K _ H12.out).2.2.2.2.2).mono ?_
      rintro e w13 ⟨rfl, h⟩
      have H13 := Lib.hid h
      clear h
      go_wp2_with fail
      refine (cU _).mono ?_
      rintro e w' ⟨rfl, rfl⟩
      go_wp2_with fail
      refine (H13.out.blocks).mono ?_
      rintro e w' ⟨rfl, rfl⟩
      go_wp2_with fail
      refine ((K _ H13.out).2.2.2.2.2).mono ?_
      rintro e w14 ⟨rfl, h⟩
      have H14 := Lib.hid h
      clear h
      go_wp2_with fail
      refine ((Ko _ H14.out).2.2.2.2.2).mono ?_
      rintro e w15 ⟨rfl, h⟩
      have H15 := Lib.hid h
      clear h
      go_wp2
      go_ret
      exact ⟨rfl, H15.out.below⟩

set_option maxRecDepth 100000 in
/-- WHAT THE WALK GIVES, for every argument that can be read. -/
theorem contract (H : Type) (enc : TypeId × Value → H) (W : World) (base : Nat) (args : Array Value) (ds gs : List (DataW H)) (before : List MemPlace)
    (hval : ∀ (j : Nat) t v, Tryd.f5.params[j]? = some t → args[j]? = some v → Value.okWide Tryd.prog W .any base t v)
    (hW : DataW.Whole enc Tryd.prog Tryd.f5.params.toList Rows.planeDiffsSpec.vars false W args.toList ds gs before)
    (hreach : (DataW.weightsEach Tryd.prog (Tryd.f5.params.toList) ds).all (· ≤ reachBytes) = true) :
    Calls Tryd.prog 5 args W fun e W' => ∃ v, e = .returned v ∧ Rows.planeDiffsSpec.post enc Tryd.prog Tryd.f5 false true false false W args v W' := by
  have hW' := hW
  obtain ⟨p, q, hA0, hV, rfl, hfz, hnd⟩ := hW
  have hA : DataW.TrodAll enc Tryd.prog W 0 (fun _ => true) true Tryd.f5.params.toList args.toList ds p := hA0
  rw [Tryd.params5] at hA hval hreach
  obtain ⟨v0, v1, v2, d0, d1, d2, p0, p1, p2, rfl, rfl, rfl, h0, h1, h2⟩ := trodAll_three hA
  obtain ⟨rfl, rfl⟩ := trodVars_none hV
  obtain ⟨n0, rfl, rfl, rfl, wn0⟩ := open_int Tryd.underlying3 (hval 0 3 v0 rfl rfl) h0
  have r0 := int_range wn0
  obtain ⟨s1, rfl, rfl, rfl, ws1⟩ := Go.ChangeMaps.open_string Tryd.underlying9 (hval 1 9 v1 rfl rfl) h1
  have r1 := reach_size (sized_string hreach (j := 1) rfl rfl)
  obtain ⟨s2, rfl, rfl, rfl, ws2⟩ := Go.ChangeMaps.open_string Tryd.underlying9 (hval 2 9 v2 rfl rfl) h2
  have r2 := reach_size (sized_string hreach (j := 2) rfl rfl)
  clear hA0 hval
  simp only [List.append_nil] at hW'
  refine (walk n0 s1 s2 W r0 r1 r2).mono fun e W' ⟨he, hB⟩ => ?_
  subst he
  exact ⟨_, rfl, post_of_below (pa := [] ++ ([] ++ ([]))) (pv := []) hW' (fun _ _ _ => trodAll_mk1 (shut_bool Tryd.underlying4 _)) (fun sp hsp => trodAll_mk3 (shut_int Tryd.underlying3 wn0) (Go.ChangeMaps.shut_string Tryd.underlying9 ws1) (Go.ChangeMaps.shut_string Tryd.underlying9 ws2)) (fun _ _ => rfl) (by simp) hB (ok_one (by kernel_rfl) rfl (okWide_bool_mk Tryd.underlying4 _))⟩

theorem reads (os : Os) {H : Type} (enc : TypeId × Value → H) : ∃ places, DataW.whole enc Tryd.prog ((laidWorld os).forCall (fun _ _ => 0) ⟨#[], #[.int .i64 0, .string ⟨#[]⟩, .string ⟨#[]⟩], []⟩).memory Tryd.f5.params.toList Rows.planeDiffsSpec.vars false (#[.int .i64 0, .string ⟨#[]⟩, .string ⟨#[]⟩] : Array Value).toList 8 = some ([.lit (.int .i64 0), .lit (.string []), .lit (.string [])], [], places) :=
  ⟨[], by kernel_rfl⟩

set_option maxRecDepth 100000 in
theorem lifted (os : Os) (started : os.Started) (H : Type) (enc : TypeId × Value → H) (F : Stop.Interp) :
    ReturnsInHanded {} Tryd.checked os 5 .any ((OpenSpec.ofChange Rows.planeDiffsSpec).preRow enc Tryd.prog Tryd.f5 Rows.planeDiffsRow.domain false Rows.planeDiffsRow.laid) (((OpenSpec.ofChange Rows.planeDiffsSpec).at F).post enc Tryd.prog Tryd.f5 false true false false) := by
  obtain ⟨places, hx⟩ := reads os enc
  refine returnsInHanded_of_row (C := Tryd.checked) (s := OpenSpec.ofChange Rows.planeDiffsSpec) own started (by kernel_rfl) Tryd.func5
    (witness_row_at (enc := enc) (C := Tryd.checked) false (laidWorld os) #[.int .i64 0, .string ⟨#[]⟩, .string ⟨#[]⟩] rfl (by kernel_rfl) (by kernel_rfl) (by kernel_rfl)
      (OpenSpec.preRow_of_cond 8 hx (by kernel_rfl) (fun k hk => by cases hk) (by kernel_rfl) (laid_met os _))) ?_
  intro W base args ds gs before hval hW _ hcond hreach hL _ _
  obtain ⟨p, q, hA0, hV, hpq, hfz, hnd⟩ := id hW
  obtain ⟨rfl, _⟩ := trodVars_none hV
  rw [List.append_nil] at hreach
  exact contract H enc W base args ds [] before hval hW hreach

theorem said : Rows.PlaneDiffsSaid :=
  OpenClaim.holds_of_cond 5 Tryd.f5 rfl rfl rfl rfl rfl rfl rfl ⟨rfl, rfl, rfl, rfl, rfl⟩ rfl rfl rfl rfl rfl (by kernel_rfl) Tryd.func5 (by kernel_rfl)
    (of_decide_eq_true (by kernel_rfl)) (by unfold Func.isWrapper; first | (rw [if_pos (by decide +kernel)]; kernel_rfl) | (rw [if_neg (by decide +kernel)]; exact ⟨rfl, rfl⟩))
    (fun os started H enc _ F => by rw [OpenClaim.pre_eq_preRow]; exact lifted os started H enc F)

theorem plain (f : FuncId) (fn : Func) (hf : Tryd.pinned.checked.prog.funcNamed "stillage/stillagelaw09.PlaneDiffs" = some f) (hfn : Tryd.pinned.checked.prog.funcs[f]? = some fn) :
    false = Tryd.pinned.checked.prog.looks [] ∧ ∀ (j : Nat) t, fn.params[j]? = some t → Tryd.pinned.checked.prog.wantsStandIn t = false := by
  obtain rfl : f = 5 := Option.some.inj ((show Tryd.prog.funcNamed "stillage/stillagelaw09.PlaneDiffs" = some 5 by kernel_rfl).symm.trans hf) |>.symm
  obtain rfl : fn = Tryd.f5 := (Option.some.inj (Tryd.func5.symm.trans hfn)).symm
  refine ⟨by kernel_rfl, fun j t ht => ?_⟩
  rw [Tryd.params5] at ht
  have hm : t ∈ [3, 9, 9] := by simpa using Array.mem_of_getElem? ht
  have hall : ([3, 9, 9].all fun u => !Tryd.prog.wantsStandIn u) = true := by kernel_rfl
  exact (show Tryd.prog.wantsStandIn t = false by simpa using List.all_eq_true.1 hall t hm)

/-- THE CARD -/
theorem card : Rows.PlaneDiffsCardSaid :=
  Claim7.holds_tied_plain_at .later [] _ _ _ _ said (fun _ h => by cases h) (by kernel_rfl) (fun _ h => by cases h) planeDiffs_row_tie rfl ⟨rfl, rfl⟩ (by kernel_rfl) rfl plain (by kernel_rfl)


end Go.Proofs.YteboacjniokfpaaDoor.diffs

