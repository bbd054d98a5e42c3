/-
  As many blocks become free as the plane that is cleared had alone: for every number of blocks (cut to 8 to 300) and every two texts.
  Conditions: none besides the row's own.
-/
import Derived.Test.YteboacjniokfpaaDoorPlnG
namespace Go.Proofs.YteboacjniokfpaaDoor.frees
open Go.ChangeShapes Go.WideShapes Go.ChangeAt Go.RowKit Go SM PL

set_option maxRecDepth 100000 in
set_option maxHeartbeats 8000000 in
theorem walk (z : Int) (a b : ByteArray) (w : World) (_hz : -9223372036854775808 ≤ z ∧ z ≤ 9223372036854775807) (ha : a.size ≤ 140737488351232) (hb : b.size ≤ 140737488351232) :
    Calls Tryd.prog 8 #[.int .i64 z, .string a, .string b] w fun r w' => r = .returned (.bool true) ∧ Below w.heap.size w w' := by
  go_enter Tryd.func8, Tryd.ntmps8
  go_wp2_with fail
  refine (bound_any _ _).mono ?_
  rintro e w0 ⟨n, rfl, rfl, hn1, hn2, hnz⟩
  have HNZ := Lib.hid hnz
  clear hnz
  go_wp2_with fail
  refine (ml_new n hn1 hn2 w w (Below.refl _ _)).mono ?_
  rintro e w1 ⟨q, rfl, h⟩
  have H1 := Lib.hid h
  clear h
  cases hfa : fitsB n a.data.toList with
  | false =>
    go_wp2_with fail
    refine (H1.out.put_no (p := 2) (by omega) (by omega) hfa).mono ?_
    rintro e w2 ⟨rfl, h⟩
    have H2 := Lib.hid h
    clear h
    go_wp2_with fail
    refine (H2.out.fixed).mono ?_
    rintro e w3 ⟨rfl, h⟩
    have H3 := Lib.hid h
    clear h
    go_wp2
    go_ret
    exact ⟨rfl, H3.out.below⟩
  | true =>
    go_wp2_with fail
    refine (H1.out.put_yes (p := 2) (by omega) (by omega) hfa).mono ?_
    rintro e w2 ⟨rfl, h⟩
    have H2 := Lib.hid h
    clear h
    cases hfb : fitsB n b.data.toList with
    | false =>
      go_wp2_with fail
      refine (H2.out.put_no (p := 6) (by omega) (by omega) hfb).mono ?_
      rintro e w3 ⟨rfl, h⟩
      have H3 := Lib.hid h
      clear h
      go_wp2_with fail
      refine (H3.out.fixed).mono ?_
      rintro e w4 ⟨rfl, h⟩
      have H4 := Lib.hid h
      clear h
      go_wp2
      go_ret
      exact ⟨rfl, H4.out.below⟩
    | true =>
      have La := least_least a.data.toList
      have C3 := fun W (h : ML w q n (upd (fun _ => []) 2 (least a.data.toList)) W) => h.put_yes (p := 6) (by omega) (by omega) hfb
      have o2 := ((ok_new hn1 (by omega)).put (fits_iff.1 hfa) 2).put (fits_iff.1 hfb) 6
      have o3 := o2.put (fits_nil n) 6
      rw [show least [] = [] from rfl] at o3
      have hf2 := free_eq o2
      have hf3 := free_eq o3
      have e3 : used (upd (upd (upd (fun _ => []) 2 (least a.data.toList)) 6 (least b.data.toList)) 6 []) = least a.data.toList := by
        refine Eq.trans (used_congr (g := upd (fun _ => []) 2 (least a.data.toList)) fun p _ => ?_) (used_one (i := 2) (by omega) La)
        unfold upd
        by_cases h6 : p = 6
        · subst h6; simp
        · simp [h6]
      rw [used_two (by omega) (by omega) (by omega), cnt_or_sub (fits_least (fits_iff.1 hfa)) (fits_least (fits_iff.1 hfb))] at hf2
      rw [e3] at hf3
      have hmk : mk bsub b.data.toList a.data.toList = mk bsub (least b.data.toList) (least a.data.toList) := mk_ext (by decide) (by decide) (fun i => by rw [gd_least, gd_least])
      have K2 := fun W (h : ML w q n (upd (upd (fun _ => []) 2 (least a.data.toList)) 6 (least b.data.toList)) W) => And.intro h.free (h.clear (p := 6) (by omega))
      have K3 := fun W (h : ML w q n (upd (upd (upd (fun _ => []) 2 (least a.data.toList)) 6 (least b.data.toList)) 6 []) W) => And.intro h.free (And.intro h.used (And.intro (h.sub_ b a (by omega) (by omega)) (h.or_ a ⟨#[]⟩ (by omega) (by decide))))
      rw [e3, orB_nil, show subB b a = bs (mk bsub b.data.toList a.data.toList) from rfl] at K3
      have CC := fun W => cnt_b (bs (mk bsub b.data.toList a.data.toList)) W (by rw [bs_size]; have := mk_length bsub b.data.toList a.data.toList; simp at this; omega)
      rw [cntB_bs, hmk] at CC
      rw [hmk] at K3
      have hnum : ∃ F2 F3 C : Nat, freeK (upd (upd (fun _ => []) 2 (least a.data.toList)) 6 (least b.data.toList)) n n = F2 ∧ freeK (upd (upd (upd (fun _ => []) 2 (least a.data.toList)) 6 (least b.data.toList)) 6 []) n n = F3 ∧ cnt (mk bsub (least b.data.toList) (least a.data.toList)) = C ∧ ((F3 : Int) - (F2 : Int) == (C : Int)) = true ∧ F2 ≤ 4096 ∧ F3 ≤ 4096 := ⟨_, _, _, rfl, rfl, rfl, by rw [beq_iff_eq]; omega, by omega, by omega⟩
      obtain ⟨F2, F3, C, h2, h3, hC, hnum, h24, h34⟩ := hnum
      rw [h2] at K2
      rw [h3] at K3
      rw [hC] at CC
      clear hf2 hf3 e3 hmk h2 h3 hC La o2 o3
      generalize (upd (upd (upd (fun _ => []) 2 (least a.data.toList)) 6 (least b.data.toList)) 6 []) = G3 at *
      generalize (upd (upd (fun _ => []) 2 (least a.data.toList)) 6 (least b.data.toList)) = G2 at *
      generalize bs (mk bsub (least b.data.toList) (least a.data.toList)) = X at *
      generalize bs (least a.data.toList) = A at *
      have q1 := eq_self A
      go_wp2_with fail
      refine (C3 _ H2.out).mono ?_
      rintro e w3 ⟨rfl, h⟩
      have H3 := Lib.hid h
      clear h
      go_wp2_with fail
      refine ((K2 _ H3.out).1).mono ?_
      rintro e w4 ⟨rfl, h⟩
      have H4 := Lib.hid h
      clear h
      go_wp2_with fail
      refine ((K2 _ H4.out).2).mono ?_
      rintro e w5 ⟨rfl, h⟩
      have H5 := Lib.hid h
      clear h
      go_wp2_with fail
      refine (H5.out.fixed).mono ?_
      rintro e w6 ⟨rfl, h⟩
      have H6 := Lib.hid h
      clear h
      go_wp2_with fail
      refine ((K3 _ H6.out).1).mono ?_
      rintro e w7 ⟨rfl, h⟩
      have H7 := Lib.hid h
      clear h
      go_wp2_with fail
      refine ((K3 _ H7.out).2.2.1).mono ?_
      rintro e w8 ⟨rfl, h⟩
      have H8 := Lib.hid h
      clear h
      go_wp2_with fail
      refine (CC _).mono ?_
      rintro e w' ⟨rfl, rfl⟩
      go_wp2_with fail
      refine ((K3 _ H8.out).2.1).mono ?_
      rintro e w9 ⟨rfl, h⟩
      have H9 := Lib.hid h
      clear h
      go_wp2_with fail
      refine ((K3 _ H9.out).2.2.2).mono ?_
      rintro e w10 ⟨rfl, h⟩
      have H10 := Lib.hid h
      clear h
      go_wp2
      go_ret
      exact ⟨rfl, H10.out.below⟩

set_option maxRecDepth 100000 in
/-- WHAT THE WALK GIVES, for every argument that can be read. -/
theorem contract (H : Type) (enc : TypeId × Value → H) (W : World) (base : Nat) (args : Array Value) (ds gs : List (DataW H)) (before : List MemPlace)
    (hval : ∀ (j : Nat) t v, Tryd.f8.params[j]? = some t → args[j]? = some v → Value.okWide Tryd.prog W .any base t v)
    (hW : DataW.Whole enc Tryd.prog Tryd.f8.params.toList Rows.planeFreesSpec.vars false W args.toList ds gs before)
    (hreach : (DataW.weightsEach Tryd.prog (Tryd.f8.params.toList) ds).all (· ≤ reachBytes) = true) :
    Calls Tryd.prog 8 args W fun e W' => ∃ v, e = .returned v ∧ Rows.planeFreesSpec.post enc Tryd.prog Tryd.f8 false true false false W args v W' := by
  have hW' := hW
  obtain ⟨p, q, hA0, hV, rfl, hfz, hnd⟩ := hW
  have hA : DataW.TrodAll enc Tryd.prog W 0 (fun _ => true) true Tryd.f8.params.toList args.toList ds p := hA0
  rw [Tryd.params8] at hA hval hreach
  obtain ⟨v0, v1, v2, d0, d1, d2, p0, p1, p2, rfl, rfl, rfl, h0, h1, h2⟩ := trodAll_three hA
  obtain ⟨rfl, rfl⟩ := trodVars_none hV
  obtain ⟨n0, rfl, rfl, rfl, wn0⟩ := open_int Tryd.underlying3 (hval 0 3 v0 rfl rfl) h0
  have r0 := int_range wn0
  obtain ⟨s1, rfl, rfl, rfl, ws1⟩ := Go.ChangeMaps.open_string Tryd.underlying9 (hval 1 9 v1 rfl rfl) h1
  have r1 := reach_size (sized_string hreach (j := 1) rfl rfl)
  obtain ⟨s2, rfl, rfl, rfl, ws2⟩ := Go.ChangeMaps.open_string Tryd.underlying9 (hval 2 9 v2 rfl rfl) h2
  have r2 := reach_size (sized_string hreach (j := 2) rfl rfl)
  clear hA0 hval
  simp only [List.append_nil] at hW'
  refine (walk n0 s1 s2 W r0 r1 r2).mono fun e W' ⟨he, hB⟩ => ?_
  subst he
  exact ⟨_, rfl, post_of_below (pa := [] ++ ([] ++ ([]))) (pv := []) hW' (fun _ _ _ => trodAll_mk1 (shut_bool Tryd.underlying4 _)) (fun sp hsp => trodAll_mk3 (shut_int Tryd.underlying3 wn0) (Go.ChangeMaps.shut_string Tryd.underlying9 ws1) (Go.ChangeMaps.shut_string Tryd.underlying9 ws2)) (fun _ _ => rfl) (by simp) hB (ok_one (by kernel_rfl) rfl (okWide_bool_mk Tryd.underlying4 _))⟩

theorem reads (os : Os) {H : Type} (enc : TypeId × Value → H) : ∃ places, DataW.whole enc Tryd.prog ((laidWorld os).forCall (fun _ _ => 0) ⟨#[], #[.int .i64 0, .string ⟨#[]⟩, .string ⟨#[]⟩], []⟩).memory Tryd.f8.params.toList Rows.planeFreesSpec.vars false (#[.int .i64 0, .string ⟨#[]⟩, .string ⟨#[]⟩] : Array Value).toList 8 = some ([.lit (.int .i64 0), .lit (.string []), .lit (.string [])], [], places) :=
  ⟨[], by kernel_rfl⟩

set_option maxRecDepth 100000 in
theorem lifted (os : Os) (started : os.Started) (H : Type) (enc : TypeId × Value → H) (F : Stop.Interp) :
    ReturnsInHanded {} Tryd.checked os 8 .any ((OpenSpec.ofChange Rows.planeFreesSpec).preRow enc Tryd.prog Tryd.f8 Rows.planeFreesRow.domain false Rows.planeFreesRow.laid) (((OpenSpec.ofChange Rows.planeFreesSpec).at F).post enc Tryd.prog Tryd.f8 false true false false) := by
  obtain ⟨places, hx⟩ := reads os enc
  refine returnsInHanded_of_row (C := Tryd.checked) (s := OpenSpec.ofChange Rows.planeFreesSpec) own started (by kernel_rfl) Tryd.func8
    (witness_row_at (enc := enc) (C := Tryd.checked) false (laidWorld os) #[.int .i64 0, .string ⟨#[]⟩, .string ⟨#[]⟩] rfl (by kernel_rfl) (by kernel_rfl) (by kernel_rfl)
      (OpenSpec.preRow_of_cond 8 hx (by kernel_rfl) (fun k hk => by cases hk) (by kernel_rfl) (laid_met os _))) ?_
  intro W base args ds gs before hval hW _ hcond hreach hL _ _
  obtain ⟨p, q, hA0, hV, hpq, hfz, hnd⟩ := id hW
  obtain ⟨rfl, _⟩ := trodVars_none hV
  rw [List.append_nil] at hreach
  exact contract H enc W base args ds [] before hval hW hreach

theorem said : Rows.PlaneFreesSaid :=
  OpenClaim.holds_of_cond 8 Tryd.f8 rfl rfl rfl rfl rfl rfl rfl ⟨rfl, rfl, rfl, rfl, rfl⟩ rfl rfl rfl rfl rfl (by kernel_rfl) Tryd.func8 (by kernel_rfl)
    (of_decide_eq_true (by kernel_rfl)) (by unfold Func.isWrapper; first | (rw [if_pos (by decide +kernel)]; kernel_rfl) | (rw [if_neg (by decide +kernel)]; exact ⟨rfl, rfl⟩))
    (fun os started H enc _ F => by rw [OpenClaim.pre_eq_preRow]; exact lifted os started H enc F)

theorem plain (f : FuncId) (fn : Func) (hf : Tryd.pinned.checked.prog.funcNamed "stillage/stillagelaw09.PlaneFrees" = some f) (hfn : Tryd.pinned.checked.prog.funcs[f]? = some fn) :
    false = Tryd.pinned.checked.prog.looks [] ∧ ∀ (j : Nat) t, fn.params[j]? = some t → Tryd.pinned.checked.prog.wantsStandIn t = false := by
  obtain rfl : f = 8 := Option.some.inj ((show Tryd.prog.funcNamed "stillage/stillagelaw09.PlaneFrees" = some 8 by kernel_rfl).symm.trans hf) |>.symm
  obtain rfl : fn = Tryd.f8 := (Option.some.inj (Tryd.func8.symm.trans hfn)).symm
  refine ⟨by kernel_rfl, fun j t ht => ?_⟩
  rw [Tryd.params8] at ht
  have hm : t ∈ [3, 9, 9] := by simpa using Array.mem_of_getElem? ht
  have hall : ([3, 9, 9].all fun u => !Tryd.prog.wantsStandIn u) = true := by kernel_rfl
  exact (show Tryd.prog.wantsStandIn t = false by simpa using List.all_eq_true.1 hall t hm)

/-- THE CARD -/
theorem card : Rows.PlaneFreesCardSaid :=
  Claim7.holds_tied_plain_at .later [] _ _ _ _ said (fun _ h => by cases h) (by kernel_rfl) (fun _ h => by cases h) planeFrees_row_tie rfl ⟨rfl, rfl⟩ (by kernel_rfl) rfl plain (by kernel_rfl)


end Go.Proofs.YteboacjniokfpaaDoor.frees

