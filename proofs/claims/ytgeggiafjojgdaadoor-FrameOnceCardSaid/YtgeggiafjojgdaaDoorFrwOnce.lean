/-
  Two messages have the same bytes just if they are one, of 12 to 2021 bytes: for every two messages.
  Conditions: none besides the row's own.
-/
import Derived.Test.YtgeggiafjojgdaaDoorFrmX
import Derived.Test.YtgeggiafjojgdaaDoorFrmK
namespace Go.Proofs.YtgeggiafjojgdaaDoor.fonce
open Go.Proofs.YtgeggiafjojgdaaDoor
open Go.ChangeShapes Go.WideShapes Go.ChangeAt Go.RowKit Go

theorem sealV_at (f : Fr) : ∃ (X : ByteArray) (E : Int), sealV f = .tuple #[.string X, .int .i64 E] ∧ (¬ FrOk f ∧ E = 170 ∨ FrOk f ∧ E = 0 ∧ X = bs (sealL f)) := by
  by_cases h : FrOk f
  · exact ⟨_, _, sealV_ok h, .inr ⟨h, rfl, rfl⟩⟩
  · exact ⟨_, _, sealV_no h, .inl ⟨h, rfl⟩⟩
set_option maxRecDepth 100000 in
set_option maxHeartbeats 8000000 in
theorem walk (a b : Fr) (w : World) (ha : FrIn a) (hb : FrIn b) (hg : GE w) :
    Calls Tryd.prog 6 #[frV a, frV b] w fun e w' => e = .returned (.bool true) ∧ Below w.heap.size w w' := by
  obtain ⟨w1, hw1⟩ : ∃ w1, w.alloc (FrObj a) = w1 := ⟨_, rfl⟩
  have hB1 : Below w.heap.size w w1 := by rw [← hw1]; exact (Below.refl _ w).alloc (Nat.le_refl _) _
  have ha1 : FrAt a w.heap.size w1 := by rw [← hw1]; exact .new _ _
  obtain ⟨w2, hw2⟩ : ∃ w2, w1.alloc (FrObj b) = w2 := ⟨_, rfl⟩
  have hB2 : Below w1.heap.size w1 w2 := by rw [← hw2]; exact (Below.refl _ w1).alloc (Nat.le_refl _) _
  have hb2 : FrAt b w1.heap.size w2 := by rw [← hw2]; exact .new _ _
  have ha2 := ha1.later hB2
  obtain ⟨c0, c1, c2, c3⟩ := ha2.cells
  have C1 := fun w => seal_any a ha w
  have C2 := fun w => seal_any b hb w
  obtain ⟨S, E, hS, hSE⟩ := sealV_at a
  obtain ⟨T, G, hT, hTG⟩ := sealV_at b
  rw [hS] at C1
  rw [hT] at C2
  have HG := Lib.hid hg
  have HA2 := Lib.hid ha2
  have HC2 := Lib.hid hb2
  have HB2 := Lib.hid (hB1.trans (hB2.mono hB1.size))
  have HS := Lib.hid hSE
  have HT := Lib.hid hTG
  unfold FrObj at hw1 hw2
  unfold frV at C1 C2 ⊢
  clear hB1 ha1 hB2 hb2 ha2 hS hT hSE hTG hg
  go_enter Tryd.func6, Tryd.ntmps6
  go_wp2_with fail
  refine (C1 _).mono ?_
  rintro e w3 ⟨rfl, hB3⟩
  have HB3 := Lib.hid (HB2.out.trans (hB3.mono HB2.out.size))
  have HA3 := Lib.hid (HA2.out.later hB3)
  have HC3 := Lib.hid (HC2.out.later hB3)
  obtain ⟨y0, y1, y2, y3⟩ := HC3.out.cells
  clear hB3 C1 c0 c1 c2 c3
  go_wp2_with fail
  refine (C2 _).mono ?_
  rintro e w4 ⟨rfl, hB4⟩
  have HB4 := Lib.hid (HB3.out.trans (hB4.mono HB3.out.size))
  have HA4 := Lib.hid (HA3.out.later hB4)
  have HC4 := Lib.hid (HC3.out.later hB4)
  have CF := fixed_any w4 (HG.out.below HB4.out)
  clear hB4 C2 y0 y1 y2 y3
  rcases HS.out with ⟨-, rfl⟩ | ⟨oka, rfl, rfl⟩
  · go_wp2_with fail
    refine CF.mono ?_
    rintro e w5 ⟨rfl, hB5⟩
    have HB5 := Lib.hid (HB4.out.trans (hB5.mono HB4.out.size))
    clear hB5 CF
    go_wp2
    go_ret
    exact ⟨rfl, HB5.out⟩
  · rcases HT.out with ⟨-, rfl⟩ | ⟨okb, rfl, rfl⟩
    · go_wp2_with fail
      refine CF.mono ?_
      rintro e w5 ⟨rfl, hB5⟩
      have HB5 := Lib.hid (HB4.out.trans (hB5.mono HB4.out.size))
      clear hB5 CF
      go_wp2
      go_ret
      exact ⟨rfl, HB5.out⟩
    · go_wp2_with fail
      refine CF.mono ?_
      rintro e w5 ⟨rfl, hB5⟩
      have HB5 := Lib.hid (HB4.out.trans (hB5.mono HB4.out.size))
      obtain ⟨y0, y1, y2, y3⟩ := (HA4.out.later hB5).cells
      obtain ⟨z0, z1, z2, z3⟩ := (HC4.out.later hB5).cells
      obtain ⟨bo, hbe, -, hbo⟩ := fr_eql a b
      have hbg := fun w => fr_guard a b w
      have hsz : 12 ≤ (bs (sealL a)).size ∧ (bs (sealL a)).size ≤ 2021 := by
        have := layF_len oka
        rw [bs_size, sealL, withSum_len]; omega
      have hi1 : (12 : Int) ≤ ((bs (sealL a)).size : Int) := by omega
      have hi2 : ((bs (sealL a)).size : Int) ≤ 2021 := by omega
      have htx : ((bs (sealL a)).toList == (bs (sealL b)).toList) = bo := by
        cases bo with
        | true => rw [hbo.1 rfl]; exact (texts_eq _).1
        | false =>
          refine (texts_no fun e => ?_).1
          have := hbo.2 (sealL_inj oka okb (bs_inj.1 e))
          cases this
      generalize bs (sealL a) = S at *
      generalize bs (sealL b) = T at *
      unfold frV at hbe hbg
      clear hB5 CF hbo hsz oka okb
      go_wp2
      go_ret
      first | exact ⟨rfl, HB5.out⟩ | exact ⟨by simp, HB5.out⟩

set_option maxRecDepth 100000 in
/-- WHAT THE WALK GIVES, for every argument that can be read. -/
theorem contract (H : Type) (enc : TypeId × Value → H) (W : World) (base : Nat) (args : Array Value) (ds gs : List (DataW H)) (before : List MemPlace)
    (hval : ∀ (j : Nat) t v, Tryd.f6.params[j]? = some t → args[j]? = some v → Value.okWide Tryd.prog W .any base t v)
    (hW : DataW.Whole enc Tryd.prog Tryd.f6.params.toList Rows.frameOnceSpec.vars false W args.toList ds gs before)
    (hreach : (DataW.weightsEach Tryd.prog (Tryd.f6.params.toList) ds).all (· ≤ reachBytes) = true) (hg : GE W) :
    Calls Tryd.prog 6 args W fun e W' => ∃ v, e = .returned v ∧ Rows.frameOnceSpec.post enc Tryd.prog Tryd.f6 false true false false W args v W' := by
  have hW' := hW
  obtain ⟨p, q, hA0, hV, rfl, hfz, hnd⟩ := hW
  have hA : DataW.TrodAll enc Tryd.prog W 0 (fun _ => true) true Tryd.f6.params.toList args.toList ds p := hA0
  rw [Tryd.params6] at hA hval hreach
  obtain ⟨v0, v1, d0, d1, p0, p1, rfl, rfl, rfl, h0, h1⟩ := trodAll_two hA
  obtain ⟨rfl, rfl⟩ := trodVars_none hV
  obtain ⟨c0, rfl, r0, rfl, sh0, -⟩ := fr_open (hval 0 23 v0 rfl rfl) h0 hreach (j := 0) rfl rfl
  obtain ⟨c1, rfl, r1, rfl, sh1, -⟩ := fr_open (hval 1 23 v1 rfl rfl) h1 hreach (j := 1) rfl rfl
  clear hA0 hval
  simp only [List.append_nil] at hW'
  refine (walk c0 c1 W r0 r1 hg).mono fun e W' ⟨he, hB⟩ => ?_
  subst he
  exact ⟨_, rfl, post_of_below (pa := [] ++ ([])) (pv := []) hW' (fun _ _ _ => trodAll_mk1 (shut_bool Tryd.underlying4 _)) (fun sp hsp => trodAll_mk2 (sh0 _ _) (sh1 _ _)) (fun _ _ => rfl) (by simp) hB (ok_one (by kernel_rfl) rfl (okWide_bool_mk Tryd.underlying4 _))⟩

theorem reads (os : Os) {H : Type} (enc : TypeId × Value → H) : ∃ places, DataW.whole enc Tryd.prog ((laidWorldH os).forCall (fun _ _ => 0) ⟨#[], #[.agg #[.int .i64 0, .int .i64 0, .int .i64 0, .string ⟨#[]⟩], .agg #[.int .i64 0, .int .i64 0, .int .i64 0, .string ⟨#[]⟩]], []⟩).memory Tryd.f6.params.toList Rows.frameOnceSpec.vars false (#[.agg #[.int .i64 0, .int .i64 0, .int .i64 0, .string ⟨#[]⟩], .agg #[.int .i64 0, .int .i64 0, .int .i64 0, .string ⟨#[]⟩]] : Array Value).toList 8 = some ([.agg [.lit (.int .i64 0), .lit (.int .i64 0), .lit (.int .i64 0), .lit (.string [])], .agg [.lit (.int .i64 0), .lit (.int .i64 0), .lit (.int .i64 0), .lit (.string [])]], [], places) :=
  ⟨[], by kernel_rfl⟩

set_option maxRecDepth 100000 in
theorem lifted (os : Os) (started : os.Started) (H : Type) (enc : TypeId × Value → H) (F : Stop.Interp) :
    ReturnsInHanded {} Tryd.checked os 6 .any ((OpenSpec.ofChange Rows.frameOnceSpec).preRow enc Tryd.prog Tryd.f6 Rows.frameOnceRow.domain false Rows.frameOnceRow.laid) (((OpenSpec.ofChange Rows.frameOnceSpec).at F).post enc Tryd.prog Tryd.f6 false true false false) := by
  obtain ⟨places, hx⟩ := reads os enc
  refine returnsInHanded_of_row (C := Tryd.checked) (s := OpenSpec.ofChange Rows.frameOnceSpec) own started (by kernel_rfl) Tryd.func6
    (witness_row_at (enc := enc) (C := Tryd.checked) false (laidWorldH os) #[.agg #[.int .i64 0, .int .i64 0, .int .i64 0, .string ⟨#[]⟩], .agg #[.int .i64 0, .int .i64 0, .int .i64 0, .string ⟨#[]⟩]] rfl (by kernel_rfl) (by kernel_rfl) (by kernel_rfl)
      (OpenSpec.preRow_of_cond 8 hx (by kernel_rfl) (fun k hk => by cases hk) (by kernel_rfl) (laid_metH os _))) ?_
  intro W base args ds gs before hval hW _ hcond hreach hL _ _
  obtain ⟨p, q, hA0, hV, hpq, hfz, hnd⟩ := id hW
  obtain ⟨rfl, _⟩ := trodVars_none hV
  rw [List.append_nil] at hreach
  exact contract H enc W base args ds [] before hval hW hreach (handle_of_laid hL)

theorem said : Rows.FrameOnceSaid :=
  OpenClaim.holds_of_cond 6 Tryd.f6 rfl rfl rfl rfl rfl rfl rfl ⟨rfl, rfl, rfl, rfl, rfl⟩ rfl rfl rfl rfl rfl (by kernel_rfl) Tryd.func6 (by kernel_rfl)
    (of_decide_eq_true (by kernel_rfl)) (by unfold Func.isWrapper; first | (rw [if_pos (by decide +kernel)]; kernel_rfl) | (rw [if_neg (by decide +kernel)]; exact ⟨rfl, rfl⟩))
    (fun os started H enc _ F => by rw [OpenClaim.pre_eq_preRow]; exact lifted os started H enc F)

theorem plain (f : FuncId) (fn : Func) (hf : Tryd.pinned.checked.prog.funcNamed "stillage/stillagelaw17.FrameOnce" = some f) (hfn : Tryd.pinned.checked.prog.funcs[f]? = some fn) :
    true = Tryd.pinned.checked.prog.looks [] ∧ ∀ (j : Nat) t, fn.params[j]? = some t → Tryd.pinned.checked.prog.wantsStandIn t = false := by
  obtain rfl : f = 6 := Option.some.inj ((show Tryd.prog.funcNamed "stillage/stillagelaw17.FrameOnce" = some 6 by kernel_rfl).symm.trans hf) |>.symm
  obtain rfl : fn = Tryd.f6 := (Option.some.inj (Tryd.func6.symm.trans hfn)).symm
  refine ⟨by kernel_rfl, fun j t ht => ?_⟩
  rw [Tryd.params6] at ht
  have hm : t ∈ [23, 23] := by simpa using Array.mem_of_getElem? ht
  have hall : ([23, 23].all fun u => !Tryd.prog.wantsStandIn u) = true := by kernel_rfl
  exact (show Tryd.prog.wantsStandIn t = false by simpa using List.all_eq_true.1 hall t hm)

/-- THE CARD -/
theorem card : Rows.FrameOnceCardSaid :=
  Claim7.holds_tied_plain_at .later [] _ _ _ _ said (fun _ h => by cases h) (by kernel_rfl) (fun _ h => by cases h) frameOnce_row_tie rfl ⟨rfl, rfl⟩ (by kernel_rfl) rfl plain (by kernel_rfl)


end Go.Proofs.YtgeggiafjojgdaaDoor.fonce

