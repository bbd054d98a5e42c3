/-
  Which message any bytes are, or why none, is as the document says; with a right sum behind them, too: for every text.
  Conditions: none besides the row's own.
-/
import Derived.Test.YtgeggiafjojgdaaDoorFrmX
import Derived.Test.YtgeggiafjojgdaaDoorFrmK
namespace Go.Proofs.YtgeggiafjojgdaaDoor.fopens
open Go.Proofs.YtgeggiafjojgdaaDoor
open Go.ChangeShapes Go.WideShapes Go.ChangeAt Go.RowKit Go

theorem not171 {l : List UInt8} {g : Fr} {x : Int} (h : OpenIs (withSum l) g x) : (x != 171) = true := by
  rcases h with ⟨h, _⟩ | ⟨_, _, rfl⟩ | ⟨_, _, _, rfl⟩
  · exact absurd (summed_with l) h
  · rfl
  · rfl
set_option maxRecDepth 100000 in
set_option maxHeartbeats 8000000 in
theorem walk (s : ByteArray) (w : World) (hs : s.size ≤ 140737488351232) (hg : GE w) :
    Calls Tryd.prog 4 #[.string s] w fun e w' => e = .returned (.bool true) ∧ Below w.heap.size w w' := by
  have HG := Lib.hid hg
  have C1 := open_any s (by omega) w hg
  have C2 := fun w => ropen_any s (by omega) w
  have CS := fun w => rsealed_any s hs w
  have hsz : s.data.toList.length = s.size := by simp
  have C3 := fun w hg => open_any (bs (withSum s.data.toList)) (by rw [bs_size, withSum_len]; omega) w hg
  have C4 := fun w => ropen_any (bs (withSum s.data.toList)) (by rw [bs_size, withSum_len]; omega) w
  rw [bs_list] at C3 C4
  obtain ⟨l, hl⟩ : ∃ l, s.data.toList = l := ⟨_, rfl⟩
  rw [hl] at C1 C2 CS C3 C4
  have HB0 := Lib.hid (Below.refl w.heap.size w)
  obtain ⟨S, hS⟩ : ∃ S, bs (withSum l) = S := ⟨_, rfl⟩
  rw [hS] at CS C3 C4
  clear hg hsz hl hS
  go_enter Tryd.func4, Tryd.ntmps4
  go_wp2_with fail
  refine C1.mono ?_
  rintro e wa ⟨⟨a, x, -, ho, rfl⟩, hBo⟩
  have HO1 := Lib.hid ho
  obtain ⟨wv, ua, ub, uc, w1, ⟨h1, e1, e2, e3, e4⟩, ⟨c1, c2, c3, c4⟩, ⟨f1, f2, f3, f4⟩, hat, hbl⟩ := fr_box a wa
  have HB1 := Lib.hid (hBo.trans (hbl.mono hBo.size))
  have HA1 := Lib.hid hat
  unfold frV
  clear hBo C1 ho hat hbl
  go_wp2_with fail
  refine (C2 _).mono ?_
  rintro e wb ⟨⟨b, y, -, ho, rfl⟩, hBo⟩
  obtain ⟨rfl, rfl⟩ := HO1.out.uniq ho
  have HBo := Lib.hid (HB1.out.trans (hBo.mono HB1.out.size))
  have HAo := Lib.hid (HA1.out.later hBo)
  clear hBo C2 ho h1 e1 e2 e3 e4 c1 c2 c3 c4 f1 f2 f3 f4
  obtain ⟨wv2, ua2, ub2, uc2, w2, ⟨h1, e1, e2, e3, e4⟩, ⟨c1, c2, c3, c4⟩, ⟨f1, f2, f3, f4⟩, hat, hbl⟩ := fr_box a wb
  have HB2 := Lib.hid (HBo.out.trans (hbl.mono HBo.out.size))
  have HA2 := Lib.hid (HAo.out.later hbl)
  have HC2 := Lib.hid hat
  unfold frV
  clear hat hbl
  go_wp2_with fail
  refine (CS _).mono ?_
  rintro e wc ⟨rfl, hBo⟩
  have HB3 := Lib.hid (HB2.out.trans (hBo.mono HB2.out.size))
  have HA3 := Lib.hid (HA2.out.later hBo)
  have HC3 := Lib.hid (HC2.out.later hBo)
  have C3 := C3 wc (HG.out.below HB3.out)
  clear hBo h1 e1 e2 e3 e4 c1 c2 c3 c4 f1 f2 f3 f4
  go_wp2_with fail
  refine C3.mono ?_
  rintro e wd ⟨⟨c, z, -, ho, rfl⟩, hBo⟩
  have HO3 := Lib.hid ho
  have HBp := Lib.hid (HB3.out.trans (hBo.mono HB3.out.size))
  have HAp := Lib.hid (HA3.out.later hBo)
  have HCp := Lib.hid (HC3.out.later hBo)
  clear hBo C3 ho
  obtain ⟨wv4, ua4, ub4, uc4, w4, ⟨h1, e1, e2, e3, e4⟩, ⟨c1, c2, c3, c4⟩, ⟨f1, f2, f3, f4⟩, hat, hbl⟩ := fr_box c wd
  have HB4 := Lib.hid (HBp.out.trans (hbl.mono HBp.out.size))
  have HA4 := Lib.hid (HAp.out.later hbl)
  have HC4 := Lib.hid (HCp.out.later hbl)
  have HD4 := Lib.hid hat
  unfold frV
  clear hat hbl
  go_wp2_with fail
  refine (CS _).mono ?_
  rintro e we ⟨rfl, hBo⟩
  have HB5 := Lib.hid (HB4.out.trans (hBo.mono HB4.out.size))
  have HA5 := Lib.hid (HA4.out.later hBo)
  have HC5 := Lib.hid (HC4.out.later hBo)
  have HD5 := Lib.hid (HD4.out.later hBo)
  clear hBo CS h1 e1 e2 e3 e4 c1 c2 c3 c4 f1 f2 f3 f4
  go_wp2_with fail
  refine (C4 _).mono ?_
  rintro e wf ⟨⟨d, t, -, ho, rfl⟩, hBo⟩
  obtain ⟨rfl, rfl⟩ := HO3.out.uniq ho
  have HB6 := Lib.hid (HB5.out.trans (hBo.mono HB5.out.size))
  have HA6 := Lib.hid (HA5.out.later hBo)
  have HC6 := Lib.hid (HC5.out.later hBo)
  have HD6 := Lib.hid (HD5.out.later hBo)
  clear hBo C4 ho
  obtain ⟨wv7, ua7, ub7, uc7, w7, ⟨h1, e1, e2, e3, e4⟩, ⟨c1, c2, c3, c4⟩, ⟨f1, f2, f3, f4⟩, hat, hbl⟩ := fr_box c wf
  have HB7 := Lib.hid (HB6.out.trans (hbl.mono HB6.out.size))
  have HA7 := Lib.hid (HA6.out.later hbl)
  have HC7 := Lib.hid (HC6.out.later hbl)
  have HD7 := Lib.hid (HD6.out.later hbl)
  have HE7 := Lib.hid hat
  have CF := fixed_any w7 (HG.out.below HB7.out)
  unfold frV
  clear hat hbl
  go_wp2_with fail
  refine CF.mono ?_
  rintro e w8 ⟨rfl, hB8⟩
  have HB8 := Lib.hid (HB7.out.trans (hB8.mono HB7.out.size))
  obtain ⟨j0, j1, j2, j3⟩ := (HA7.out.later hB8).cells
  obtain ⟨k0, k1, k2, k3⟩ := (HC7.out.later hB8).cells
  obtain ⟨m0, m1, m2, m3⟩ := (HD7.out.later hB8).cells
  obtain ⟨n0, n1, n2, n3⟩ := (HE7.out.later hB8).cells
  have hz := not171 HO3.out
  obtain ⟨ba, hae, -, hba⟩ := fr_eql a a
  obtain ⟨bc, hce, -, hbc⟩ := fr_eql c c
  obtain rfl := hba.2 rfl
  obtain rfl := hbc.2 rfl
  have hag := fun w => fr_guard a a w
  have hcg := fun w => fr_guard c c w
  unfold frV at hae hce hag hcg
  clear hB8 CF h1 e1 e2 e3 e4 c1 c2 c3 c4 f1 f2 f3 f4 hba hbc
  go_wp2
  go_ret
  first | exact ⟨rfl, HB8.out⟩ | exact ⟨by simp, HB8.out⟩

set_option maxRecDepth 100000 in
/-- WHAT THE WALK GIVES, for every argument that can be read. -/
theorem contract (H : Type) (enc : TypeId × Value → H) (W : World) (base : Nat) (args : Array Value) (ds gs : List (DataW H)) (before : List MemPlace)
    (hval : ∀ (j : Nat) t v, Tryd.f4.params[j]? = some t → args[j]? = some v → Value.okWide Tryd.prog W .any base t v)
    (hW : DataW.Whole enc Tryd.prog Tryd.f4.params.toList Rows.frameOpensSpec.vars false W args.toList ds gs before)
    (hreach : (DataW.weightsEach Tryd.prog (Tryd.f4.params.toList) ds).all (· ≤ reachBytes) = true) (hg : GE W) :
    Calls Tryd.prog 4 args W fun e W' => ∃ v, e = .returned v ∧ Rows.frameOpensSpec.post enc Tryd.prog Tryd.f4 false true false false W args v W' := by
  have hW' := hW
  obtain ⟨p, q, hA0, hV, rfl, hfz, hnd⟩ := hW
  have hA : DataW.TrodAll enc Tryd.prog W 0 (fun _ => true) true Tryd.f4.params.toList args.toList ds p := hA0
  rw [Tryd.params4] at hA hval hreach
  obtain ⟨v0, d0, rfl, rfl, h0⟩ := trodAll_one hA
  obtain ⟨rfl, rfl⟩ := trodVars_none hV
  obtain ⟨s0, rfl, rfl, rfl, ws0⟩ := Go.ChangeMaps.open_string Tryd.underlying9 (hval 0 9 v0 rfl rfl) h0
  have r0 := reach_size (sized_string hreach (j := 0) rfl rfl)
  clear hA0 hval
  simp only [List.append_nil] at hW'
  refine (walk s0 W r0 hg).mono fun e W' ⟨he, hB⟩ => ?_
  subst he
  exact ⟨_, rfl, post_of_below (pa := []) (pv := []) hW' (fun _ _ _ => trodAll_mk1 (shut_bool Tryd.underlying4 _)) (fun sp hsp => trodAll_mk1 (Go.ChangeMaps.shut_string Tryd.underlying9 ws0)) (fun _ _ => rfl) (by simp) hB (ok_one (by kernel_rfl) rfl (okWide_bool_mk Tryd.underlying4 _))⟩

theorem reads (os : Os) {H : Type} (enc : TypeId × Value → H) : ∃ places, DataW.whole enc Tryd.prog ((laidWorldH os).forCall (fun _ _ => 0) ⟨#[], #[.string ⟨#[]⟩], []⟩).memory Tryd.f4.params.toList Rows.frameOpensSpec.vars false (#[.string ⟨#[]⟩] : Array Value).toList 8 = some ([.lit (.string [])], [], places) :=
  ⟨[], by kernel_rfl⟩

set_option maxRecDepth 100000 in
theorem lifted (os : Os) (started : os.Started) (H : Type) (enc : TypeId × Value → H) (F : Stop.Interp) :
    ReturnsInHanded {} Tryd.checked os 4 .any ((OpenSpec.ofChange Rows.frameOpensSpec).preRow enc Tryd.prog Tryd.f4 Rows.frameOpensRow.domain false Rows.frameOpensRow.laid) (((OpenSpec.ofChange Rows.frameOpensSpec).at F).post enc Tryd.prog Tryd.f4 false true false false) := by
  obtain ⟨places, hx⟩ := reads os enc
  refine returnsInHanded_of_row (C := Tryd.checked) (s := OpenSpec.ofChange Rows.frameOpensSpec) own started (by kernel_rfl) Tryd.func4
    (witness_row_at (enc := enc) (C := Tryd.checked) false (laidWorldH os) #[.string ⟨#[]⟩] rfl (by kernel_rfl) (by kernel_rfl) (by kernel_rfl)
      (OpenSpec.preRow_of_cond 8 hx (by kernel_rfl) (fun k hk => by cases hk) (by kernel_rfl) (laid_metH os _))) ?_
  intro W base args ds gs before hval hW _ hcond hreach hL _ _
  obtain ⟨p, q, hA0, hV, hpq, hfz, hnd⟩ := id hW
  obtain ⟨rfl, _⟩ := trodVars_none hV
  rw [List.append_nil] at hreach
  exact contract H enc W base args ds [] before hval hW hreach (handle_of_laid hL)

theorem said : Rows.FrameOpensSaid :=
  OpenClaim.holds_of_cond 4 Tryd.f4 rfl rfl rfl rfl rfl rfl rfl ⟨rfl, rfl, rfl, rfl, rfl⟩ rfl rfl rfl rfl rfl (by kernel_rfl) Tryd.func4 (by kernel_rfl)
    (of_decide_eq_true (by kernel_rfl)) (by unfold Func.isWrapper; first | (rw [if_pos (by decide +kernel)]; kernel_rfl) | (rw [if_neg (by decide +kernel)]; exact ⟨rfl, rfl⟩))
    (fun os started H enc _ F => by rw [OpenClaim.pre_eq_preRow]; exact lifted os started H enc F)

theorem plain (f : FuncId) (fn : Func) (hf : Tryd.pinned.checked.prog.funcNamed "stillage/stillagelaw17.FrameOpens" = some f) (hfn : Tryd.pinned.checked.prog.funcs[f]? = some fn) :
    true = Tryd.pinned.checked.prog.looks [] ∧ ∀ (j : Nat) t, fn.params[j]? = some t → Tryd.pinned.checked.prog.wantsStandIn t = false := by
  obtain rfl : f = 4 := Option.some.inj ((show Tryd.prog.funcNamed "stillage/stillagelaw17.FrameOpens" = some 4 by kernel_rfl).symm.trans hf) |>.symm
  obtain rfl : fn = Tryd.f4 := (Option.some.inj (Tryd.func4.symm.trans hfn)).symm
  refine ⟨by kernel_rfl, fun j t ht => ?_⟩
  rw [Tryd.params4] at ht
  have hm : t ∈ [9] := by simpa using Array.mem_of_getElem? ht
  have hall : ([9].all fun u => !Tryd.prog.wantsStandIn u) = true := by kernel_rfl
  exact (show Tryd.prog.wantsStandIn t = false by simpa using List.all_eq_true.1 hall t hm)

/-- THE CARD -/
theorem card : Rows.FrameOpensCardSaid :=
  Claim7.holds_tied_plain_at .later [] _ _ _ _ said (fun _ h => by cases h) (by kernel_rfl) (fun _ h => by cases h) frameOpens_row_tie rfl ⟨rfl, rfl⟩ (by kernel_rfl) rfl plain (by kernel_rfl)


end Go.Proofs.YtgeggiafjojgdaaDoor.fopens

