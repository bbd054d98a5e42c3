/-
  Which nodes make a tree is as the document says; a tree's nodes are those of which it was made: for every list of nodes.
  Conditions: none besides the row's own.
-/
import Derived.Test.YtfncoojpommfcaaGreatDoorRB
import Derived.Test.YtfncoojpommfcaaGreatDoorFilFw
import Derived.OwnWalk
namespace Go.Proofs.YtfncoojpommfcaaGreatDoor.ffrom
open Go.Proofs.YtfncoojpommfcaaGreatDoor
open Go.ChangeShapes Go.WideShapes Go.ChangeAt Go.RowKit Go

set_option maxRecDepth 100000 in
set_option maxHeartbeats 16000000 in
theorem walk (va : Value) (l : List Nde) (w : World) (hOa : FullAt w va l) (hok : ∀ r ∈ l, NdeIn r) (hg : GE w) :
    Calls Tryz.prog 4 #[va] w fun e w' => e = .returned (.bool true) ∧ Below w.heap.size w w' := by
  have C1 := from_any l hok va w hOa.1 hg
  have HO := Lib.hid hOa
  have HOK := Lib.hid hok
  have HG := Lib.hid hg
  obtain ⟨aa, capa, rfl, -⟩ := hOa.1
  clear hOa hok hg
  go_enter Tryz.func4, Tryz.ntmps4
  go_wp2_with fail
  refine C1.mono ?_
  rintro e w1 ⟨hE, hB1⟩
  have C2 := rfrom_any l HOK.out _ w1 ⟨HO.out.1.later hB1, HO.out.2⟩
  have HB1 := Lib.hid hB1
  clear C1
  rcases hE with ⟨T, c, F, hG, hT, rfl, hF⟩ | ⟨hno, rfl⟩
  · as_aux_lemma =>
    have HX := Lib.hid (show FxAt w w1 c T from ⟨F, hF, hB1⟩)
    have HGD := Lib.hid hG
    have HTT := Lib.hid hT
    clear hB1 hG hT hF
    go_wp2_with fail
    refine C2.mono ?_
    rintro e w2 ⟨hE2, hB2⟩
    obtain ⟨u, rfl⟩ : ∃ u, e = .returned (.tuple #[u, .int .i64 0]) := by
      rcases hE2 with ⟨_, h⟩ | ⟨hno, _⟩
      · exact h
      · exact absurd HTT.out (hno T HGD.out)
    have HX2 := Lib.hid (HX.out.later hB2)
    have CF := fixed_any w2 (HG.out.below HX2.out.below)
    clear C2 hE2 hB2
    go_wp2_with fail
    refine CF.mono ?_
    rintro e w3 ⟨rfl, hB3⟩
    have HX3 := Lib.hid (HX2.out.later hB3)
    have CN := fnodes HX3.out HGD.out
    clear CF hB3
    go_wp2_with fail
    refine CN.mono ?_
    rintro e w4 ⟨v4, rfl, hl4, hB4⟩
    have HX4 := Lib.hid (HX3.out.later hB4)
    have CS := nsame_any hl4 (HO.out.1.later HX4.out.below) (by rw [tolds_len]; have := HGD.out.formed.len; omega) (by rw [← HTT.out, tolds_len]; have := HGD.out.formed.len; omega)
    obtain ⟨a4, cap4, rfl, -⟩ := hl4
    clear CN hB4
    go_wp2_with fail
    refine CS.mono ?_
    rintro e w5 ⟨⟨b, rfl, hb⟩, hB5⟩
    obtain rfl := hb.2 HTT.out
    have HX5 := Lib.hid (HX4.out.later hB5)
    clear CS hb hB5
    go_wp2
    go_ret
    exact ⟨rfl, HX5.out.below⟩
  · as_aux_lemma =>
    have HNO := Lib.hid hno
    clear hB1 hno
    go_wp2_with fail
    refine C2.mono ?_
    rintro e w2 ⟨hE2, hB2⟩
    obtain rfl : e = .returned (.tuple #[.pointer none, .int .i64 1]) := by
      rcases hE2 with ⟨⟨T, hG, hT⟩, _⟩ | ⟨_, h⟩
      · exact absurd hT (HNO.out T hG)
      · exact h
    have HB2 := Lib.hid (HB1.out.trans (hB2.mono HB1.out.size))
    have CF := fixed_any w2 (HG.out.below HB2.out)
    clear C2 hE2 hB2
    go_wp2_with fail
    refine CF.mono ?_
    rintro e w3 ⟨rfl, hB3⟩
    have HB3 := Lib.hid (HB2.out.trans (hB3.mono HB2.out.size))
    clear CF hB3
    go_wp2
    go_ret
    exact ⟨rfl, HB3.out⟩
set_option maxRecDepth 100000 in
/-- WHAT THE WALK GIVES, for every argument that can be read. -/
theorem contract (H : Type) (enc : TypeId × Value → H) (W : World) (base : Nat) (args : Array Value) (ds gs : List (DataW H)) (before : List MemPlace)
    (hval : ∀ (j : Nat) t v, Tryz.f4.params[j]? = some t → args[j]? = some v → Value.okWide Tryz.prog W .any base t v)
    (hW : DataW.Whole enc Tryz.prog Tryz.f4.params.toList Rows.fileFromSpec.vars false W args.toList ds gs before)
    (hreach : (DataW.weightsEach Tryz.prog (Tryz.f4.params.toList) ds).all (· ≤ reachBytes) = true) (hg : GE W) :
    Calls Tryz.prog 4 args W fun e W' => ∃ v, e = .returned v ∧ Rows.fileFromSpec.post enc Tryz.prog Tryz.f4 false true false false W args v W' := by
  have hW' := hW
  obtain ⟨p, q, hA0, hV, rfl, hfz, hnd⟩ := hW
  have hA : DataW.TrodAll enc Tryz.prog W 0 (fun _ => true) true Tryz.f4.params.toList args.toList ds p := hA0
  rw [Tryz.params4] at hA hval hreach
  obtain ⟨v0, d0, rfl, rfl, h0⟩ := trodAll_one hA
  obtain ⟨rfl, rfl⟩ := trodVars_none hV
  have lt0 : ∀ x ∈ p, x.block < W.heap.size := fun x hx => hW'.lt x (by simp [hx])
  obtain ⟨l0, k0, r0⟩ := nodes_open (hval 0 32 v0 rfl rfl) h0 lt0 hreach (j := 0) rfl rfl
  clear hA0 hval
  simp only [List.append_nil] at hW'
  refine (walk v0 l0 W k0 r0 hg).mono fun e W' ⟨he, hB⟩ => ?_
  subst he
  exact ⟨_, rfl, post_of_below (pa := p) (pv := []) hW' (fun _ _ _ => trodAll_mk1 (shut_bool Tryz.underlying4 _)) (fun sp hsp => trodAll_mk1 (WideElems.Trod_stays laidOut (by kernel_rfl) (of_decide_eq_true (by kernel_rfl)) h0 (fun x hx => hB.same (lt0 x hx)) (fun x hx => hsp x (by simp [hx])))) (fun _ _ => rfl) (by simp) hB (ok_one (by kernel_rfl) rfl (okWide_bool_mk Tryz.underlying4 _))⟩

theorem reads (os : Os) {H : Type} (enc : TypeId × Value → H) : ∃ places, DataW.whole enc Tryz.prog ((laidWorld os).forCall (fun _ _ => 0) ⟨#[], #[.slice none 0 0], []⟩).memory Tryz.f4.params.toList Rows.fileFromSpec.vars false (#[.slice none 0 0] : Array Value).toList 8 = some ([.nil], [], places) :=
  ⟨[], by kernel_rfl⟩

set_option maxRecDepth 100000 in
theorem lifted (os : Os) (started : os.Started) (H : Type) (enc : TypeId × Value → H) (F : Stop.Interp) :
    ReturnsInHanded {} Tryz.checked os 4 .any ((OpenSpec.ofChange Rows.fileFromSpec).preRow enc Tryz.prog Tryz.f4 Rows.fileFromRow.domain false Rows.fileFromRow.laid) (((OpenSpec.ofChange Rows.fileFromSpec).at F).post enc Tryz.prog Tryz.f4 false true false false) := by
  obtain ⟨places, hx⟩ := reads os enc
  refine returnsInHanded_of_row (C := Tryz.checked) (s := OpenSpec.ofChange Rows.fileFromSpec) own started (by kernel_rfl) Tryz.func4
    (witness_row_at (enc := enc) (C := Tryz.checked) false (laidWorld os) #[.slice none 0 0] rfl (by kernel_rfl) (by kernel_rfl) (by kernel_rfl)
      (OpenSpec.preRow_of_cond 8 hx (by kernel_rfl) (fun k hk => by cases hk) (by kernel_rfl) (laid_met os _))) ?_
  intro W base args ds gs before hval hW _ hcond hreach hL _ _
  obtain ⟨p, q, hA0, hV, hpq, hfz, hnd⟩ := id hW
  obtain ⟨rfl, _⟩ := trodVars_none hV
  rw [List.append_nil] at hreach
  exact contract H enc W base args ds [] before hval hW hreach (handle_of_laid hL)

theorem said : Rows.FileFromSaid :=
  OpenClaim.holds_of_cond 4 Tryz.f4 rfl rfl rfl rfl rfl rfl rfl ⟨rfl, rfl, rfl, rfl, rfl⟩ rfl rfl rfl rfl rfl (by kernel_rfl) Tryz.func4 (by kernel_rfl)
    (of_decide_eq_true (by kernel_rfl)) (by unfold Func.isWrapper; first | (rw [if_pos (by decide +kernel)]; kernel_rfl) | (rw [if_neg (by decide +kernel)]; exact ⟨rfl, rfl⟩))
    (fun os started H enc _ F => by rw [OpenClaim.pre_eq_preRow]; exact lifted os started H enc F)

theorem plain (f : FuncId) (fn : Func) (hf : Tryz.pinned.checked.prog.funcNamed "stillage/stillagelaw14.FileFrom" = some f) (hfn : Tryz.pinned.checked.prog.funcs[f]? = some fn) :
    true = Tryz.pinned.checked.prog.looks [] ∧ ∀ (j : Nat) t, fn.params[j]? = some t → Tryz.pinned.checked.prog.wantsStandIn t = false := by
  obtain rfl : f = 4 := Option.some.inj ((show Tryz.prog.funcNamed "stillage/stillagelaw14.FileFrom" = some 4 by kernel_rfl).symm.trans hf) |>.symm
  obtain rfl : fn = Tryz.f4 := (Option.some.inj (Tryz.func4.symm.trans hfn)).symm
  refine ⟨by kernel_rfl, fun j t ht => ?_⟩
  rw [Tryz.params4] at ht
  have hm : t ∈ [32] := by simpa using Array.mem_of_getElem? ht
  have hall : ([32].all fun u => !Tryz.prog.wantsStandIn u) = true := by kernel_rfl
  exact (show Tryz.prog.wantsStandIn t = false by simpa using List.all_eq_true.1 hall t hm)

/-- THE CARD -/
theorem card : Rows.FileFromCardSaid :=
  Claim7.holds_tied_plain_at .later [] _ _ _ _ said (fun _ h => by cases h) (by kernel_rfl) (fun _ h => by cases h) fileFrom_row_tie rfl ⟨rfl, rfl⟩ (by kernel_rfl) rfl plain (by kernel_rfl)


end Go.Proofs.YtfncoojpommfcaaGreatDoor.ffrom

