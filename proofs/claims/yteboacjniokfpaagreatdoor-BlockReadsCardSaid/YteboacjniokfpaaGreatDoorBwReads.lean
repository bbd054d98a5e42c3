/-
  Whether any bytes are a volume, and its root, is as the document says, with sectors of the root bad or not, and opening writes nothing: for every text, of which the first 6400 bytes are taken, and every number.
  Conditions: none besides the row's own.
-/
import Derived.Test.YteboacjniokfpaaGreatDoorBlkW
import Derived.Test.YteboacjniokfpaaGreatDoorBlkU
import Derived.Test.YteboacjniokfpaaGreatDoorNvV
import Derived.Test.YteboacjniokfpaaGreatDoorNvW
import Derived.Test.YteboacjniokfpaaGreatDoorDskZf
import Derived.OwnWalk
import Derived.Deep.RegionLaw
namespace Go.Proofs.YteboacjniokfpaaGreatDoor.breads
open Go.ChangeShapes Go.WideShapes Go.ChangeAt Go.RowKit Go Go.Maps SM

set_option maxRecDepth 100000 in
set_option maxHeartbeats 8000000 in
theorem walk (image : ByteArray) (bad : Int) (w : World) (hi : image.size ≤ 140737488351232) (_hbad : -9223372036854775808 ≤ bad ∧ bad ≤ 9223372036854775807) :
    Calls Tryz.prog 5 #[.string image, .int .i64 bad] w fun r w' => r = .returned (.bool true) ∧ Below w.heap.size w w' := by
  obtain ⟨z, hz⟩ : ∃ z : Int, ((image.size : Int) + 63) / 64 = z := ⟨_, rfl⟩
  have hz2 : ((image.size : Int) + 63).tdiv 64 = z := by rw [Int.tdiv_eq_ediv_of_nonneg (by omega), hz]
  obtain ⟨P, Q, ⟨a1, a2, a3⟩, ⟨b1, b2, b3⟩, h5, h6⟩ := clamp z 32 100 (by omega)
  obtain ⟨k, rfl⟩ : ∃ k : Nat, Q = (k : Int) := ⟨Q.toNat, by omega⟩
  have hk1 : 1 ≤ k := by omega
  have hk2 : k ≤ 100 := by omega
  obtain ⟨w1, w2, m1, m2, hB2, hs2, m3⟩ := fill_text w image (64 * k) (by omega)
  have hx := size_filled image (64 * k)
  have hik : (64 : Int) * (k : Int) = ((64 * k : Nat) : Int) := by omega
  rw [← hik] at m1
  obtain ⟨x, hX⟩ : ∃ x, filled image (64 * k) = x := ⟨_, rfl⟩
  rw [hX] at m3 hx
  have C1 := fun w => open_bytes hx hk1 (by omega) w
  have C2 := fun w => ropen_yes x k hx hk1 (by omega) w
  have CF := fun w => fixed8_any w
  have hok := parts_ok hx hk1 (by omega)
  have hmade : (fresh (parts x k)).made = 0 := rfl
  have RB := fun (w w' : World) (r : Nat) (h : Opening x w r k w') hr => ref_bytes (w := w) (w' := w') (r := r) h hr
  generalize hs0 : fresh (parts x k) = s at *
  obtain ⟨cc, hcc⟩ : ∃ cc : Int, ((min (64 * k) image.size : Nat) : Int) = cc := ⟨_, rfl⟩
  have HB2 := Lib.hid hB2
  have HM3 := Lib.hid m3
  have HS2 := Lib.hid hs2
  have m30 := m3 w2 (Below.refl _ _)
  have hi63 : (image.size : Int) ≤ 140737488351232 := by omega
  clear hX m3 hB2 hs2 hik hx hs0 hcc
  go_enter Tryz.func5, Tryz.ntmps5
  go_wp2_with fail
  refine (C1 _).mono ?_
  rintro e w3 ⟨b, g, m, rfl, h3, ho3, hB3⟩
  have H3 := Lib.hid h3
  have HO3 := Lib.hid (show Over w.heap.size b g m from ⟨by have := ho3.1; have := HB2.out.size; omega, by have := ho3.2.1; have := HB2.out.size; omega, by have := ho3.2.2; have := HB2.out.size; omega⟩)
  have HB3 := Lib.hid (HB2.out.trans (hB3.mono HB2.out.size))
  have m33 := HM3.out w3 hB3
  clear h3 ho3 hB3 C1 m30 m1 m2
  go_wp2_with fail
  refine (C2 _).mono ?_
  rintro e w4 ⟨rfl, hop⟩
  obtain ⟨v0, hr4, hB4⟩ := RB _ _ _ hop (Nat.le_refl _)
  have HH := Lib.hid (show HF w b g m w3.heap.size 0 0 none s s w4 from ⟨H3.out.below hB4, ⟨[], _, _, _, _, Nat.le_refl _, hr4.lower HB3.out.size⟩, HO3.out, HB3.out.trans (hB4.mono HB3.out.size), hok, by rw [hmade]; exact Nat.le_refl _, by rw [hmade]; exact Nat.le_refl _, fun _ e => by cases e⟩)
  have HMd := Lib.hid hmade
  clear hop hr4 hB4 C2 m33 RB H3 HO3 HB3 hmade hok
  generalize w3.heap.size = r at *
  go_wp2
  go_loopw [11] (fun i wr => ∃ (j : Nat) (t : DS), j ≤ 2 ∧ i = .int .i64 j ∧ Hid (HF w b g m r 0 (2 * j) none t t wr ∧ t.made = 0)) (fun i _ => 2 - (intOf i).toNat)
  case atStart => exact ⟨0, s, by omega, rfl, Lib.hid ⟨HH.out, HMd.out⟩⟩
  case round =>
    clear HH HMd
    obtain ⟨j, t, hj, rfl, H⟩ := hrel
    by_cases hlt : j < 2
    · have hji : (j : Int) < 2 := by omega
      have hj0 : (0 : Int) ≤ (j : Int) := by omega
      have CB := fun f => H.out.1.bad (j : Int) ⟨by omega, by omega⟩ f
      have CR := fun f W (h : HF w b g m r 0 (2 * j + 1) none (t.setBad (j : Int) f) t W) => h.rbad (by omega) (j : Int) ⟨by omega, by omega⟩ f
      have hmd := fun f => (show (t.setBad (j : Int) f).made = 0 by unfold DS.setBad; split <;> exact H.out.2)
      have HM := Lib.hid hmd
      clear hmd
      go_wp2_with fail
      refine (CB _).mono ?_
      rintro e w5 ⟨rfl, h5⟩
      have H5 := Lib.hid h5
      clear h5 CB
      go_wp2_with fail
      refine (CR _ _ H5.out).mono ?_
      rintro e w6 ⟨rfl, h6⟩
      have H6 := Lib.hid (And.intro h6 (HM.out (bits .and .i64 (bad / 2 ^ j) 1 == 1)))
      clear h6 CR
      go_wp2
      go_roundw
      case rel => exact ⟨j + 1, _, by omega, by go_num, Lib.hid ⟨H6.out.1.le (by omega), H6.out.2⟩⟩
      case measure => simp [intOf]; omega
    · obtain rfl : j = 2 := by omega
      have CO := vopen_any H.out.1.dk
      have KS := fun W (h : HF w b g m r 0 (2 * 2) none t t W) => steps_any h.dk
      rw [H.out.2] at KS
      have CV := fun W (h : HF w b g m r 0 (2 * 2) none t t W) => (show Calls Tryz.prog 42 #[.pointer (some ⟨r, 0, none⟩)] W fun e w' => ∃ p, e = .returned (.tuple #[.pointer p, .int .i64 (vopenE t)]) ∧ RVMade r (roots t).2.2 (roots t).2.1 p (vopenE t) W w' ∧ Below W.heap.size W w' by
        obtain ⟨zs, v0, v1, v2, kp, _, hr⟩ := h.ref
        exact rvopen_any hr h.ok (by rw [H.out.2]; omega))
      have hX : (vopenX t).text = (roots t).2.2 ∧ (vopenX t).num = (roots t).2.1 := ⟨rfl, rfl⟩
      have HX := Lib.hid hX
      clear hX
      generalize vopenE t = E at *
      generalize vopenX t = X at *
      generalize (roots t).2.2 = T at *
      generalize (roots t).2.1 = N at *
      have hEE : (E != E) = false := by simp
      go_wp2_with fail
      refine CO.mono ?_
      rintro e w5 ⟨p, rfl, hn5, hB5⟩
      have H5 := Lib.hid (H.out.1.later hB5)
      have HN5 := Lib.hid hn5
      clear hn5 hB5 CO
      go_wp2_with fail
      refine (CV _ H5.out).mono ?_
      rintro e w6 ⟨p2, rfl, hn6, hB6⟩
      have H6 := Lib.hid (H5.out.later hB6)
      have HN6 := Lib.hid hn6
      have HB6 := Lib.hid hB6
      clear hn6 hB6 CV
      by_cases hE : E = 0
      · obtain ⟨l, c, F, rfl, _, hv5⟩ : ∃ l c F, p = some ⟨l, 0, none⟩ ∧ w4.heap.size ≤ w4.heap.size ∧ ∃ B, VolAt B l b g m c F X w5 := by
          rcases HN5.out with ⟨_, l, c, F, e1, _, e2⟩ | ⟨e, _⟩
          · exact ⟨l, c, F, e1, Nat.le_refl _, _, e2⟩
          · exact absurd hE e
        obtain ⟨B, hv5⟩ := hv5
        obtain ⟨q, c2, rfl, hr6⟩ : ∃ q c, p2 = some ⟨q, 0, none⟩ ∧ RVNew q r c T N w5 w6 := by
          rcases HN6.out with ⟨_, q, c, e1, e2⟩ | ⟨e, _⟩
          · exact ⟨q, c, e1, e2⟩
          · exact absurd hE e
        have CR := vroot_any (hv5.below HB6.out)
        rw [HX.out.1, HX.out.2] at CR
        have HO6 := Lib.hid hr6.obj
        clear hv5 hr6 HN5 HN6 hE
        have tt : (T.toList == T.toList) = true := by simp
        have nn : ((N : Int) == (N : Int)) = true := by simp
        go_wp2_with fail
        refine (KS _ H6.out).mono ?_
        rintro e w' ⟨rfl, rfl⟩
        go_wp2_with fail
        refine CR.mono ?_
        rintro e w7 ⟨rfl, _, hB7⟩
        have H7 := Lib.hid (H6.out.later hB7)
        have ho7 := keeps_of hB7 HO6.out
        have d1 := RVO.c1 ho7
        have d2 := RVO.c2 ho7
        clear hB7 ho7 CR KS
        go_wp2_with fail
        refine (CF _).mono ?_
        rintro e w8 ⟨rfl, hB8⟩
        have H8 := Lib.hid (H7.out.later hB8)
        clear hB8 d1 d2
        go_wp2
        go_ret
        exact ⟨rfl, H8.out.below⟩
      · obtain rfl : p = none := by
          rcases HN5.out with ⟨e, _⟩ | ⟨_, e⟩
          · exact absurd e hE
          · exact e
        obtain rfl : p2 = none := by
          rcases HN6.out with ⟨e, _⟩ | ⟨_, e⟩
          · exact absurd e hE
          · exact e
        clear HN5 HN6 hE
        go_wp2_with fail
        refine (KS _ H6.out).mono ?_
        rintro e w' ⟨rfl, rfl⟩
        go_wp2_with fail
        refine (CF _).mono ?_
        rintro e w8 ⟨rfl, hB8⟩
        have H8 := Lib.hid (H6.out.later hB8)
        clear hB8
        go_wp2
        go_ret
        exact ⟨rfl, H8.out.below⟩

set_option maxRecDepth 100000 in
/-- WHAT THE WALK GIVES, for every argument that can be read. -/
theorem contract (H : Type) (enc : TypeId × Value → H) (W : World) (base : Nat) (args : Array Value) (ds gs : List (DataW H)) (before : List MemPlace)
    (hval : ∀ (j : Nat) t v, Tryz.f5.params[j]? = some t → args[j]? = some v → Value.okWide Tryz.prog W .any base t v)
    (hW : DataW.Whole enc Tryz.prog Tryz.f5.params.toList Rows.blockReadsSpec.vars false W args.toList ds gs before)
    (hreach : (DataW.weightsEach Tryz.prog (Tryz.f5.params.toList) ds).all (· ≤ reachBytes) = true) :
    Calls Tryz.prog 5 args W fun e W' => ∃ v, e = .returned v ∧ Rows.blockReadsSpec.post enc Tryz.prog Tryz.f5 false true false false W args v W' := by
  have hW' := hW
  obtain ⟨p, q, hA0, hV, rfl, hfz, hnd⟩ := hW
  have hA : DataW.TrodAll enc Tryz.prog W 0 (fun _ => true) true Tryz.f5.params.toList args.toList ds p := hA0
  rw [Tryz.params5] at hA hval hreach
  obtain ⟨v0, v1, d0, d1, p0, p1, rfl, rfl, rfl, h0, h1⟩ := trodAll_two hA
  obtain ⟨rfl, rfl⟩ := trodVars_none hV
  obtain ⟨s0, rfl, rfl, rfl, ws0⟩ := Go.ChangeMaps.open_string Tryz.underlying9 (hval 0 9 v0 rfl rfl) h0
  have r0 := reach_size (sized_string hreach (j := 0) rfl rfl)
  obtain ⟨n1, rfl, rfl, rfl, wn1⟩ := open_int Tryz.underlying3 (hval 1 3 v1 rfl rfl) h1
  have r1 := int_range wn1
  clear hA0 hval
  simp only [List.append_nil] at hW'
  refine (walk s0 n1 W r0 r1).mono fun e W' ⟨he, hB⟩ => ?_
  subst he
  exact ⟨_, rfl, post_of_below (pa := [] ++ ([])) (pv := []) hW' (fun _ _ _ => trodAll_mk1 (shut_bool Tryz.underlying4 _)) (fun sp hsp => trodAll_mk2 (Go.ChangeMaps.shut_string Tryz.underlying9 ws0) (shut_int Tryz.underlying3 wn1)) (fun _ _ => rfl) (by simp) hB (ok_one (by kernel_rfl) rfl (okWide_bool_mk Tryz.underlying4 _))⟩

theorem reads (os : Os) {H : Type} (enc : TypeId × Value → H) : ∃ places, DataW.whole enc Tryz.prog ((laidWorld os).forCall (fun _ _ => 0) ⟨#[], #[.string ⟨#[]⟩, .int .i64 0], []⟩).memory Tryz.f5.params.toList Rows.blockReadsSpec.vars false (#[.string ⟨#[]⟩, .int .i64 0] : Array Value).toList 8 = some ([.lit (.string []), .lit (.int .i64 0)], [], places) :=
  ⟨[], by kernel_rfl⟩

set_option maxRecDepth 100000 in
theorem lifted (os : Os) (started : os.Started) (H : Type) (enc : TypeId × Value → H) (F : Stop.Interp) :
    ReturnsInHanded {} Tryz.checked os 5 .any ((OpenSpec.ofChange Rows.blockReadsSpec).preRow enc Tryz.prog Tryz.f5 Rows.blockReadsRow.domain false Rows.blockReadsRow.laid) (((OpenSpec.ofChange Rows.blockReadsSpec).at F).post enc Tryz.prog Tryz.f5 false true false false) := by
  obtain ⟨places, hx⟩ := reads os enc
  refine returnsInHanded_of_row (C := Tryz.checked) (s := OpenSpec.ofChange Rows.blockReadsSpec) own started (by kernel_rfl) Tryz.func5
    (witness_row_at (enc := enc) (C := Tryz.checked) false (laidWorld os) #[.string ⟨#[]⟩, .int .i64 0] rfl (by kernel_rfl) (by kernel_rfl) (by kernel_rfl)
      (OpenSpec.preRow_of_cond 8 hx (by kernel_rfl) (fun k hk => by cases hk) (by kernel_rfl) (laid_met os _))) ?_
  intro W base args ds gs before hval hW _ hcond hreach hL _ _
  obtain ⟨p, q, hA0, hV, hpq, hfz, hnd⟩ := id hW
  obtain ⟨rfl, _⟩ := trodVars_none hV
  rw [List.append_nil] at hreach
  exact contract H enc W base args ds [] before hval hW hreach

theorem said : Rows.BlockReadsSaid :=
  OpenClaim.holds_of_cond 5 Tryz.f5 rfl rfl rfl rfl rfl rfl rfl ⟨rfl, rfl, rfl, rfl, rfl⟩ rfl rfl rfl rfl rfl (by kernel_rfl) Tryz.func5 (by kernel_rfl)
    (of_decide_eq_true (by kernel_rfl)) (by unfold Func.isWrapper; first | (rw [if_pos (by decide +kernel)]; kernel_rfl) | (rw [if_neg (by decide +kernel)]; exact ⟨rfl, rfl⟩))
    (fun os started H enc _ F => by rw [OpenClaim.pre_eq_preRow]; exact lifted os started H enc F)

theorem plain (f : FuncId) (fn : Func) (hf : Tryz.pinned.checked.prog.funcNamed "stillage/stillagelaw08.BlockReads" = some f) (hfn : Tryz.pinned.checked.prog.funcs[f]? = some fn) :
    true = Tryz.pinned.checked.prog.looks [] ∧ ∀ (j : Nat) t, fn.params[j]? = some t → Tryz.pinned.checked.prog.wantsStandIn t = false := by
  obtain rfl : f = 5 := Option.some.inj ((show Tryz.prog.funcNamed "stillage/stillagelaw08.BlockReads" = some 5 by kernel_rfl).symm.trans hf) |>.symm
  obtain rfl : fn = Tryz.f5 := (Option.some.inj (Tryz.func5.symm.trans hfn)).symm
  refine ⟨by kernel_rfl, fun j t ht => ?_⟩
  rw [Tryz.params5] at ht
  have hm : t ∈ [9, 3] := by simpa using Array.mem_of_getElem? ht
  have hall : ([9, 3].all fun u => !Tryz.prog.wantsStandIn u) = true := by kernel_rfl
  exact (show Tryz.prog.wantsStandIn t = false by simpa using List.all_eq_true.1 hall t hm)

/-- THE CARD -/
theorem card : Rows.BlockReadsCardSaid :=
  Claim7.holds_tied_plain_at .later [] _ _ _ _ said (fun _ h => by cases h) (by kernel_rfl) (fun _ h => by cases h) blockReads_row_tie rfl ⟨rfl, rfl⟩ (by kernel_rfl) rfl plain (by kernel_rfl)


end Go.Proofs.YteboacjniokfpaaGreatDoor.breads

