/-
  What is written is read, and cut to so many bytes it is its beginning: for every list of texts and every place.
  Conditions: none besides the row's own.
-/
import Derived.Test.YtfncoojpommfcaaGreatDoorFilFy
import Derived.Test.YtfncoojpommfcaaGreatDoorKS
import Derived.OwnWalk
namespace Go.Proofs.YtfncoojpommfcaaGreatDoor.fcuts
open Go.Proofs.YtfncoojpommfcaaGreatDoor
open Go.ChangeShapes Go.WideShapes Go.ChangeAt Go.RowKit Go

def nmF : ByteArray := ⟨#[102]⟩
theorem pathF : IsPath ⟨#[47, 102]⟩ [nmF] := ⟨by unfold NameOk nmF; decide, by decide, .inr ⟨by simp, rfl⟩⟩
/-- a root, and a file in it -/
def cutT (h : ByteArray) : List Nod := [⟨1, true, 1, ⟨#[]⟩, [⟨nmF, 2⟩]⟩, ⟨2, false, 1, h, []⟩]
theorem cut1 : doV newT ⟨0, ⟨#[47, 102]⟩, ⟨#[]⟩, 0, ⟨#[]⟩⟩ = (cutT ⟨#[]⟩, 0) := by rw [doV_make pathF]; rfl
theorem file1 (h : ByteArray) : fileE (cutT h) [nmF] = .ok ⟨2, false, 1, h, []⟩ := rfl
theorem cut2 (h : ByteArray) {k : Nat} {s : ByteArray} (hk : k ≤ h.size) (hs : s.size ≤ 512) (hb : k + s.size ≤ 16384) : doV (cutT h) ⟨2, ⟨#[47, 102]⟩, ⟨#[]⟩, k, s⟩ = (cutT (wrote h k s), 0) := by
  rw [doV_write pathF (by omega) (by omega) hs]
  unfold writeV
  rw [file1]
  simp only
  rw [if_neg (by omega)]
  rfl
theorem cut3 (h : ByteArray) {k : Nat} (hk : k ≤ h.size) (hb : k ≤ 16384) : doV (cutT h) ⟨3, ⟨#[47, 102]⟩, ⟨#[]⟩, k, ⟨#[]⟩⟩ = (cutT (firsts h k), 0) := by
  rw [doV_cut pathF (by omega) (by omega)]
  unfold cutV
  rw [file1]
  simp only
  rw [if_neg (by omega)]
  rfl
theorem piece_all (h : ByteArray) (hs : h.size ≤ 1048576) : piece h 0 1048576 = h := by
  unfold piece
  rw [List.drop_zero, List.take_of_length_le (by rw [Array.length_toList]; exact hs), bs_self]
theorem cut4 (h : ByteArray) (hs : h.size ≤ 1048576) : readV (cutT h) ⟨#[47, 102]⟩ 0 1048576 = (h, 0) := by
  rw [readV_yes pathF (file1 h) (by decide) (by decide)]
  rw [show ((0 : Int).toNat) = 0 from rfl, show ((1048576 : Int).toNat) = 1048576 from rfl, piece_all h hs]
theorem cut_good : ∀ {h : ByteArray}, h.size ≤ 16384 → Good (cutT h) := by
  have h0 : Good (cutT ⟨#[]⟩) := by have := good_new.does ⟨0, ⟨#[47, 102]⟩, ⟨#[]⟩, 0, ⟨#[]⟩⟩; rw [cut1] at this; exact this
  intro h hs
  exact h0.data (x := ⟨2, false, 1, ⟨#[]⟩, []⟩) rfl rfl hs
theorem cmd_in {k a : Int} {s u d : ByteArray} (hk : 0 ≤ k ∧ k ≤ 10) (hs : s.size ≤ 1000) (hu : u.size ≤ 1000) (ha : 0 ≤ a ∧ a ≤ 16384) (hd : d.size ≤ 512) : CmdIn ⟨k, s, u, a, d⟩ :=
  ⟨⟨by show _ ≤ k; omega, by show k ≤ _; omega⟩, ⟨by show _ ≤ a; omega, by show a ≤ _; omega⟩, by show s.size ≤ _; omega, by show u.size ≤ _; omega, by show d.size ≤ _; omega⟩
theorem extr_list (h : ByteArray) (a b : Nat) : (h.extract a b).data.toList = (h.data.toList.take b).drop a := by
  rw [ByteArray.data_extract, Array.toList_extract]
  simp [List.extract, List.drop_take]
theorem wrote_long (h : ByteArray) (k : Nat) (s : ByteArray) : h.extract 0 k ++ s ++ h.extract (k + s.size) h.size = wrote h k s := by
  refine ba_ext ?_
  unfold wrote
  rw [bs_list, ByteArray.data_append, Array.toList_append, ByteArray.data_append, Array.toList_append, extr_list, extr_list, List.drop_zero]
  rw [List.take_of_length_le (l := h.data.toList) (i := h.size) (by rw [Array.length_toList]; exact Nat.le_refl _)]
theorem wrote_short (h : ByteArray) (k : Nat) (s : ByteArray) (hl : h.size ≤ k + s.size) : h.extract 0 k ++ s = wrote h k s := by
  refine ba_ext ?_
  unfold wrote
  rw [bs_list, ByteArray.data_append, Array.toList_append, extr_list, List.drop_zero, List.drop_of_length_le (by rw [Array.length_toList]; exact hl), List.append_nil]
theorem wrote_size (h : ByteArray) (k : Nat) (s : ByteArray) (hk : k ≤ h.size) : (wrote h k s).size ≤ h.size + s.size := by
  unfold wrote
  rw [bs_size, List.length_append, List.length_append, List.length_take, List.length_drop, Array.length_toList, Array.length_toList]
  have e1 : h.data.size = h.size := rfl
  have e2 : s.data.size = s.size := rfl
  omega
theorem first_is (h : ByteArray) (k : Nat) : h.extract 0 k = firsts h k := by
  refine ba_ext ?_
  unfold firsts
  rw [bs_list, extr_list, List.drop_zero]
set_option maxRecDepth 100000 in
set_option maxHeartbeats 8000000 in
theorem walk (va : Value) (rs : List ByteArray) (at0 : Int) (w : World) (hOa : StrsAt w va rs) (hza : rs.length ≤ 140737488351232 ∧ ∀ s ∈ rs, s.size ≤ 140737488351232) (_ : -9223372036854775808 ≤ at0 ∧ at0 ≤ 9223372036854775807) (hg : GE w) :
    Calls Tryz.prog 9 #[va, .int .i64 at0] w fun e w' => e = .returned (.bool true) ∧ Below w.heap.size w w' := by
  obtain ⟨aa, capa, rfl, ha⟩ := hOa
  have HA := Lib.hid ha
  have HZ := Lib.hid hza
  have HG := Lib.hid hg
  have hza1 := hza.1
  have C := fnew w
  obtain ⟨z, hz, hz2⟩ := and_to 65535 (by omega) at0
  have hz' : bits .and .i64 at0 65535 = (z : Int) := hz
  clear ha hza hg hz hz2
  go_enter Tryz.func9, Tryz.ntmps9
  go_wp2_with fail
  refine C.mono ?_
  rintro e w1 ⟨c, rfl, hx1⟩
  have C1 := fdo hx1 good_new ⟨0, ⟨#[47, 102]⟩, ⟨#[]⟩, 0, ⟨#[]⟩⟩ ⟨⟨by decide, by decide⟩, ⟨by decide, by decide⟩, by decide, by decide, by decide⟩ (by decide) HG.out
  rw [cut1] at C1
  unfold cmdV at C1
  simp only at C1
  clear C hx1
  go_wp2_with fail
  refine C1.mono ?_
  rintro e w2 ⟨rfl, hx2⟩
  have HX2 := Lib.hid hx2
  clear C1 hx2
  go_wp2
  go_loopw [6, 7] (fun t i wr => ∃ (j : Nat) (h : ByteArray), j ≤ rs.length ∧ j ≤ 12 ∧ h.size ≤ 512 * j ∧ i = .int .i64 j ∧ t = .string h ∧ Hid (FxAt w wr c (cutT h))) (fun _ i _ => rs.length - (intOf i).toNat)
  case atStart => exact ⟨0, ⟨#[]⟩, Nat.zero_le _, by omega, by decide, rfl, rfl, HX2⟩
  case round =>
    obtain ⟨j, h, hj, hj12, hh, rfl, rfl, HX⟩ := hrel
    clear HX2
    by_cases hlt : j < rs.length ∧ j < 12
    · obtain ⟨hlt1, hlt2⟩ := hlt
      obtain ⟨bb, off, rfl, hb, hc⟩ := HA.out (by rintro rfl; simp at hlt1)
      have hji : (j : Int) < (rs.length : Int) := by omega
      have hj2 : (j : Int) < 12 := by omega
      have hcw : wr.cell? ⟨bb, off + j, none⟩ = some (.string rs[j]) := (HX.out.below.cell (p := ⟨bb, off + j, none⟩) hb).trans (hc j hlt1)
      have hRs := HZ.out.2 rs[j] (List.getElem_mem hlt1)
      generalize rs[j] = R at *
      go_wp2
      go_quiet (fail)
      have hS5 : (R.extract 0 (min (R.size : Int) 512).toNat).size ≤ 512 := by rw [ByteArray.size_extract]; omega
      generalize R.extract 0 (min (R.size : Int) 512).toNat = S at *
      obtain ⟨k, hk⟩ : ∃ k : Nat, k = z % (h.size + 1) := ⟨_, rfl⟩
      have hkh : k ≤ h.size := by have := Nat.mod_lt z (show 0 < h.size + 1 by omega); omega
      have hk1 : (z : Int) % ((h.size : Int) + 1) = (k : Int) := by rw [hk, Int.natCast_emod]; rfl
      have hk2 : (z : Int).tmod ((h.size : Int) + 1) = (k : Int) := by rw [Int.tmod_eq_emod_of_nonneg (by omega)]; exact hk1
      have hn0 : ((h.size : Int) + 1 == 0) = false := beq_eq_false_iff_ne.2 (by omega)
      obtain ⟨wq, hwq⟩ : ∃ wq, wr.drewN nq = wq := ⟨_, rfl⟩
      have hxq : FxAt w wq c (cutT h) := HX.out.later (by rw [← hwq]; exact below_drewN (Below.refl _ wr) nq)
      rw [hwq]
      have CW := fdo hxq (cut_good (h := h) (by omega)) ⟨2, ⟨#[47, 102]⟩, ⟨#[]⟩, k, S⟩ (cmd_in (by decide) (by decide) (by decide) (by omega) hS5) (by show (⟨#[47, 102]⟩ : ByteArray).size + (⟨#[]⟩ : ByteArray).size ≤ _; decide) HG.out
      rw [cut2 h hkh hS5 (by omega)] at CW
      unfold cmdV at CW
      simp only at CW
      clear hk hb hc hcw hRs hxq hwq HX
      go_wp2_with fail
      refine CW.mono ?_
      rintro e w3 ⟨rfl, hx3⟩
      clear CW
      have HX3 := Lib.hid hx3
      have hws := wrote_size h k S hkh
      have hwl := wrote_long h k S
      have hwsh := wrote_short h k S
      have CR := fread hx3 (cut_good (by omega)) (s := ⟨#[47, 102]⟩) (by decide) 0 1048576 ⟨by decide, by decide⟩ ⟨by decide, by decide⟩
      rw [cut4 _ (by omega)] at CR
      obtain ⟨V, hV⟩ : ∃ V, wrote h k S = V := ⟨_, rfl⟩
      rw [hV] at hwl hwsh hws CR HX3
      simp only at CR
      have HE1 := Lib.hid hwl
      have HE2 := Lib.hid hwsh
      have HWS := Lib.hid hws
      have HV1 : (V.toList == V.toList) = true := by simp
      have HV2 : (V.toList != V.toList) = false := by simp
      clear hx3 hV hwl hwsh hws
      by_cases hcase : (k : Int) + (S.size : Int) < (h.size : Int)
      · go_wp2_with fail
        rw [HE1.out]
        refine CR.mono ?_
        rintro e w4 ⟨rfl, hB4⟩
        have HX4 := Lib.hid (HX3.out.later hB4)
        clear CR hB4
        go_wp2
        go_roundw
        case rel => exact ⟨j + 1, V, hlt1, hlt2, by have := HWS.out; omega, by go_num, rfl, HX4⟩
        case measure => simp [intOf]; omega
      · go_wp2_with fail
        rw [HE2.out (by omega)]
        refine CR.mono ?_
        rintro e w4 ⟨rfl, hB4⟩
        have HX4 := Lib.hid (HX3.out.later hB4)
        clear CR hB4
        go_wp2
        go_roundw
        case rel => exact ⟨j + 1, V, hlt1, hlt2, by have := HWS.out; omega, by go_num, rfl, HX4⟩
        case measure => simp [intOf]; omega
    · skip
      obtain ⟨k, hk⟩ : ∃ k : Nat, k = z % (h.size + 1) := ⟨_, rfl⟩
      have hkh : k ≤ h.size := by have := Nat.mod_lt z (show 0 < h.size + 1 by omega); omega
      have hk1 : (z : Int) % ((h.size : Int) + 1) = (k : Int) := by rw [hk, Int.natCast_emod]; rfl
      have hk2 : (z : Int).tmod ((h.size : Int) + 1) = (k : Int) := by rw [Int.tmod_eq_emod_of_nonneg (by omega)]; exact hk1
      have hn0 : ((h.size : Int) + 1 == 0) = false := beq_eq_false_iff_ne.2 (by omega)
      have CW := fdo HX.out (cut_good (h := h) (by omega)) ⟨3, ⟨#[47, 102]⟩, ⟨#[]⟩, k, ⟨#[]⟩⟩ (cmd_in (by decide) (by decide) (by decide) (by omega) (by decide)) (by show (⟨#[47, 102]⟩ : ByteArray).size + (⟨#[]⟩ : ByteArray).size ≤ _; decide) HG.out
      rw [cut3 h hkh (by omega), ← first_is] at CW
      unfold cmdV at CW
      simp only at CW
      have hfs : (h.extract 0 k).size ≤ 6144 := by rw [ByteArray.size_extract]; omega
      have HFS := Lib.hid hfs
      clear hk HX
      by_cases hj3 : j < rs.length
      · have hji : (j : Int) < (rs.length : Int) := by omega
        have hj2 : ¬ (j : Int) < 12 := by omega
        go_wp2_with fail
        refine CW.mono ?_
        rintro e w3 ⟨rfl, hx3⟩
        have HX3 := Lib.hid hx3
        have CR := fread hx3 (cut_good (by have := HFS.out; omega)) (s := ⟨#[47, 102]⟩) (by decide) 0 1048576 ⟨by decide, by decide⟩ ⟨by decide, by decide⟩
        rw [cut4 _ (by have := HFS.out; omega)] at CR
        simp only at CR
        have hs1 : ((h.extract 0 k).toList == (h.extract 0 k).toList) = true := by simp
        clear CW hx3
        go_wp2_with fail
        refine CR.mono ?_
        rintro e w4 ⟨rfl, hB4⟩
        have hx4 := HX3.out.later hB4
        have CF := fixed_any w4 (HG.out.below hx4.below)
        have HX4 := Lib.hid hx4
        clear CR hB4 hx4 HX3
        go_wp2_with fail
        refine CF.mono ?_
        rintro e w5 ⟨rfl, hB5⟩
        have HX5 := Lib.hid (HX4.out.later hB5)
        clear CF hB5
        go_wp2
        go_ret
        exact ⟨rfl, HX5.out.below⟩
      · have hji : ¬ (j : Int) < (rs.length : Int) := by omega
        go_wp2_with fail
        refine CW.mono ?_
        rintro e w3 ⟨rfl, hx3⟩
        have HX3 := Lib.hid hx3
        have CR := fread hx3 (cut_good (by have := HFS.out; omega)) (s := ⟨#[47, 102]⟩) (by decide) 0 1048576 ⟨by decide, by decide⟩ ⟨by decide, by decide⟩
        rw [cut4 _ (by have := HFS.out; omega)] at CR
        simp only at CR
        have hs1 : ((h.extract 0 k).toList == (h.extract 0 k).toList) = true := by simp
        clear CW hx3
        go_wp2_with fail
        refine CR.mono ?_
        rintro e w4 ⟨rfl, hB4⟩
        have hx4 := HX3.out.later hB4
        have CF := fixed_any w4 (HG.out.below hx4.below)
        have HX4 := Lib.hid hx4
        clear CR hB4 hx4 HX3
        go_wp2_with fail
        refine CF.mono ?_
        rintro e w5 ⟨rfl, hB5⟩
        have HX5 := Lib.hid (HX4.out.later hB5)
        clear CF hB5
        go_wp2
        go_ret
        exact ⟨rfl, HX5.out.below⟩
set_option maxRecDepth 100000 in
/-- WHAT THE WALK GIVES, for every argument that can be read. -/
theorem contract (H : Type) (enc : TypeId × Value → H) (W : World) (base : Nat) (args : Array Value) (ds gs : List (DataW H)) (before : List MemPlace)
    (hval : ∀ (j : Nat) t v, Tryz.f9.params[j]? = some t → args[j]? = some v → Value.okWide Tryz.prog W .any base t v)
    (hW : DataW.Whole enc Tryz.prog Tryz.f9.params.toList Rows.fileCutsSpec.vars false W args.toList ds gs before)
    (hreach : (DataW.weightsEach Tryz.prog (Tryz.f9.params.toList) ds).all (· ≤ reachBytes) = true) (hg : GE W) :
    Calls Tryz.prog 9 args W fun e W' => ∃ v, e = .returned v ∧ Rows.fileCutsSpec.post enc Tryz.prog Tryz.f9 false true false false W args v W' := by
  have hW' := hW
  obtain ⟨p, q, hA0, hV, rfl, hfz, hnd⟩ := hW
  have hA : DataW.TrodAll enc Tryz.prog W 0 (fun _ => true) true Tryz.f9.params.toList args.toList ds p := hA0
  rw [Tryz.params9] at hA hval hreach
  obtain ⟨v0, v1, d0, d1, p0, p1, rfl, rfl, rfl, h0, h1⟩ := trodAll_two hA
  obtain ⟨rfl, rfl⟩ := trodVars_none hV
  obtain ⟨n1, rfl, rfl, rfl, wn1⟩ := open_int Tryz.underlying3 (hval 1 3 v1 rfl rfl) h1
  have r1 := int_range wn1
  have lt0 : ∀ x ∈ p0, x.block < W.heap.size := fun x hx => hW'.lt x (by simp [hx])
  obtain ⟨l0, k0, r0⟩ := strs_open (hval 0 45 v0 rfl rfl) h0 lt0 hreach (j := 0) rfl rfl
  clear hA0 hval
  simp only [List.append_nil] at hW'
  refine (walk v0 l0 n1 W k0 r0 r1 hg).mono fun e W' ⟨he, hB⟩ => ?_
  subst he
  exact ⟨_, rfl, post_of_below (pa := p0 ++ ([])) (pv := []) hW' (fun _ _ _ => trodAll_mk1 (shut_bool Tryz.underlying4 _)) (fun sp hsp => trodAll_mk2 (WideElems.Trod_stays laidOut (by kernel_rfl) (of_decide_eq_true (by kernel_rfl)) h0 (fun x hx => hB.same (lt0 x hx)) (fun x hx => hsp x (by simp [hx]))) (shut_int Tryz.underlying3 wn1)) (fun _ _ => rfl) (by simp) hB (ok_one (by kernel_rfl) rfl (okWide_bool_mk Tryz.underlying4 _))⟩

theorem reads (os : Os) {H : Type} (enc : TypeId × Value → H) : ∃ places, DataW.whole enc Tryz.prog ((laidWorld os).forCall (fun _ _ => 0) ⟨#[], #[.slice none 0 0, .int .i64 0], []⟩).memory Tryz.f9.params.toList Rows.fileCutsSpec.vars false (#[.slice none 0 0, .int .i64 0] : Array Value).toList 8 = some ([.nil, .lit (.int .i64 0)], [], places) :=
  ⟨[], by kernel_rfl⟩

set_option maxRecDepth 100000 in
theorem lifted (os : Os) (started : os.Started) (H : Type) (enc : TypeId × Value → H) (F : Stop.Interp) :
    ReturnsInHanded {} Tryz.checked os 9 .any ((OpenSpec.ofChange Rows.fileCutsSpec).preRow enc Tryz.prog Tryz.f9 Rows.fileCutsRow.domain false Rows.fileCutsRow.laid) (((OpenSpec.ofChange Rows.fileCutsSpec).at F).post enc Tryz.prog Tryz.f9 false true false false) := by
  obtain ⟨places, hx⟩ := reads os enc
  refine returnsInHanded_of_row (C := Tryz.checked) (s := OpenSpec.ofChange Rows.fileCutsSpec) own started (by kernel_rfl) Tryz.func9
    (witness_row_at (enc := enc) (C := Tryz.checked) false (laidWorld os) #[.slice none 0 0, .int .i64 0] rfl (by kernel_rfl) (by kernel_rfl) (by kernel_rfl)
      (OpenSpec.preRow_of_cond 8 hx (by kernel_rfl) (fun k hk => by cases hk) (by kernel_rfl) (laid_met os _))) ?_
  intro W base args ds gs before hval hW _ hcond hreach hL _ _
  obtain ⟨p, q, hA0, hV, hpq, hfz, hnd⟩ := id hW
  obtain ⟨rfl, _⟩ := trodVars_none hV
  rw [List.append_nil] at hreach
  exact contract H enc W base args ds [] before hval hW hreach (handle_of_laid hL)

theorem said : Rows.FileCutsSaid :=
  OpenClaim.holds_of_cond 9 Tryz.f9 rfl rfl rfl rfl rfl rfl rfl ⟨rfl, rfl, rfl, rfl, rfl⟩ rfl rfl rfl rfl rfl (by kernel_rfl) Tryz.func9 (by kernel_rfl)
    (of_decide_eq_true (by kernel_rfl)) (by unfold Func.isWrapper; first | (rw [if_pos (by decide +kernel)]; kernel_rfl) | (rw [if_neg (by decide +kernel)]; exact ⟨rfl, rfl⟩))
    (fun os started H enc _ F => by rw [OpenClaim.pre_eq_preRow]; exact lifted os started H enc F)

theorem plain (f : FuncId) (fn : Func) (hf : Tryz.pinned.checked.prog.funcNamed "stillage/stillagelaw14.FileCuts" = some f) (hfn : Tryz.pinned.checked.prog.funcs[f]? = some fn) :
    true = Tryz.pinned.checked.prog.looks [] ∧ ∀ (j : Nat) t, fn.params[j]? = some t → Tryz.pinned.checked.prog.wantsStandIn t = false := by
  obtain rfl : f = 9 := Option.some.inj ((show Tryz.prog.funcNamed "stillage/stillagelaw14.FileCuts" = some 9 by kernel_rfl).symm.trans hf) |>.symm
  obtain rfl : fn = Tryz.f9 := (Option.some.inj (Tryz.func9.symm.trans hfn)).symm
  refine ⟨by kernel_rfl, fun j t ht => ?_⟩
  rw [Tryz.params9] at ht
  have hm : t ∈ [45, 3] := by simpa using Array.mem_of_getElem? ht
  have hall : ([45, 3].all fun u => !Tryz.prog.wantsStandIn u) = true := by kernel_rfl
  exact (show Tryz.prog.wantsStandIn t = false by simpa using List.all_eq_true.1 hall t hm)

/-- THE CARD -/
theorem card : Rows.FileCutsCardSaid :=
  Claim7.holds_tied_plain_at .later [] _ _ _ _ said (fun _ h => by cases h) (by kernel_rfl) (fun _ h => by cases h) fileCuts_row_tie rfl ⟨rfl, rfl⟩ (by kernel_rfl) rfl plain (by kernel_rfl)


end Go.Proofs.YtfncoojpommfcaaGreatDoor.fcuts

