/-
  What was renamed, renamed back, leaves all as it was: for every list of commands of a bulk of at most 1048576.
  Conditions: none besides the row's own.
-/
import Derived.Test.YtfncoojpommfcaaGreatDoorFilBk
import Derived.Test.YtfncoojpommfcaaGreatDoorFilMv
import Derived.OwnWalk
namespace Go.Proofs.YtfncoojpommfcaaGreatDoor.fmoves
open Go.Proofs.YtfncoojpommfcaaGreatDoor
open Go.ChangeShapes Go.WideShapes Go.ChangeAt Go.RowKit Go

theorem back_in {d : Cmd} (h : CmdIn d ∧ d.path.size + d.dest.size ≤ 100000000) : CmdIn ⟨5, d.dest, d.path, 0, ⟨#[]⟩⟩ ∧ d.dest.size + d.path.size ≤ 100000000 := by
  obtain ⟨⟨_, _, h3, h4, _⟩, h6⟩ := h
  exact ⟨⟨⟨by show _ ≤ (5 : Int); omega, by show (5 : Int) ≤ _; omega⟩, ⟨by show _ ≤ (0 : Int); omega, by show (0 : Int) ≤ _; omega⟩, h4, h3, by show (0 : Nat) ≤ _; omega⟩, by omega⟩
set_option maxRecDepth 100000 in
set_option maxHeartbeats 16000000 in
theorem walk (va : Value) (cs : List Cmd) (w : World) (hOa : LstAt cmdC 5 w va cs) (hza : cs.length ≤ 9223372036854775807) (hok : ∀ c ∈ cs, CmdIn c ∧ c.path.size + c.dest.size ≤ 100000000) (hg : GE w) :
    Calls Tryz.prog 8 #[va] w fun e w' => e = .returned (.bool true) ∧ Below w.heap.size w w' := by
  obtain ⟨aa, capa, rfl, ha⟩ := hOa
  have HA := Lib.hid ha
  have HOK := Lib.hid hok
  have HG := Lib.hid hg
  have C := fnew w
  clear ha hok hg
  go_enter Tryz.func8, Tryz.ntmps8
  go_wp2_with fail
  refine C.mono ?_
  rintro e w1 ⟨c, rfl, hx1⟩
  have HX1 := Lib.hid hx1
  clear C hx1
  go_wp2
  go_loopw [4] (fun i wr => ∃ (j : Nat) (T : List Nod), j ≤ cs.length ∧ j ≤ 100 ∧ i = .int .i64 j ∧ Hid (FxAt w wr c T) ∧ Hid (Good T)) (fun i _ => cs.length - (intOf i).toNat)
  case atStart => exact ⟨0, newT, Nat.zero_le _, by omega, rfl, HX1, Lib.hid good_new⟩
  case round =>
    clear HX1
    obtain ⟨j, T, hj, hj100, rfl, HX, HT⟩ := hrel
    by_cases hlt : j < cs.length ∧ j < 100
    · obtain ⟨hlt1, hlt2⟩ := hlt
      obtain ⟨bb, off, rfl, hb, hc⟩ := HA.out (by rintro rfl; simp at hlt1)
      have hji : (j : Int) < (cs.length : Int) := by omega
      have hj2 : (j : Int) < 100 := by omega
      have HC := Lib.hid (fun (W : World) (hB : Below w.heap.size w W) => show
          W.cell? ⟨bb, off + j * 5, none⟩ = some (.int .i64 cs[j].kind) ∧ W.cell? ⟨bb, off + j * 5 + 1, none⟩ = some (.string cs[j].path) ∧ W.cell? ⟨bb, off + j * 5 + 2, none⟩ = some (.string cs[j].dest) ∧ W.cell? ⟨bb, off + j * 5 + 3, none⟩ = some (.int .i64 cs[j].place) ∧ W.cell? ⟨bb, off + j * 5 + 4, none⟩ = some (.string cs[j].data) from by
        have hk : ∀ i, W.cell? ⟨bb, i, none⟩ = w.cell? ⟨bb, i, none⟩ := fun i => World.cell?_of_block (hB.block bb hb)
        rw [hk, hk, hk, hk, hk]
        exact ⟨hc j hlt1 0 (by omega), hc j hlt1 1 (by omega), hc j hlt1 2 (by omega), hc j hlt1 3 (by omega), hc j hlt1 4 (by omega)⟩)
      obtain ⟨hci, hcl⟩ := HOK.out cs[j] (List.getElem_mem hlt1)
      generalize cs[j] = d at *
      have HBI := Lib.hid (back_in ⟨hci, hcl⟩)
      have CN := fnodes2 HX.out HT.out
      clear hb hc
      go_wp2_with fail
      refine CN.mono ?_
      rintro e w2 ⟨v1, rfl, hl2, hlb, hB2⟩
      have CD := fdo2 HX.out hB2 HT.out d hci hcl HG.out
      obtain ⟨p0, p1, p2, p3, p4⟩ := HC.out w2 (HX.out.below.trans (hB2.mono HX.out.below.size))
      have HT2 := Lib.hid (HT.out.does d)
      have HBACK := Lib.hid (fun (hk : d.kind = 5) (h0 : (doV T d).2 = 0) => moves_back HT.out hk h0)
      have HL2 := Lib.hid hl2
      have HLB := Lib.hid hlb
      have HLL := Lib.hid (show (tolds T).length ≤ 60 by rw [tolds_len]; exact HT.out.formed.len)
      generalize (doV T d).2 = E at *
      generalize (doV T d).1 = U at *
      unfold cmdV at CD
      clear CN hl2 hlb hB2 hci hcl
      go_wp2_with fail
      refine CD.mono ?_
      rintro e w3 ⟨rfl, hx3, hs3, hk3⟩
      have CC := fclone hx3 HT2.out
      have HX3 := Lib.hid hx3
      have HL3 := Lib.hid (lst_stay HL2.out HLB.out hs3 hk3)
      clear CD hx3 hs3 hk3 p0 p1 p2 p3 p4 HL2 HLB
      obtain ⟨p0, p1, p2, p3, p4⟩ := HC.out w3 HX3.out.below
      by_cases hk : d.kind = 5 ∧ E = 0
      · obtain ⟨hk5, rfl⟩ := hk
        have HKB := Lib.hid (HBACK.out hk5 rfl)
        have e5 : (d.kind == 5) = true := by simp [hk5]
        have n5 : (d.kind != 5) = false := by simp [hk5]
        rw [hk5] at p0
        clear hk5 e5 n5 p1 p2 p3 p4
        go_wp2_with fail
        refine CC.mono ?_
        rintro e w4 ⟨c2, rfl, h4⟩
        have hg3 := HG.out.below HX3.out.below
        have h4d := h4.later ((Below.refl _ w4).drew)
        have CR := fdo h4d HT2.out ⟨5, d.dest, d.path, 0, ⟨#[]⟩⟩ HBI.out.1 HBI.out.2 hg3
        rw [HKB.out] at CR
        unfold cmdV at CR
        simp only at CR
        have HB3 := Lib.hid HX3.out.below
        obtain ⟨-, q1, q2, -, -⟩ := HC.out w4.drew (HB3.out.trans (h4d.below.mono HB3.out.size))
        clear CC h4 h4d hg3 p0
        go_wp2
        go_region_held3 (fun w' => w'.cell? ⟨bb, off + j * 5 + 1, none⟩ = some (.string d.path) ∧ w'.cell? ⟨bb, off + j * 5 + 2, none⟩ = some (.string d.dest))
          (first | exact ⟨q1, q2⟩ | exact ⟨r1, r2⟩ | exact ⟨s1, s2⟩ | exact ⟨t1, t2⟩)
          (first
            | (go_at_call 14; refine CR.mono ?_; rintro e w5 ⟨rfl, h5⟩; have H5 := Lib.hid h5; obtain ⟨-, r1, r2, -, -⟩ := HC.out w5 (HB3.out.trans (h5.below.mono HB3.out.size)); have CM := fnodes h5 HT.out; clear h5)
            | (go_at_call 16; refine CM.mono ?_; rintro e w6 ⟨v2, rfl, hl, hB6⟩; have H6 := Lib.hid (H5.out.later hB6); obtain ⟨-, s1, s2, -, -⟩ := HC.out w6 (HB3.out.trans (H6.out.below.mono HB3.out.size)); have CS := nsame_any hl (HL3.out.later H6.out.below) (by have := HLL.out; omega) (by have := HLL.out; omega); obtain ⟨a2, cap2, rfl, -⟩ := hl; clear hB6)
            | (go_at_call 17; refine CS.mono ?_; rintro e w7 ⟨⟨b, rfl, hb⟩, hB7⟩; obtain rfl := hb.2 trivial; have H7 := Lib.hid (H6.out.later hB7); obtain ⟨-, t1, t2, -, -⟩ := HC.out w7 (HB3.out.trans (H7.out.below.mono HB3.out.size)); clear hB7))
        all_goals (
          have HX7 := Lib.hid (HX3.out.later H7.out.below)
          go_wp2
          go_roundw
          case rel => exact ⟨j + 1, U, hlt1, hlt2, by go_num, HX7, HT2⟩
          case measure => simp [intOf]; omega)
      · have hkf : (d.kind == 5 && E == 0) = false := by
          cases h1 : d.kind == 5
          · rfl
          · cases h2 : E == 0
            · rfl
            · exact absurd ⟨by simpa using h1, by simpa using h2⟩ hk
        clear CC p1 p2 p3 p4
        by_cases hk5 : d.kind = 5
        · have hE : ¬ E = 0 := fun h => hk ⟨hk5, h⟩
          have e1 : (E == 0) = false := by simp [hE]
          have e2 : (E != 0) = true := by simp [hE]
          rw [hk5] at p0
          clear hkf hk hk5 hE
          go_wp2
          go_roundw
          case rel => exact ⟨j + 1, U, hlt1, hlt2, by go_num, HX3, HT2⟩
          case measure => simp [intOf]; omega
        · have e1 : (d.kind == 5) = false := by simp [hk5]
          have e2 : (d.kind != 5) = true := by simp [hk5]
          generalize d.kind = kd at *
          clear hkf hk hk5
          go_wp2
          go_roundw
          case rel => exact ⟨j + 1, U, hlt1, hlt2, by go_num, HX3, HT2⟩
          case measure => simp [intOf]; omega
    · have CF := fun W (hB : Below w.heap.size w W) => fixed_any W (HG.out.below hB)
      by_cases hj3 : j < cs.length
      · have hji : (j : Int) < (cs.length : Int) := by omega
        have hj2 : ¬ (j : Int) < 100 := by omega
        go_wp2_with fail
        refine (CF _ HX.out.below).mono ?_
        rintro e w5 ⟨rfl, hB5⟩
        have HX5 := Lib.hid (HX.out.later hB5)
        clear CF hB5
        go_wp2
        go_ret
        exact ⟨rfl, HX5.out.below⟩
      · have hji : ¬ (j : Int) < (cs.length : Int) := by omega
        go_wp2_with fail
        refine (CF _ HX.out.below).mono ?_
        rintro e w5 ⟨rfl, hB5⟩
        have HX5 := Lib.hid (HX.out.later hB5)
        clear CF hB5
        go_wp2
        go_ret
        exact ⟨rfl, HX5.out.below⟩
set_option maxRecDepth 100000 in
/-- WHAT THE WALK GIVES, for every argument that can be read. -/
theorem contract (H : Type) (enc : TypeId × Value → H) (W : World) (base : Nat) (args : Array Value) (ds gs : List (DataW H)) (before : List MemPlace)
    (hval : ∀ (j : Nat) t v, Tryz.f8.params[j]? = some t → args[j]? = some v → Value.okWide Tryz.prog W .any base t v)
    (hW : DataW.Whole enc Tryz.prog Tryz.f8.params.toList Rows.fileMovesSpec.vars false W args.toList ds gs before)
    (hreach : (DataW.weightsEach Tryz.prog (Tryz.f8.params.toList) ds).all (· ≤ reachBytes) = true) (hcond : Rows.uptoBulkAll ds ≤ 1048576) (hg : GE W) :
    Calls Tryz.prog 8 args W fun e W' => ∃ v, e = .returned v ∧ Rows.fileMovesSpec.post enc Tryz.prog Tryz.f8 false true false false W args v W' := by
  have hW' := hW
  obtain ⟨p, q, hA0, hV, rfl, hfz, hnd⟩ := hW
  have hA : DataW.TrodAll enc Tryz.prog W 0 (fun _ => true) true Tryz.f8.params.toList args.toList ds p := hA0
  rw [Tryz.params8] at hA hval hreach
  obtain ⟨v0, d0, rfl, rfl, h0⟩ := trodAll_one hA
  obtain ⟨rfl, rfl⟩ := trodVars_none hV
  have lt0 : ∀ x ∈ p, x.block < W.heap.size := fun x hx => hW'.lt x (by simp [hx])
  obtain ⟨l0, k0, r0⟩ := ops_open (hval 0 22 v0 rfl rfl) h0 lt0 hreach (j := 0) rfl rfl
  clear hA0 hval
  simp only [List.append_nil] at hW'
  have hup := ops_up h0 k0 (Nat.le_trans (bulk_part (by simp)) hcond)
  obtain ⟨cs0, g0, gl0, gk0⟩ := cmds_of k0 r0 hup
  refine (walk v0 cs0 W g0 gl0 gk0 hg).mono fun e W' ⟨he, hB⟩ => ?_
  subst he
  exact ⟨_, rfl, post_of_below (pa := p) (pv := []) hW' (fun _ _ _ => trodAll_mk1 (shut_bool Tryz.underlying4 _)) (fun sp hsp => trodAll_mk1 (WideElems.Trod_stays laidOut (by kernel_rfl) (of_decide_eq_true (by kernel_rfl)) h0 (fun x hx => hB.same (lt0 x hx)) (fun x hx => hsp x (by simp [hx])))) (fun _ _ => rfl) (by simp) hB (ok_one (by kernel_rfl) rfl (okWide_bool_mk Tryz.underlying4 _))⟩

theorem reads (os : Os) {H : Type} (enc : TypeId × Value → H) : ∃ places, DataW.whole enc Tryz.prog ((laidWorld os).forCall (fun _ _ => 0) ⟨#[], #[.slice none 0 0], []⟩).memory Tryz.f8.params.toList Rows.fileMovesSpec.vars false (#[.slice none 0 0] : Array Value).toList 8 = some ([.nil], [], places) :=
  ⟨[], by kernel_rfl⟩

set_option maxRecDepth 100000 in
theorem lifted (os : Os) (started : os.Started) (H : Type) (enc : TypeId × Value → H) (F : Stop.Interp) :
    ReturnsInHanded {} Tryz.checked os 8 .any ((Rows.OpenSpec.upto Rows.fileMovesSpec).preRow enc Tryz.prog Tryz.f8 Rows.fileMovesUptoRow.domain false Rows.fileMovesUptoRow.laid) (((Rows.OpenSpec.upto Rows.fileMovesSpec).at F).post enc Tryz.prog Tryz.f8 false true false false) := by
  obtain ⟨places, hx⟩ := reads os enc
  refine returnsInHanded_of_row (C := Tryz.checked) (s := Rows.OpenSpec.upto Rows.fileMovesSpec) own started (by kernel_rfl) Tryz.func8
    (witness_row_at (enc := enc) (C := Tryz.checked) false (laidWorld os) #[.slice none 0 0] rfl (by kernel_rfl) (by kernel_rfl) (by kernel_rfl)
      (OpenSpec.preRow_of_cond 8 hx (by kernel_rfl) (fun k hk => by cases hk; kernel_rfl) (by kernel_rfl) (laid_met os _))) ?_
  intro W base args ds gs before hval hW _ hcond hreach hL _ _
  obtain ⟨p, q, hA0, hV, hpq, hfz, hnd⟩ := id hW
  obtain ⟨rfl, _⟩ := trodVars_none hV
  rw [List.append_nil] at hreach
  exact contract H enc W base args ds [] before hval hW hreach (by have h := of_decide_eq_true (hcond _ rfl); simpa using h) (handle_of_laid hL)

theorem said : Rows.FileMovesUptoSaid :=
  OpenClaim.holds_of_cond 8 Tryz.f8 rfl rfl rfl rfl rfl rfl rfl ⟨rfl, rfl, rfl, rfl, rfl⟩ rfl rfl rfl rfl rfl (by kernel_rfl) Tryz.func8 (by kernel_rfl)
    (of_decide_eq_true (by kernel_rfl)) (by unfold Func.isWrapper; first | (rw [if_pos (by decide +kernel)]; kernel_rfl) | (rw [if_neg (by decide +kernel)]; exact ⟨rfl, rfl⟩))
    (fun os started H enc _ F => by rw [OpenClaim.pre_eq_preRow]; exact lifted os started H enc F)

theorem plain (f : FuncId) (fn : Func) (hf : Tryz.pinned.checked.prog.funcNamed "stillage/stillagelaw14.FileMoves" = some f) (hfn : Tryz.pinned.checked.prog.funcs[f]? = some fn) :
    true = Tryz.pinned.checked.prog.looks [] ∧ ∀ (j : Nat) t, fn.params[j]? = some t → Tryz.pinned.checked.prog.wantsStandIn t = false := by
  obtain rfl : f = 8 := Option.some.inj ((show Tryz.prog.funcNamed "stillage/stillagelaw14.FileMoves" = some 8 by kernel_rfl).symm.trans hf) |>.symm
  obtain rfl : fn = Tryz.f8 := (Option.some.inj (Tryz.func8.symm.trans hfn)).symm
  refine ⟨by kernel_rfl, fun j t ht => ?_⟩
  rw [Tryz.params8] at ht
  have hm : t ∈ [22] := by simpa using Array.mem_of_getElem? ht
  have hall : ([22].all fun u => !Tryz.prog.wantsStandIn u) = true := by kernel_rfl
  exact (show Tryz.prog.wantsStandIn t = false by simpa using List.all_eq_true.1 hall t hm)

/-- THE CARD -/
theorem card : Rows.FileMovesUptoCardSaid :=
  Claim7.holds_tied_plain_at .later [] _ _ _ _ said (fun _ h => by cases h) (by kernel_rfl) (fun _ h => by cases h) fileMovesUpto_row_tie rfl ⟨rfl, rfl⟩ (by kernel_rfl) rfl plain (by kernel_rfl)


end Go.Proofs.YtfncoojpommfcaaGreatDoor.fmoves

