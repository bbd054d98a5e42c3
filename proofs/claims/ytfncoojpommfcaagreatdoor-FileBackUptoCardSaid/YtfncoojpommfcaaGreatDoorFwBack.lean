/-
  Whatever was done, a tree's nodes make a tree, and that goes on as the first one does, command by command: for every list of commands of a bulk of at most 1048576, and every place.
  Conditions: none besides the row's own.
-/
import Derived.Test.YtfncoojpommfcaaGreatDoorFilBk
import Derived.Test.YtfncoojpommfcaaGreatDoorKS
import Derived.OwnWalk
namespace Go.Proofs.YtfncoojpommfcaaGreatDoor.fback
open Go.Proofs.YtfncoojpommfcaaGreatDoor
open Go.ChangeShapes Go.WideShapes Go.ChangeAt Go.RowKit Go

/-- the tree, and the other one, if it is there: u is its place -/
def BackAt (w0 w : World) (c : Nat) (u : Value) (T : List Nod) : Prop := (u = .pointer none ∧ FxAt w0 w c T) ∨ ∃ d, u = .pointer (some ⟨d, 0, none⟩) ∧ FxTwo w0 w c d T T
theorem BackAt.one {w0 w : World} {c : Nat} {u : Value} {T : List Nod} (h : BackAt w0 w c u T) : FxAt w0 w c T := by
  rcases h with ⟨_, h⟩ | ⟨_, _, h⟩
  · exact h
  · exact h.one
set_option maxRecDepth 100000 in
set_option maxHeartbeats 16000000 in
theorem walk (va : Value) (cs : List Cmd) (z : Int) (w : World) (hOa : LstAt cmdC 5 w va cs) (hza : cs.length ≤ 9223372036854775807) (hok : ∀ c ∈ cs, CmdIn c ∧ c.path.size + c.dest.size ≤ 100000000) (_hz : IntOk z) (hg : GE w) :
    Calls Tryz.prog 5 #[va, .int .i64 z] w fun e w' => e = .returned (.bool true) ∧ Below w.heap.size w w' := by
  obtain ⟨aa, capa, rfl, ha⟩ := hOa
  have HA := Lib.hid ha
  have HOK := Lib.hid hok
  have HG := Lib.hid hg
  have C := fnew w
  obtain ⟨n, hn, hn1, hn2, hn3, -⟩ := cut_to cs.length 100 (by omega)
  have HN := Lib.hid hn
  clear ha hok hg hn
  go_enter Tryz.func5, Tryz.ntmps5
  go_wp2_with fail
  refine C.mono ?_
  rintro e w1 ⟨c, rfl, hx1⟩
  have HX1 := Lib.hid hx1
  clear C hx1
  go_wp2
  clear hn2 hn3
  go_loopw [6, 8] (fun u i wr => ∃ (j : Nat) (T : List Nod), j ≤ n ∧ i = .int .i64 j ∧ Hid (BackAt w wr c u T) ∧ Hid (Good T)) (fun _ i _ => n - (intOf i).toNat)
  case atStart => exact ⟨0, newT, Nat.zero_le _, rfl, Lib.hid (.inl ⟨rfl, HX1.out⟩), Lib.hid good_new⟩
  case round =>
    clear HX1
    obtain ⟨j, T, hj, rfl, HBk, HT⟩ := hrel
    by_cases hlt : j < n
    · have hji : (j : Int) < (n : Int) := by omega
      have hlt1 : j < cs.length := by have := HN.out; omega
      obtain ⟨bb, off, rfl, hb, hc⟩ := HA.out (by rintro rfl; simp at hlt1)
      have HC := Lib.hid (fun (W : World) (hB : Below w.heap.size w W) => show
          W.cell? ⟨bb, off + j * 5, none⟩ = some (.int .i64 cs[j].kind) ∧ W.cell? ⟨bb, off + j * 5 + 1, none⟩ = some (.string cs[j].path) ∧ W.cell? ⟨bb, off + j * 5 + 2, none⟩ = some (.string cs[j].dest) ∧ W.cell? ⟨bb, off + j * 5 + 3, none⟩ = some (.int .i64 cs[j].place) ∧ W.cell? ⟨bb, off + j * 5 + 4, none⟩ = some (.string cs[j].data) from by
        have hk : ∀ i, W.cell? ⟨bb, i, none⟩ = w.cell? ⟨bb, i, none⟩ := fun i => World.cell?_of_block (hB.block bb hb)
        rw [hk, hk, hk, hk, hk]
        exact ⟨hc j hlt1 0 (by omega), hc j hlt1 1 (by omega), hc j hlt1 2 (by omega), hc j hlt1 3 (by omega), hc j hlt1 4 (by omega)⟩)
      obtain ⟨hci, hcl⟩ := HOK.out cs[j] (List.getElem_mem hlt1)
      generalize cs[j] = d at *
      clear hb hc
      obtain ⟨q, hq⟩ : ∃ q : Bool, ((j : Int) == bits .and .i64 z 63) = q := ⟨_, rfl⟩
      have HCI := Lib.hid hci
      have HCL := Lib.hid hcl
      clear hci hcl
      go_upto_if 26 with fail
      go_cut [6, 9, 10] from 27 to 39 (fun u' _ _ wx => ∃ wy, wy = wx ∧ Hid (BackAt w wx c u' T))
      case first =>
        cases q with
        | true =>
          have hx := HBk.out.one
          have CN := fnodes hx HT.out
          have HX := Lib.hid hx
          clear hx
          go_wp2_with fail
          refine CN.mono ?_
          rintro e w2 ⟨v, rfl, hv, hB2⟩
          have CF := ffrom HX.out HT.out hB2 hv HG.out
          clear CN hv hB2
          go_wp2_with fail
          refine CF.mono ?_
          rintro e w3 ⟨d2, rfl, h2⟩
          have HB3 := Lib.hid (show BackAt w w3 c (.pointer (some ⟨d2, 0, none⟩)) T from .inr ⟨_, rfl, h2⟩)
          clear CF h2
          go_wp2
          go_meet
          exact ⟨_, rfl, HB3⟩
        | false =>
          go_wp2
          go_meet
          exact ⟨_, rfl, HBk⟩
      case rest =>
        obtain ⟨wo, hwo, HBk2⟩ := hcut
        subst hwo
        clear HBk hq
        have HER := Lib.hid (HT.out.does d)
        rcases HBk2.out with ⟨rfl, hx⟩ | ⟨d2, rfl, hx⟩
        · have CD := fdo hx HT.out d HCI.out HCL.out HG.out
          obtain ⟨p0, p1, p2, p3, p4⟩ := HC.out _ hx.below
          generalize (doV T d).2 = E at *
          generalize (doV T d).1 = U at *
          unfold cmdV at CD
          clear hx HBk2
          go_wp2_with fail
          refine CD.mono ?_
          rintro e w3 ⟨rfl, hx3⟩
          have HX3 := Lib.hid hx3
          clear CD hx3 p0 p1 p2 p3 p4
          go_wp2
          go_roundw
          case rel => exact ⟨j + 1, U, by omega, by go_num, Lib.hid (.inl ⟨rfl, HX3.out⟩), HER⟩
          case measure => simp [intOf]; omega
        · have CD := ftwo hx HT.out d HCI.out HCL.out HG.out
          obtain ⟨p0, p1, p2, p3, p4⟩ := HC.out _ hx.below
          have HU := Lib.hid (show ∀ W, FxTwo w W c d2 (doV T d).1 T → Calls Tryz.prog 14 #[.pointer (some ⟨d2, 0, none⟩), cmdV d] W fun e w' => e = .returned (.int .i64 (doV T d).2) ∧ FxTwo w w' c d2 (doV T d).1 (doV T d).1 from
            fun W h => (ftwo h.swap HT.out d HCI.out HCL.out HG.out).mono fun e w' ⟨he, hw⟩ => ⟨he, hw.swap⟩)
          have HLL := Lib.hid (show (tolds (doV T d).1).length ≤ 60 by rw [tolds_len]; exact HER.out.formed.len)
          generalize (doV T d).2 = E at *
          generalize (doV T d).1 = U at *
          unfold cmdV at CD HU
          clear hx HBk2
          go_wp2_with fail
          refine CD.mono ?_
          rintro e w3 ⟨rfl, hx3⟩
          have CU := HU.out w3 hx3
          obtain ⟨r0, r1, r2, r3, r4⟩ := HC.out _ hx3.below
          have hEE : (E == E) = true := by simp
          have hEN : (E != E) = false := by simp
          clear CD hx3 p0 p1 p2 p3 p4
          go_wp2_with fail
          refine CU.mono ?_
          rintro e w4 ⟨rfl, hx4⟩
          have CN := fnodes hx4.one HER.out
          have HX4 := Lib.hid hx4
          clear CU hx4 r0 r1 r2 r3 r4
          go_wp2_with fail
          refine CN.mono ?_
          rintro e w5 ⟨v1, rfl, hl1, hB5⟩
          have hx5 := HX4.out.later hB5
          have CM := fnodes hx5.two HER.out
          have HX5 := Lib.hid hx5
          have HL1 := Lib.hid hl1
          clear CN hl1 hB5 hx5
          go_wp2_with fail
          refine CM.mono ?_
          rintro e w6 ⟨v2, rfl, hl2, hB6⟩
          have hl1 := HL1.out.later hB6
          have CS := nsame_any hl1 hl2 (by have := HLL.out; omega) (by have := HLL.out; omega)
          have HX6 := Lib.hid (HX5.out.later hB6)
          obtain ⟨a1, cap1, rfl, -⟩ := hl1
          obtain ⟨a2, cap2, rfl, -⟩ := hl2
          clear CM hB6 HL1
          go_wp2_with fail
          refine CS.mono ?_
          rintro e w7 ⟨⟨b, rfl, hb⟩, hB7⟩
          obtain rfl := hb.2 trivial
          have HX7 := Lib.hid (HX6.out.later hB7)
          clear CS hb hB7
          go_wp2
          go_roundw
          case rel => exact ⟨j + 1, U, by omega, by go_num, Lib.hid (.inr ⟨_, rfl, HX7.out⟩), HER⟩
          case measure => simp [intOf]; omega
    · have hji : ¬ (j : Int) < (n : Int) := by omega
      have CF := fixed_any wr (HG.out.below HBk.out.one.below)
      go_wp2_with fail
      refine CF.mono ?_
      rintro e w5 ⟨rfl, hB5⟩
      have HX5 := Lib.hid (HBk.out.one.later hB5)
      clear CF hB5
      go_wp2
      go_ret
      exact ⟨rfl, HX5.out.below⟩
set_option maxRecDepth 100000 in
/-- WHAT THE WALK GIVES, for every argument that can be read. -/
theorem contract (H : Type) (enc : TypeId × Value → H) (W : World) (base : Nat) (args : Array Value) (ds gs : List (DataW H)) (before : List MemPlace)
    (hval : ∀ (j : Nat) t v, Tryz.f5.params[j]? = some t → args[j]? = some v → Value.okWide Tryz.prog W .any base t v)
    (hW : DataW.Whole enc Tryz.prog Tryz.f5.params.toList Rows.fileBackSpec.vars false W args.toList ds gs before)
    (hreach : (DataW.weightsEach Tryz.prog (Tryz.f5.params.toList) ds).all (· ≤ reachBytes) = true) (hcond : Rows.uptoBulkAll ds ≤ 1048576) (hg : GE W) :
    Calls Tryz.prog 5 args W fun e W' => ∃ v, e = .returned v ∧ Rows.fileBackSpec.post enc Tryz.prog Tryz.f5 false true false false W args v W' := by
  have hW' := hW
  obtain ⟨p, q, hA0, hV, rfl, hfz, hnd⟩ := hW
  have hA : DataW.TrodAll enc Tryz.prog W 0 (fun _ => true) true Tryz.f5.params.toList args.toList ds p := hA0
  rw [Tryz.params5] at hA hval hreach
  obtain ⟨v0, v1, d0, d1, p0, p1, rfl, rfl, rfl, h0, h1⟩ := trodAll_two hA
  obtain ⟨rfl, rfl⟩ := trodVars_none hV
  obtain ⟨n1, rfl, rfl, rfl, wn1⟩ := open_int Tryz.underlying3 (hval 1 3 v1 rfl rfl) h1
  have r1 := int_range wn1
  have lt0 : ∀ x ∈ p0, x.block < W.heap.size := fun x hx => hW'.lt x (by simp [hx])
  obtain ⟨l0, k0, r0⟩ := ops_open (hval 0 22 v0 rfl rfl) h0 lt0 hreach (j := 0) rfl rfl
  clear hA0 hval
  simp only [List.append_nil] at hW'
  have hup := ops_up h0 k0 (Nat.le_trans (bulk_part (by simp)) hcond)
  obtain ⟨cs0, g0, gl0, gk0⟩ := cmds_of k0 r0 hup
  refine (walk v0 cs0 n1 W g0 gl0 gk0 r1 hg).mono fun e W' ⟨he, hB⟩ => ?_
  subst he
  exact ⟨_, rfl, post_of_below (pa := p0 ++ ([])) (pv := []) hW' (fun _ _ _ => trodAll_mk1 (shut_bool Tryz.underlying4 _)) (fun sp hsp => trodAll_mk2 (WideElems.Trod_stays laidOut (by kernel_rfl) (of_decide_eq_true (by kernel_rfl)) h0 (fun x hx => hB.same (lt0 x hx)) (fun x hx => hsp x (by simp [hx]))) (shut_int Tryz.underlying3 wn1)) (fun _ _ => rfl) (by simp) hB (ok_one (by kernel_rfl) rfl (okWide_bool_mk Tryz.underlying4 _))⟩

theorem reads (os : Os) {H : Type} (enc : TypeId × Value → H) : ∃ places, DataW.whole enc Tryz.prog ((laidWorld os).forCall (fun _ _ => 0) ⟨#[], #[.slice none 0 0, .int .i64 0], []⟩).memory Tryz.f5.params.toList Rows.fileBackSpec.vars false (#[.slice none 0 0, .int .i64 0] : Array Value).toList 8 = some ([.nil, .lit (.int .i64 0)], [], places) :=
  ⟨[], by kernel_rfl⟩

set_option maxRecDepth 100000 in
theorem lifted (os : Os) (started : os.Started) (H : Type) (enc : TypeId × Value → H) (F : Stop.Interp) :
    ReturnsInHanded {} Tryz.checked os 5 .any ((Rows.OpenSpec.upto Rows.fileBackSpec).preRow enc Tryz.prog Tryz.f5 Rows.fileBackUptoRow.domain false Rows.fileBackUptoRow.laid) (((Rows.OpenSpec.upto Rows.fileBackSpec).at F).post enc Tryz.prog Tryz.f5 false true false false) := by
  obtain ⟨places, hx⟩ := reads os enc
  refine returnsInHanded_of_row (C := Tryz.checked) (s := Rows.OpenSpec.upto Rows.fileBackSpec) own started (by kernel_rfl) Tryz.func5
    (witness_row_at (enc := enc) (C := Tryz.checked) false (laidWorld os) #[.slice none 0 0, .int .i64 0] rfl (by kernel_rfl) (by kernel_rfl) (by kernel_rfl)
      (OpenSpec.preRow_of_cond 8 hx (by kernel_rfl) (fun k hk => by cases hk; kernel_rfl) (by kernel_rfl) (laid_met os _))) ?_
  intro W base args ds gs before hval hW _ hcond hreach hL _ _
  obtain ⟨p, q, hA0, hV, hpq, hfz, hnd⟩ := id hW
  obtain ⟨rfl, _⟩ := trodVars_none hV
  rw [List.append_nil] at hreach
  exact contract H enc W base args ds [] before hval hW hreach (by have h := of_decide_eq_true (hcond _ rfl); simpa using h) (handle_of_laid hL)

theorem said : Rows.FileBackUptoSaid :=
  OpenClaim.holds_of_cond 5 Tryz.f5 rfl rfl rfl rfl rfl rfl rfl ⟨rfl, rfl, rfl, rfl, rfl⟩ rfl rfl rfl rfl rfl (by kernel_rfl) Tryz.func5 (by kernel_rfl)
    (of_decide_eq_true (by kernel_rfl)) (by unfold Func.isWrapper; first | (rw [if_pos (by decide +kernel)]; kernel_rfl) | (rw [if_neg (by decide +kernel)]; exact ⟨rfl, rfl⟩))
    (fun os started H enc _ F => by rw [OpenClaim.pre_eq_preRow]; exact lifted os started H enc F)

theorem plain (f : FuncId) (fn : Func) (hf : Tryz.pinned.checked.prog.funcNamed "stillage/stillagelaw14.FileBack" = some f) (hfn : Tryz.pinned.checked.prog.funcs[f]? = some fn) :
    true = Tryz.pinned.checked.prog.looks [] ∧ ∀ (j : Nat) t, fn.params[j]? = some t → Tryz.pinned.checked.prog.wantsStandIn t = false := by
  obtain rfl : f = 5 := Option.some.inj ((show Tryz.prog.funcNamed "stillage/stillagelaw14.FileBack" = some 5 by kernel_rfl).symm.trans hf) |>.symm
  obtain rfl : fn = Tryz.f5 := (Option.some.inj (Tryz.func5.symm.trans hfn)).symm
  refine ⟨by kernel_rfl, fun j t ht => ?_⟩
  rw [Tryz.params5] at ht
  have hm : t ∈ [22, 3] := by simpa using Array.mem_of_getElem? ht
  have hall : ([22, 3].all fun u => !Tryz.prog.wantsStandIn u) = true := by kernel_rfl
  exact (show Tryz.prog.wantsStandIn t = false by simpa using List.all_eq_true.1 hall t hm)

/-- THE CARD -/
theorem card : Rows.FileBackUptoCardSaid :=
  Claim7.holds_tied_plain_at .later [] _ _ _ _ said (fun _ h => by cases h) (by kernel_rfl) (fun _ h => by cases h) fileBackUpto_row_tie rfl ⟨rfl, rfl⟩ (by kernel_rfl) rfl plain (by kernel_rfl)


end Go.Proofs.YtfncoojpommfcaaGreatDoor.fback

