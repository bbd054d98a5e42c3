/-
  Every name that is listed is found; as many names stand for a node as its Links say: for every list of commands of a bulk of at most 1048576.
  Conditions: none besides the row's own.
-/
import Derived.Test.YtfncoojpommfcaaGreatDoorFilNm
import Derived.Test.YtfncoojpommfcaaGreatDoorFilFw
import Derived.OwnWalk
namespace Go.Proofs.YtfncoojpommfcaaGreatDoor.fnames
open Go.Proofs.YtfncoojpommfcaaGreatDoor
open Go.ChangeShapes Go.WideShapes Go.ChangeAt Go.RowKit Go

theorem infoI1 : (Tryz.prog.info? 3).map (fun i => (i.zero, i.size, i.bytes)) = some (some (.int .i64 0), 1, 8) := by kernel_rfl
theorem make_ints (n : Nat) (hn : n ≤ 1000) (W : World) : (Instr.makeSlice 58 (.int .i64 n) (.int .i64 n)).run Tryz.prog W = .ok (.slice (some ⟨W.heap.size, 0, none⟩) n n) (W.alloc (intsO n (fun _ => 0))) := by
  obtain ⟨i0, hi, hz0, hz1, hz2⟩ := info_parts infoI1
  have h := run_makeSlice (P := Tryz.prog) (w := W) 58 3 i0 (.int .i64 0) Tryz.underlying58 hi hz0 .i64 .i64 (n : Int) (n : Int) (by omega) (by omega) (by rw [hz1]; omega) (by rw [hz2]; omega) (by omega)
  rw [hz1, Int.toNat_natCast, Nat.mul_one] at h
  have e : madeCells (Value.int .i64 0).cells n = ((List.range n).map (fun _ => Value.int .i64 0)).toArray := by
    apply Array.toList_inj.1
    rw [show (Value.int .i64 0).cells = #[Value.int .i64 0] from rfl, toList_madeCells_one, List.map_const', List.length_range]
  rw [e] at h
  exact h
set_option maxRecDepth 100000 in
set_option maxHeartbeats 16000000 in
theorem walk (va : Value) (cs : List Cmd) (w : World) (hOa : LstAt cmdC 5 w va cs) (hza : cs.length ≤ 9223372036854775807) (hok : ∀ c ∈ cs, CmdIn c ∧ c.path.size + c.dest.size ≤ 100000000) (hg : GE w) :
    Calls Tryz.prog 10 #[va] w fun e w' => e = .returned (.bool true) ∧ Below w.heap.size w w' := by
  obtain ⟨aa, capa, rfl, ha⟩ := hOa
  have HA := Lib.hid ha
  have HOK := Lib.hid hok
  have HG := Lib.hid hg
  have C := fnew w
  clear ha hok hg
  go_enter Tryz.func10, Tryz.ntmps10
  go_wp2_with fail
  refine C.mono ?_
  rintro e w1 ⟨c, rfl, hx1⟩
  have HX1 := Lib.hid hx1
  clear C hx1
  go_wp2
  go_loopw [4] (fun i wr => ∃ (j : Nat) (T : List Nod), j ≤ cs.length ∧ j ≤ 100 ∧ i = .int .i64 j ∧ Hid (FxAt w wr c T) ∧ Hid (Good T)) (fun i _ => cs.length - (intOf i).toNat)
  case atStart => exact ⟨0, newT, Nat.zero_le _, by omega, rfl, HX1, Lib.hid good_new⟩
  case round =>
    clear HX1
    obtain ⟨j, T, hj, hj100, rfl, HX, HT⟩ := hrel
    by_cases hlt : j < cs.length ∧ j < 100
    · as_aux_lemma =>
      obtain ⟨hlt1, hlt2⟩ := hlt
      obtain ⟨bb, off, rfl, hb, hc⟩ := HA.out (by rintro rfl; simp at hlt1)
      have hji : (j : Int) < (cs.length : Int) := by omega
      have hj2 : (j : Int) < 100 := by omega
      have HC := Lib.hid (fun (W : World) (hB : Below w.heap.size w W) => show
          W.cell? ⟨bb, off + j * 5, none⟩ = some (.int .i64 cs[j].kind) ∧ W.cell? ⟨bb, off + j * 5 + 1, none⟩ = some (.string cs[j].path) ∧ W.cell? ⟨bb, off + j * 5 + 2, none⟩ = some (.string cs[j].dest) ∧ W.cell? ⟨bb, off + j * 5 + 3, none⟩ = some (.int .i64 cs[j].place) ∧ W.cell? ⟨bb, off + j * 5 + 4, none⟩ = some (.string cs[j].data) from by
        have hk : ∀ i, W.cell? ⟨bb, i, none⟩ = w.cell? ⟨bb, i, none⟩ := fun i => World.cell?_of_block (hB.block bb hb)
        rw [hk, hk, hk, hk, hk]
        exact ⟨hc j hlt1 0 (by omega), hc j hlt1 1 (by omega), hc j hlt1 2 (by omega), hc j hlt1 3 (by omega), hc j hlt1 4 (by omega)⟩)
      obtain ⟨hci, hcl⟩ := HOK.out cs[j] (List.getElem_mem hlt1)
      generalize cs[j] = d at *
      have CD := fdo HX.out HT.out d hci hcl HG.out
      obtain ⟨p0, p1, p2, p3, p4⟩ := HC.out _ HX.out.below
      have HT2 := Lib.hid (HT.out.does d)
      generalize (doV T d).2 = E at *
      generalize (doV T d).1 = U at *
      unfold cmdV at CD
      clear hb hc hci hcl
      go_wp2_with fail
      refine CD.mono ?_
      rintro e w3 ⟨rfl, hx3⟩
      have HX3 := Lib.hid hx3
      clear CD hx3 p0 p1 p2 p3 p4
      go_wp2
      go_roundw
      case rel => exact ⟨j + 1, U, hlt1, hlt2, by go_num, HX3, HT2⟩
      case measure => simp [intOf]; omega
    · have CN := fnodes HX.out HT.out
      have HLT := Lib.hid hlt
      have hcmp : (decide ((j : Int) < (cs.length : Int)) && decide ((j : Int) < 100)) = false := by
        cases h1 : decide ((j : Int) < (cs.length : Int)) with
        | false => rfl
        | true =>
          cases h2 : decide ((j : Int) < 100) with
          | false => rfl
          | true =>
            have h1 := of_decide_eq_true h1
            have h2 := of_decide_eq_true h2
            exact absurd ⟨by omega, by omega⟩ hlt
      clear hcmp hlt
      obtain ⟨wo, hwo⟩ : ∃ wo, wo = wr := ⟨_, rfl⟩
      subst hwo
      have HGO := Lib.hid (show ∀ P : Prop, (¬ (j : Int) < (cs.length : Int) → P) → ((j : Int) < (cs.length : Int) → ¬ (j : Int) < 100 → P) → P from fun P h1 h2 => by
        by_cases h : (j : Int) < (cs.length : Int)
        · exact h2 h (fun h3 => HLT.out ⟨by omega, by omega⟩)
        · exact h1 h)
      refine HGO.out _ (fun hji => ?_) (fun hji hj2 => ?_)
      all_goals (
        as_aux_lemma =>
        go_wp2_with fail
        refine CN.mono ?_
        rintro e w2 ⟨v, rfl, hl, hB2⟩
        have hx2 := HX.out.later hB2
        have HX2 := Lib.hid hx2
        have F := HT.out.formed
        obtain ⟨m, P, G, D, ht⟩ := hx2.tree
        obtain ⟨a, cap, rfl, hlc⟩ := hl
        have hlen : (tolds T).length = T.length := tolds_len T
        have h60 := F.len
        obtain ⟨r, hr, hrd, hr1⟩ := F.root
        have hpos := List.length_pos_of_mem (at_mem hr).1
        have hne : tolds T ≠ [] := fun e => by
          rw [e] at hlen
          rw [← hlen] at hpos
          exact absurd hpos (by simp)
        obtain ⟨bl, ol, rfl, hbl, hcell⟩ := hlc hne
        obtain ⟨n, hn⟩ : ∃ n, (tolds T).length = n := ⟨_, rfl⟩
        have hnT : T.length = n := by rw [← hn, hlen]
        have MI := make_ints n (by omega) w2
        obtain ⟨w3, hw3⟩ : ∃ w3, w2.alloc (intsO n (fun _ => 0)) = w3 := ⟨_, rfl⟩
        have hB3 : Below w2.heap.size w2 w3 := by rw [← hw3]; exact (Below.refl _ w2).alloc (Nat.le_refl _) _
        have hr3 : w3.heap[w2.heap.size]? = some (intsO n (fun _ => 0)) := by rw [← hw3]; exact heap_alloc_new w2 _
        rw [hw3] at MI
        have hl3 : LstAt ndeC 4 w3 (.slice (some ⟨bl, ol, none⟩) (tolds T).length cap) (tolds T) := LstAt.later ⟨_, _, rfl, fun _ => ⟨bl, ol, rfl, hbl, hcell⟩⟩ hB3
        have CB := lbelow_any (s := ⟨#[47]⟩) (q := []) (k := 1) (cts := fun _ => 0) HT.out (.slice (some ⟨bl, ol, none⟩) (tolds T).length cap) w2.heap.size 8 (ht.later hB3) (by rw [hnT]; exact hr3) hl3 (fun b off n cap e => by cases e; omega) .root (by decide) rfl F.rootDir rfl
          (fun i => ⟨Int.le_refl _, by rw [HT.out.tot]; have := cnt_le_all F (numAt T i); omega⟩)
        have HB3 := Lib.hid (hx2.below.trans (hB3.mono hx2.below.size))
        have HL3 := Lib.hid hl3
        have HNT := Lib.hid hnT
        have HN := Lib.hid hn
        rw [hn, hnT] at CB
        rw [hn] at HL3 ⊢
        have h60i : n ≤ 60 := by omega
        have HS2 := Lib.hid (show w.heap.size ≤ w2.heap.size from hx2.below.size)
        have HTOT := Lib.hid (fun k => HT.out.tot k)
        have HBL := Lib.hid hbl
        clear CN hB2 hx2 ht hlc hlen h60 hr hrd hr1 hpos hne hbl hcell hn hnT hB3 hr3 hl3 F hw3
        go_wp2_with fail
        refine CB.mono ?_
        rintro e w4 ⟨rfl, hs4, hr4⟩
        have HR4 := Lib.hid hr4
        have HB4 := Lib.hid (((Stir.of_below (F := fun _ => False) HB3.out).trans hs4 (fun i hi => .inr (by have := HS2.out; omega))).below (B := w.heap.size) (fun _ f => f.elim) (Nat.le_refl _))
        have HL4 := Lib.hid (HL3.out.same (W' := w4) hs4.size (fun b off cap e hlt => by cases e; exact hs4.block _ hlt (by have := HBL.out; omega)))
        clear CB hs4 hr4
        go_wp2
        go_loopw [7] (fun i wr => ∃ t : Nat, t ≤ n ∧ i = .int .i64 t ∧ Hid (Below w4.heap.size w4 wr)) (fun i _ => n - (intOf i).toNat)
        case atStart => exact ⟨0, Nat.zero_le _, rfl, Lib.hid (Below.refl _ _)⟩
        case round =>
          obtain ⟨t, htn, rfl, HB⟩ := hrel
          by_cases hlt : t < n
          · have hti : (t : Int) < (n : Int) := by omega
            have htl : t < (tolds T).length := by rw [HN.out]; exact hlt
            have htT : t < T.length := by rw [HNT.out]; exact hlt
            obtain ⟨al, capl, eL, hlc⟩ := HL4.out.later HB.out
            injection eL with eL1 _ _
            subst eL1
            obtain ⟨bl2, ol2, eA, hbl2, hcell⟩ := hlc (by intro h; rw [h] at htl; simp at htl)
            cases eA
            have q0 : wr.cell? ⟨bl, ol + t * 4, none⟩ = some (.int .i64 T[t].num) := by
              have h := hcell t htl 0 (by omega)
              rw [tolds_get] at h
              exact h
            have q2 : wr.cell? ⟨bl, ol + t * 4 + 2, none⟩ = some (.int .i64 T[t].links) := by
              have h := hcell t htl 2 (by omega)
              rw [tolds_get] at h
              exact h
            have hnum : numAt T t = T[t].num := by simp [numAt, List.getD, htT]
            have hc : wr.cell? ⟨w2.heap.size, t, none⟩ = some (.int .i64 (cnt T T[t].num : Nat)) := by
              rw [intsO.cell ((HB.out.block _ (lt_of_heap HR4.out)).trans HR4.out) hlt, hnum, HTOT.out]; simp
            have hw2 : RowKit.wrap64 ((t : Int) + 1) = (t : Int) + 1 := w64_cnt (by omega) (by omega)
            have hmem : T[t] ∈ T := List.getElem_mem _
            have F := HT.out.formed
            by_cases h1 : T[t].num = 1
            · rw [h1, F.cnt_root] at hc
              rw [h1] at q0
              obtain ⟨L, hL⟩ : ∃ L, T[t].links = L := ⟨_, rfl⟩
              rw [hL] at q2
              clear hL h1 hmem F hnum hlc hcell hbl2 htl htT
              go_wp2
              go_quiet (fail)
              go_wp2
              go_roundw
              case rel => exact ⟨t + 1, hlt, rfl, Lib.hid (below_drewN HB.out _)⟩
              case measure => exact meas_u hlt rfl rfl
            · have hlk := (F.links _ hmem h1).1
              rw [← hlk] at hc
              have k1 : (T[t].num == 1) = false := by simp [h1]
              have k2 : (T[t].num != 1) = true := by simp [h1]
              have k3 : (T[t].links == T[t].links) = true := by simp
              have k4 : (T[t].links != T[t].links) = false := by simp
              generalize T[t].links = L at *
              generalize T[t].num = k at *
              clear hlk h1 hmem F hnum hlc hcell hbl2 htl htT
              go_wp2
              go_quiet (fail)
              go_wp2
              go_roundw
              case rel => exact ⟨t + 1, hlt, rfl, Lib.hid (below_drewN HB.out _)⟩
              case measure => exact meas_u hlt rfl rfl
          · have hti : ¬ (t : Int) < (n : Int) := by omega
            have HBW := Lib.hid (HB4.out.trans (HB.out.mono HB4.out.size))
            have CF := fixed_any wr (HG.out.below HBW.out)
            go_wp2_with fail
            refine CF.mono ?_
            rintro e w5 ⟨rfl, hB5⟩
            have HX5 := Lib.hid (HBW.out.trans (hB5.mono HBW.out.size))
            clear CF hB5
            go_wp2
            go_ret
            exact ⟨rfl, HX5.out⟩)
set_option maxRecDepth 100000 in
/-- WHAT THE WALK GIVES, for every argument that can be read. -/
theorem contract (H : Type) (enc : TypeId × Value → H) (W : World) (base : Nat) (args : Array Value) (ds gs : List (DataW H)) (before : List MemPlace)
    (hval : ∀ (j : Nat) t v, Tryz.f10.params[j]? = some t → args[j]? = some v → Value.okWide Tryz.prog W .any base t v)
    (hW : DataW.Whole enc Tryz.prog Tryz.f10.params.toList Rows.fileNamesSpec.vars false W args.toList ds gs before)
    (hreach : (DataW.weightsEach Tryz.prog (Tryz.f10.params.toList) ds).all (· ≤ reachBytes) = true) (hcond : Rows.uptoBulkAll ds ≤ 1048576) (hg : GE W) :
    Calls Tryz.prog 10 args W fun e W' => ∃ v, e = .returned v ∧ Rows.fileNamesSpec.post enc Tryz.prog Tryz.f10 false true false false W args v W' := by
  have hW' := hW
  obtain ⟨p, q, hA0, hV, rfl, hfz, hnd⟩ := hW
  have hA : DataW.TrodAll enc Tryz.prog W 0 (fun _ => true) true Tryz.f10.params.toList args.toList ds p := hA0
  rw [Tryz.params10] at hA hval hreach
  obtain ⟨v0, d0, rfl, rfl, h0⟩ := trodAll_one hA
  obtain ⟨rfl, rfl⟩ := trodVars_none hV
  have lt0 : ∀ x ∈ p, x.block < W.heap.size := fun x hx => hW'.lt x (by simp [hx])
  obtain ⟨l0, k0, r0⟩ := ops_open (hval 0 22 v0 rfl rfl) h0 lt0 hreach (j := 0) rfl rfl
  clear hA0 hval
  simp only [List.append_nil] at hW'
  have hup := ops_up h0 k0 (Nat.le_trans (bulk_part (by simp)) hcond)
  obtain ⟨cs0, g0, gl0, gk0⟩ := cmds_of k0 r0 hup
  refine (walk v0 cs0 W g0 gl0 gk0 hg).mono fun e W' ⟨he, hB⟩ => ?_
  subst he
  exact ⟨_, rfl, post_of_below (pa := p) (pv := []) hW' (fun _ _ _ => trodAll_mk1 (shut_bool Tryz.underlying4 _)) (fun sp hsp => trodAll_mk1 (WideElems.Trod_stays laidOut (by kernel_rfl) (of_decide_eq_true (by kernel_rfl)) h0 (fun x hx => hB.same (lt0 x hx)) (fun x hx => hsp x (by simp [hx])))) (fun _ _ => rfl) (by simp) hB (ok_one (by kernel_rfl) rfl (okWide_bool_mk Tryz.underlying4 _))⟩

theorem reads (os : Os) {H : Type} (enc : TypeId × Value → H) : ∃ places, DataW.whole enc Tryz.prog ((laidWorld os).forCall (fun _ _ => 0) ⟨#[], #[.slice none 0 0], []⟩).memory Tryz.f10.params.toList Rows.fileNamesSpec.vars false (#[.slice none 0 0] : Array Value).toList 8 = some ([.nil], [], places) :=
  ⟨[], by kernel_rfl⟩

set_option maxRecDepth 100000 in
theorem lifted (os : Os) (started : os.Started) (H : Type) (enc : TypeId × Value → H) (F : Stop.Interp) :
    ReturnsInHanded {} Tryz.checked os 10 .any ((Rows.OpenSpec.upto Rows.fileNamesSpec).preRow enc Tryz.prog Tryz.f10 Rows.fileNamesUptoRow.domain false Rows.fileNamesUptoRow.laid) (((Rows.OpenSpec.upto Rows.fileNamesSpec).at F).post enc Tryz.prog Tryz.f10 false true false false) := by
  obtain ⟨places, hx⟩ := reads os enc
  refine returnsInHanded_of_row (C := Tryz.checked) (s := Rows.OpenSpec.upto Rows.fileNamesSpec) own started (by kernel_rfl) Tryz.func10
    (witness_row_at (enc := enc) (C := Tryz.checked) false (laidWorld os) #[.slice none 0 0] rfl (by kernel_rfl) (by kernel_rfl) (by kernel_rfl)
      (OpenSpec.preRow_of_cond 8 hx (by kernel_rfl) (fun k hk => by cases hk; kernel_rfl) (by kernel_rfl) (laid_met os _))) ?_
  intro W base args ds gs before hval hW _ hcond hreach hL _ _
  obtain ⟨p, q, hA0, hV, hpq, hfz, hnd⟩ := id hW
  obtain ⟨rfl, _⟩ := trodVars_none hV
  rw [List.append_nil] at hreach
  exact contract H enc W base args ds [] before hval hW hreach (by have h := of_decide_eq_true (hcond _ rfl); simpa using h) (handle_of_laid hL)

theorem said : Rows.FileNamesUptoSaid :=
  OpenClaim.holds_of_cond 10 Tryz.f10 rfl rfl rfl rfl rfl rfl rfl ⟨rfl, rfl, rfl, rfl, rfl⟩ rfl rfl rfl rfl rfl (by kernel_rfl) Tryz.func10 (by kernel_rfl)
    (of_decide_eq_true (by kernel_rfl)) (by unfold Func.isWrapper; first | (rw [if_pos (by decide +kernel)]; kernel_rfl) | (rw [if_neg (by decide +kernel)]; exact ⟨rfl, rfl⟩))
    (fun os started H enc _ F => by rw [OpenClaim.pre_eq_preRow]; exact lifted os started H enc F)

theorem plain (f : FuncId) (fn : Func) (hf : Tryz.pinned.checked.prog.funcNamed "stillage/stillagelaw14.FileNames" = some f) (hfn : Tryz.pinned.checked.prog.funcs[f]? = some fn) :
    true = Tryz.pinned.checked.prog.looks [] ∧ ∀ (j : Nat) t, fn.params[j]? = some t → Tryz.pinned.checked.prog.wantsStandIn t = false := by
  obtain rfl : f = 10 := Option.some.inj ((show Tryz.prog.funcNamed "stillage/stillagelaw14.FileNames" = some 10 by kernel_rfl).symm.trans hf) |>.symm
  obtain rfl : fn = Tryz.f10 := (Option.some.inj (Tryz.func10.symm.trans hfn)).symm
  refine ⟨by kernel_rfl, fun j t ht => ?_⟩
  rw [Tryz.params10] at ht
  have hm : t ∈ [22] := by simpa using Array.mem_of_getElem? ht
  have hall : ([22].all fun u => !Tryz.prog.wantsStandIn u) = true := by kernel_rfl
  exact (show Tryz.prog.wantsStandIn t = false by simpa using List.all_eq_true.1 hall t hm)

/-- THE CARD -/
theorem card : Rows.FileNamesUptoCardSaid :=
  Claim7.holds_tied_plain_at .later [] _ _ _ _ said (fun _ h => by cases h) (by kernel_rfl) (fun _ h => by cases h) fileNamesUpto_row_tie rfl ⟨rfl, rfl⟩ (by kernel_rfl) rfl plain (by kernel_rfl)


end Go.Proofs.YtfncoojpommfcaaGreatDoor.fnames

