/-
  What is refused changes nothing; what is written or cut changes one node at most: for every list of commands of a bulk of at most 1048576.
  Conditions: none besides the row's own.
-/
import Derived.Test.YtfncoojpommfcaaGreatDoorFilFw
import Derived.OwnWalk
namespace Go.Proofs.YtfncoojpommfcaaGreatDoor.fnone
open Go.Proofs.YtfncoojpommfcaaGreatDoor
open Go.ChangeShapes Go.WideShapes Go.ChangeAt Go.RowKit Go

set_option maxRecDepth 100000 in
set_option maxHeartbeats 16000000 in
theorem walk (va : Value) (cs : List Cmd) (w : World) (hOa : LstAt cmdC 5 w va cs) (hza : cs.length ≤ 9223372036854775807) (hok : ∀ c ∈ cs, CmdIn c ∧ c.path.size + c.dest.size ≤ 100000000) (hg : GE w) :
    Calls Tryz.prog 6 #[va] w fun e w' => e = .returned (.bool true) ∧ Below w.heap.size w w' := by
  obtain ⟨aa, capa, rfl, ha⟩ := hOa
  have HA := Lib.hid ha
  have HOK := Lib.hid hok
  have HG := Lib.hid hg
  have C := fnew w
  clear ha hok hg
  go_enter Tryz.func6, Tryz.ntmps6
  go_wp2_with fail
  refine C.mono ?_
  rintro e w1 ⟨c, rfl, hx1⟩
  have HX1 := Lib.hid hx1
  clear C hx1
  go_wp2
  go_loopw [4] (fun i wr => ∃ (j : Nat) (T : List Nod), j ≤ cs.length ∧ j ≤ 100 ∧ i = .int .i64 j ∧ Hid (FxAt w wr c T) ∧ Hid (Good T)) (fun i _ => cs.length - (intOf i).toNat)
  case atStart => exact ⟨0, newT, Nat.zero_le _, by omega, rfl, HX1, Lib.hid good_new⟩
  case round =>
    clear HX1
    obtain ⟨j, T, hj, hj100, rfl, HX, HT⟩ := hrel
    by_cases hlt : j < cs.length ∧ j < 100
    · obtain ⟨hlt1, hlt2⟩ := hlt
      obtain ⟨bb, off, rfl, hb, hc⟩ := HA.out (by rintro rfl; simp at hlt1)
      have hji : (j : Int) < (cs.length : Int) := by omega
      have hj2 : (j : Int) < 100 := by omega
      have HC := Lib.hid (fun (W : World) (hB : Below w.heap.size w W) => show
          W.cell? ⟨bb, off + j * 5, none⟩ = some (.int .i64 cs[j].kind) ∧ W.cell? ⟨bb, off + j * 5 + 1, none⟩ = some (.string cs[j].path) ∧ W.cell? ⟨bb, off + j * 5 + 2, none⟩ = some (.string cs[j].dest) ∧ W.cell? ⟨bb, off + j * 5 + 3, none⟩ = some (.int .i64 cs[j].place) ∧ W.cell? ⟨bb, off + j * 5 + 4, none⟩ = some (.string cs[j].data) from by
        have hk : ∀ i, W.cell? ⟨bb, i, none⟩ = w.cell? ⟨bb, i, none⟩ := fun i => World.cell?_of_block (hB.block bb hb)
        rw [hk, hk, hk, hk, hk]
        exact ⟨hc j hlt1 0 (by omega), hc j hlt1 1 (by omega), hc j hlt1 2 (by omega), hc j hlt1 3 (by omega), hc j hlt1 4 (by omega)⟩)
      obtain ⟨hci, hcl⟩ := HOK.out cs[j] (List.getElem_mem hlt1)
      generalize cs[j] = d at *
      have CN := fnodes2 HX.out HT.out
      clear hb hc
      go_wp2_with fail
      refine CN.mono ?_
      rintro e w2 ⟨v1, rfl, hl2, hlb, hB2⟩
      have CD := fdo2 HX.out hB2 HT.out d hci hcl HG.out
      obtain ⟨p0, p1, p2, p3, p4⟩ := HC.out w2 (HX.out.below.trans (hB2.mono HX.out.below.size))
      have HT2 := Lib.hid (HT.out.does d)
      have HER := Lib.hid (show (doV T d).2 ≠ 0 → (doV T d).1 = T from fun h => do_refused h)
      have HON := Lib.hid (show d.kind = 2 ∨ d.kind = 3 → OneDiff (tolds (doV T d).1) (tolds T) from fun h => one_do HT.out.formed.rise h)
      have HL2 := Lib.hid hl2
      have HLB := Lib.hid hlb
      have HLL := Lib.hid (show (tolds T).length ≤ 60 by rw [tolds_len]; exact HT.out.formed.len)
      have HLL2 := Lib.hid (show (tolds (doV T d).1).length ≤ 60 by rw [tolds_len]; exact HT2.out.formed.len)
      generalize (doV T d).2 = E at *
      generalize (doV T d).1 = U at *
      unfold cmdV at CD
      clear CN hl2 hlb hB2 hci hcl
      go_wp2_with fail
      refine CD.mono ?_
      rintro e w3 ⟨rfl, hx3, hs3, hk3⟩
      have CM := fnodes hx3 HT2.out
      have HX3 := Lib.hid hx3
      have HL3 := Lib.hid (lst_stay HL2.out HLB.out hs3 hk3)
      clear CD hx3 hs3 hk3 p0 p1 p2 p3 p4 HL2 HLB
      go_wp2_with fail
      refine CM.mono ?_
      rintro e w4 ⟨v2, rfl, hl4, hB4⟩
      have HX4 := Lib.hid (HX3.out.later hB4)
      have hl3 := HL3.out.later hB4
      have CS := nsame_any hl3 hl4 (by have := HLL.out; omega) (by have := HLL2.out; omega)
      obtain ⟨a1, cap1, rfl, hc1⟩ := hl3
      obtain ⟨a2, cap2, rfl, hc2⟩ := hl4
      have HC1 := Lib.hid hc1
      have HC2 := Lib.hid hc2
      obtain ⟨p0, _⟩ := HC.out w4 HX4.out.below
      clear CM hB4 HL3 hc1 hc2
      by_cases hE : E = 0
      · subst hE
        clear CS
        by_cases hk : d.kind = 2 ∨ d.kind = 3
        · have one := HON.out hk
          have HONE := Lib.hid one
          obtain ⟨L, hL⟩ : ∃ L, (tolds T).length = L := ⟨_, rfl⟩
          have hlen : (tolds U).length = L := one.len.trans hL
          have HLEN := Lib.hid hlen
          have HTL := Lib.hid hL
          have hll : L ≤ 60 := by rw [← hL]; exact HLL.out
          rw [hlen, hL]
          clear hlen hL
          clear one
          rcases hk with hk | hk
          all_goals (
            rw [hk] at p0
            have hbl : ((L : Int) != (L : Int)) = false := by simp
            go_wp2
            go_loopw [8, 9] (fun vn vk wx => ∃ (k n : Nat), k ≤ L ∧ vn = .int .i64 n ∧ vk = .int .i64 k ∧ Hid (n ≤ 1 ∧ (n = 1 → ∃ i, i < k ∧ ∃ (h1 : i < (tolds U).length) (h2 : i < (tolds T).length), (tolds U)[i] ≠ (tolds T)[i])) ∧ Hid (Below w4.heap.size w4 wx)) (fun _ vk _ => L - (intOf vk).toNat)
            case atStart => exact ⟨0, 0, Nat.zero_le _, rfl, rfl, Lib.hid ⟨by omega, fun h => by omega⟩, Lib.hid (Below.refl _ _)⟩
            case round =>
              obtain ⟨k, n, hkL, rfl, rfl, HN, HB⟩ := hrel
              have hn1 := HN.out.1
              by_cases hkl : k < L
              · have hki : (k : Int) < (L : Int) := by omega
                have hkU : k < (tolds U).length := by rw [HLEN.out]; exact hkl
                have hkT : k < (tolds T).length := by rw [HTL.out]; exact hkl
                obtain ⟨b1, o1, rfl, hb1, hc1⟩ := HC1.out (by intro e; rw [e] at hkT; simp at hkT)
                obtain ⟨b2, o2, rfl, hb2, hc2⟩ := HC2.out (by intro e; rw [e] at hkU; simp at hkU)
                have hw1 : ∀ i, wr.cell? ⟨b1, i, none⟩ = w4.cell? ⟨b1, i, none⟩ := fun i => World.cell?_of_block (HB.out.block b1 hb1)
                have hw2 : ∀ i, wr.cell? ⟨b2, i, none⟩ = w4.cell? ⟨b2, i, none⟩ := fun i => World.cell?_of_block (HB.out.block b2 hb2)
                have s0 : wr.cell? ⟨b1, o1 + k * 4, none⟩ = some (.int .i64 (tolds T)[k].num) := by rw [hw1]; exact hc1 k hkT 0 (by omega)
                have s1 : wr.cell? ⟨b1, o1 + k * 4 + 1, none⟩ = some (.bool (tolds T)[k].dir) := by rw [hw1]; exact hc1 k hkT 1 (by omega)
                have s2 : wr.cell? ⟨b1, o1 + k * 4 + 2, none⟩ = some (.int .i64 (tolds T)[k].links) := by rw [hw1]; exact hc1 k hkT 2 (by omega)
                have s3 : wr.cell? ⟨b1, o1 + k * 4 + 3, none⟩ = some (.string (tolds T)[k].data) := by rw [hw1]; exact hc1 k hkT 3 (by omega)
                have t0 : wr.cell? ⟨b2, o2 + k * 4, none⟩ = some (.int .i64 (tolds U)[k].num) := by rw [hw2]; exact hc2 k hkU 0 (by omega)
                have t1 : wr.cell? ⟨b2, o2 + k * 4 + 1, none⟩ = some (.bool (tolds U)[k].dir) := by rw [hw2]; exact hc2 k hkU 1 (by omega)
                have t2 : wr.cell? ⟨b2, o2 + k * 4 + 2, none⟩ = some (.int .i64 (tolds U)[k].links) := by rw [hw2]; exact hc2 k hkU 2 (by omega)
                have t3 : wr.cell? ⟨b2, o2 + k * 4 + 3, none⟩ = some (.string (tolds U)[k].data) := by rw [hw2]; exact hc2 k hkU 3 (by omega)
                have HYes := Lib.hid (fun (hne : (tolds U)[k] ≠ (tolds T)[k]) => show n = 0 ∧ (n + 1 = 1 → ∃ i, i < k + 1 ∧ ∃ (h1 : i < (tolds U).length) (h2 : i < (tolds T).length), (tolds U)[i] ≠ (tolds T)[i]) from by
                  refine ⟨?_, fun _ => ⟨k, by omega, hkU, hkT, hne⟩⟩
                  refine Classical.byContradiction fun h0 => ?_
                  obtain ⟨i, hik, h1, h2, h3⟩ := HN.out.2 (by omega)
                  have := HONE.out.one i k h1 hkU h2 hkT h3 hne
                  omega)
                have HNo := Lib.hid (show n = 1 → ∃ i, i < k + 1 ∧ ∃ (h1 : i < (tolds U).length) (h2 : i < (tolds T).length), (tolds U)[i] ≠ (tolds T)[i] from fun h => by
                  obtain ⟨i, hik, h1⟩ := HN.out.2 h
                  exact ⟨i, by omega, h1⟩)
                have HEq := Lib.hid (show ∀ X Y : Nde, X = (tolds U)[k] → Y = (tolds T)[k] → X ≠ Y → (tolds U)[k] ≠ (tolds T)[k] from fun X Y e1 e2 h => by rw [← e1, ← e2]; exact h)
                obtain ⟨X, hX⟩ : ∃ X, X = (tolds U)[k] := ⟨_, rfl⟩
                obtain ⟨Y, hY⟩ : ∃ Y, Y = (tolds T)[k] := ⟨_, rfl⟩
                rw [← hX] at t0 t1 t2 t3
                rw [← hY] at s0 s1 s2 s3
                have HNE := Lib.hid (HEq.out X Y hX hY)
                have hgd := fun w => nde_guard X Y w
                obtain ⟨bo, hbo⟩ : ∃ bo : Bool, ∀ w, (binOp .neq 38 (ndeV X) (ndeV Y)).run Tryz.prog w = .ok (.bool bo) w ∧ (bo = false ↔ X = Y) := by
                  obtain ⟨bo, _, h2⟩ := nde_neq X Y w
                  refine ⟨bo, fun w' => ?_⟩
                  obtain ⟨b2, h3, h4⟩ := nde_neq X Y w'
                  have : b2 = bo := by
                    cases b2 <;> cases bo <;> simp_all
                  subst this
                  exact ⟨h3, h2⟩
                have hbe := fun w => (hbo w).1
                have hbi := (hbo w).2
                unfold ndeV at hgd hbe
                clear hc1 hc2 hw1 hw2 hbo hX hY HEq
                cases bo with
                | false =>
                  clear hbi
                  go_wp2
                  go_quiet (fail)
                  go_wp2
                  go_roundw
                  case rel => exact ⟨k + 1, n, by omega, rfl, by go_num, Lib.hid ⟨hn1, HNo.out⟩, Lib.hid (below_drewN HB.out _)⟩
                  case measure => simp [intOf]; omega
                | true =>
                  have hy := HYes.out (HNE.out (fun e => by have := hbi.2 e; cases this))
                  obtain ⟨rfl, hy2⟩ := hy
                  have HY2 := Lib.hid hy2
                  clear hbi hy2
                  go_wp2
                  go_quiet (fail)
                  go_wp2
                  go_roundw
                  case rel => exact ⟨k + 1, 1, by omega, by go_num, by go_num, Lib.hid ⟨by omega, fun _ => HY2.out trivial⟩, Lib.hid (below_drewN HB.out _)⟩
                  case measure => simp [intOf]; omega
              · have hki : ¬ (k : Int) < (L : Int) := by omega
                have hn2 : ¬ (1 : Int) < (n : Int) := by omega
                have HX6 := Lib.hid (HX4.out.later HB.out)
                go_wp2
                first
                | (go_roundw
                   case rel => exact ⟨j + 1, U, hlt1, hlt2, by go_num, HX6, HT2⟩
                   case measure => simp [intOf]; omega)
                | (refine ⟨⟨_, _, ⟨j + 1, hlt1, hlt2, U, ?_, HX6, HT2⟩, rfl, rfl⟩, ?_⟩
                   · go_num
                   · simp [intOf]; omega))
        · have hk2 : (d.kind == 2) = false := beq_eq_false_iff_ne.2 (fun e => hk (.inl e))
          have hk3 : (d.kind == 3) = false := beq_eq_false_iff_ne.2 (fun e => hk (.inr e))
          have hk4 : (d.kind != 2) = true := by rw [bne, hk2]; rfl
          have hk5 : (d.kind != 3) = true := by rw [bne, hk3]; rfl
          generalize d.kind = kd at *
          clear hk
          go_wp2
          go_roundw
          case rel => exact ⟨j + 1, U, hlt1, hlt2, by go_num, HX4, HT2⟩
          case measure => simp [intOf]; omega
      · have hE2 : (E != 0) = true := by simp [hE]
        have hE3 : (E == 0) = false := by simp [hE]
        have HUT := Lib.hid (HER.out hE)
        clear hE
        go_wp2_with fail
        refine CS.mono ?_
        rintro e w5 ⟨⟨b, rfl, hb⟩, hB5⟩
        obtain rfl := hb.2 (by rw [HUT.out])
        have HX5 := Lib.hid (HX4.out.later hB5)
        clear CS hb hB5
        go_wp2
        go_roundw
        case rel => exact ⟨j + 1, U, hlt1, hlt2, by go_num, HX5, HT2⟩
        case measure => simp [intOf]; omega
    · have CF := fun W (hB : Below w.heap.size w W) => fixed_any W (HG.out.below hB)
      by_cases hj3 : j < cs.length
      · have hji : (j : Int) < (cs.length : Int) := by omega
        have hj2 : ¬ (j : Int) < 100 := by omega
        go_wp2_with fail
        refine (CF _ HX.out.below).mono ?_
        rintro e w5 ⟨rfl, hB5⟩
        have HX5 := Lib.hid (HX.out.later hB5)
        clear CF hB5
        go_wp2
        go_ret
        exact ⟨rfl, HX5.out.below⟩
      · have hji : ¬ (j : Int) < (cs.length : Int) := by omega
        go_wp2_with fail
        refine (CF _ HX.out.below).mono ?_
        rintro e w5 ⟨rfl, hB5⟩
        have HX5 := Lib.hid (HX.out.later hB5)
        clear CF hB5
        go_wp2
        go_ret
        exact ⟨rfl, HX5.out.below⟩
set_option maxRecDepth 100000 in
/-- WHAT THE WALK GIVES, for every argument that can be read. -/
theorem contract (H : Type) (enc : TypeId × Value → H) (W : World) (base : Nat) (args : Array Value) (ds gs : List (DataW H)) (before : List MemPlace)
    (hval : ∀ (j : Nat) t v, Tryz.f6.params[j]? = some t → args[j]? = some v → Value.okWide Tryz.prog W .any base t v)
    (hW : DataW.Whole enc Tryz.prog Tryz.f6.params.toList Rows.fileNoneSpec.vars false W args.toList ds gs before)
    (hreach : (DataW.weightsEach Tryz.prog (Tryz.f6.params.toList) ds).all (· ≤ reachBytes) = true) (hcond : Rows.uptoBulkAll ds ≤ 1048576) (hg : GE W) :
    Calls Tryz.prog 6 args W fun e W' => ∃ v, e = .returned v ∧ Rows.fileNoneSpec.post enc Tryz.prog Tryz.f6 false true false false W args v W' := by
  have hW' := hW
  obtain ⟨p, q, hA0, hV, rfl, hfz, hnd⟩ := hW
  have hA : DataW.TrodAll enc Tryz.prog W 0 (fun _ => true) true Tryz.f6.params.toList args.toList ds p := hA0
  rw [Tryz.params6] at hA hval hreach
  obtain ⟨v0, d0, rfl, rfl, h0⟩ := trodAll_one hA
  obtain ⟨rfl, rfl⟩ := trodVars_none hV
  have lt0 : ∀ x ∈ p, x.block < W.heap.size := fun x hx => hW'.lt x (by simp [hx])
  obtain ⟨l0, k0, r0⟩ := ops_open (hval 0 22 v0 rfl rfl) h0 lt0 hreach (j := 0) rfl rfl
  clear hA0 hval
  simp only [List.append_nil] at hW'
  have hup := ops_up h0 k0 (Nat.le_trans (bulk_part (by simp)) hcond)
  obtain ⟨cs0, g0, gl0, gk0⟩ := cmds_of k0 r0 hup
  refine (walk v0 cs0 W g0 gl0 gk0 hg).mono fun e W' ⟨he, hB⟩ => ?_
  subst he
  exact ⟨_, rfl, post_of_below (pa := p) (pv := []) hW' (fun _ _ _ => trodAll_mk1 (shut_bool Tryz.underlying4 _)) (fun sp hsp => trodAll_mk1 (WideElems.Trod_stays laidOut (by kernel_rfl) (of_decide_eq_true (by kernel_rfl)) h0 (fun x hx => hB.same (lt0 x hx)) (fun x hx => hsp x (by simp [hx])))) (fun _ _ => rfl) (by simp) hB (ok_one (by kernel_rfl) rfl (okWide_bool_mk Tryz.underlying4 _))⟩

theorem reads (os : Os) {H : Type} (enc : TypeId × Value → H) : ∃ places, DataW.whole enc Tryz.prog ((laidWorld os).forCall (fun _ _ => 0) ⟨#[], #[.slice none 0 0], []⟩).memory Tryz.f6.params.toList Rows.fileNoneSpec.vars false (#[.slice none 0 0] : Array Value).toList 8 = some ([.nil], [], places) :=
  ⟨[], by kernel_rfl⟩

set_option maxRecDepth 100000 in
theorem lifted (os : Os) (started : os.Started) (H : Type) (enc : TypeId × Value → H) (F : Stop.Interp) :
    ReturnsInHanded {} Tryz.checked os 6 .any ((Rows.OpenSpec.upto Rows.fileNoneSpec).preRow enc Tryz.prog Tryz.f6 Rows.fileNoneUptoRow.domain false Rows.fileNoneUptoRow.laid) (((Rows.OpenSpec.upto Rows.fileNoneSpec).at F).post enc Tryz.prog Tryz.f6 false true false false) := by
  obtain ⟨places, hx⟩ := reads os enc
  refine returnsInHanded_of_row (C := Tryz.checked) (s := Rows.OpenSpec.upto Rows.fileNoneSpec) own started (by kernel_rfl) Tryz.func6
    (witness_row_at (enc := enc) (C := Tryz.checked) false (laidWorld os) #[.slice none 0 0] rfl (by kernel_rfl) (by kernel_rfl) (by kernel_rfl)
      (OpenSpec.preRow_of_cond 8 hx (by kernel_rfl) (fun k hk => by cases hk; kernel_rfl) (by kernel_rfl) (laid_met os _))) ?_
  intro W base args ds gs before hval hW _ hcond hreach hL _ _
  obtain ⟨p, q, hA0, hV, hpq, hfz, hnd⟩ := id hW
  obtain ⟨rfl, _⟩ := trodVars_none hV
  rw [List.append_nil] at hreach
  exact contract H enc W base args ds [] before hval hW hreach (by have h := of_decide_eq_true (hcond _ rfl); simpa using h) (handle_of_laid hL)

theorem said : Rows.FileNoneUptoSaid :=
  OpenClaim.holds_of_cond 6 Tryz.f6 rfl rfl rfl rfl rfl rfl rfl ⟨rfl, rfl, rfl, rfl, rfl⟩ rfl rfl rfl rfl rfl (by kernel_rfl) Tryz.func6 (by kernel_rfl)
    (of_decide_eq_true (by kernel_rfl)) (by unfold Func.isWrapper; first | (rw [if_pos (by decide +kernel)]; kernel_rfl) | (rw [if_neg (by decide +kernel)]; exact ⟨rfl, rfl⟩))
    (fun os started H enc _ F => by rw [OpenClaim.pre_eq_preRow]; exact lifted os started H enc F)

theorem plain (f : FuncId) (fn : Func) (hf : Tryz.pinned.checked.prog.funcNamed "stillage/stillagelaw14.FileNone" = some f) (hfn : Tryz.pinned.checked.prog.funcs[f]? = some fn) :
    true = Tryz.pinned.checked.prog.looks [] ∧ ∀ (j : Nat) t, fn.params[j]? = some t → Tryz.pinned.checked.prog.wantsStandIn t = false := by
  obtain rfl : f = 6 := Option.some.inj ((show Tryz.prog.funcNamed "stillage/stillagelaw14.FileNone" = some 6 by kernel_rfl).symm.trans hf) |>.symm
  obtain rfl : fn = Tryz.f6 := (Option.some.inj (Tryz.func6.symm.trans hfn)).symm
  refine ⟨by kernel_rfl, fun j t ht => ?_⟩
  rw [Tryz.params6] at ht
  have hm : t ∈ [22] := by simpa using Array.mem_of_getElem? ht
  have hall : ([22].all fun u => !Tryz.prog.wantsStandIn u) = true := by kernel_rfl
  exact (show Tryz.prog.wantsStandIn t = false by simpa using List.all_eq_true.1 hall t hm)

/-- THE CARD -/
theorem card : Rows.FileNoneUptoCardSaid :=
  Claim7.holds_tied_plain_at .later [] _ _ _ _ said (fun _ h => by cases h) (by kernel_rfl) (fun _ h => by cases h) fileNoneUpto_row_tie rfl ⟨rfl, rfl⟩ (by kernel_rfl) rfl plain (by kernel_rfl)


end Go.Proofs.YtfncoojpommfcaaGreatDoor.fnone

