/-
  For every list of snapshots and every text: the bytes of the list, or that it may not be, and the list of the text, or that it is none's, are as the document says; and the calls whose answers the document fixes are answered so. No condition on the list or the text but that they fit a machine.
-/
import Derived.Test.YtffebghkmobeoaaGreatDoorTabX
import Derived.Test.YtffebghkmobeoaaGreatDoorTabK
import Derived.Test.YtffebghkmobeoaaGreatDoorTabV
namespace Go.Proofs.YtffebghkmobeoaaGreatDoor.bsnaps
open Go.Proofs.YtffebghkmobeoaaGreatDoor
open Go.ChangeShapes Go.WideShapes Go.ChangeAt Go.RowKit Go

theorem nil_at {T : Type} {C : T → List Value} {k : Nat} (w : World) : LstAt C k w (.slice none 0 0) [] := ⟨none, 0, rfl, fun e => absurd rfl e⟩
set_option maxRecDepth 100000 in
set_option maxHeartbeats 4000000 in
theorem walk (v : Value) (l : List Snp) (s : ByteArray) (W : World) (h : LstAt snpC 5 W v l) (hl : l.length ≤ 9223372036854775807) (hq : ∀ q ∈ l, SnpIn q) (hs : s.size ≤ 140737488351232) (hg : GE W) :
    Calls Tryz.prog 3 #[v, .string s] W fun e W' => e = .returned (.bool true) ∧ Below W.heap.size W W' := by
  have hq2 : ∀ q ∈ l, q.name.size ≤ 140737488355328 := fun q h => Nat.le_trans (hq q h).2.2.2.2 (by decide)
  have C1 := fun w' (hB : Below W.heap.size W w') => snps_any v l hl hq2 w' (h.later hB)
  have C2 := fun w' (hB : Below W.heap.size W w') => snpRLay_any v l hl hq2 w' (h.later hB)
  obtain ⟨S, ee, hS⟩ := layV_form kS l
  rw [hS] at C1 C2
  have C3 := fun w' (hB : Below W.heap.size W w') => snpParses_any s (by omega) w' (hg.below hB)
  have C4 := fun w' => snpRParse_any s (by omega) w'
  have CF := fun w (hB : Below W.heap.size W w) => fixed_any w (hg.below hB)
  clear h hq hq2 hS hs
  go_enter Tryz.func3, Tryz.ntmps3
  go_wp2_with fail
  refine (C1 _ (Below.refl _ _)).mono ?_
  rintro e w1 ⟨rfl, B1⟩
  have HB1 := Lib.hid B1
  clear B1 C1
  go_wp2_with fail
  refine (C2 _ HB1.out).mono ?_
  rintro e w2 ⟨rfl, B2⟩
  have HB2 := Lib.hid (HB1.out.trans (B2.mono HB1.out.size))
  clear B2 C2
  go_wp2_with fail
  refine (C3 _ HB2.out).mono ?_
  intro e w3 hp
  rcases hp with ⟨⟨l1, x1, hi, rfl, hr⟩ | ⟨hno, rfl⟩, B⟩
  · have HB3 := Lib.hid (HB2.out.trans (B.mono HB2.out.size))
    have hv := lst_of_owns snpC_len (by decide) hr
    obtain ⟨ax, cx, rfl⟩ := hv.shape
    have HV := Lib.hid hv
    have HI := Lib.hid hi
    clear B hr hv hi C3
    go_wp2_with fail
    refine (C4 _).mono ?_
    intro e w4 hp
    obtain ⟨⟨x2, rfl, hr⟩, B⟩ := hp.is (readsS (a := 4611686018427387904) (b := 4611686018427387904) (c := 4611686018427387904) (d := 4611686018427387904) (by omega) (by omega) (by omega) (by omega)) HI.out
    have HB4 := Lib.hid (HB3.out.trans (B.mono HB3.out.size))
    have hv2 := lst_of_owns snpC_len (by decide) hr
    obtain ⟨ay, cy, rfl⟩ := hv2.shape
    have HV1 := Lib.hid (HV.out.later B)
    have HV2 := Lib.hid hv2
    clear B hr hv2 C4
    go_wp2_with fail
    refine (CF _ HB4.out).mono ?_
    rintro e w5 ⟨rfl, B⟩
    have HB5 := Lib.hid (HB4.out.trans (B.mono HB4.out.size))
    have hl1 : l1.length ≤ 9223372036854775807 := by have := HI.out.1.1; omega
    have CS := snpSame_any _ _ l1 l1 hl1 hl1 w5 (HV1.out.later B) (HV2.out.later B)
    rw [sameB_yes rfl] at CS
    clear B CF hl1
    go_wp2_with fail
    refine CS.mono ?_
    rintro e w6 ⟨rfl, B⟩
    go_wp2_with fail
    go_ret
    exact ⟨rfl, HB5.out.trans (B.mono HB5.out.size)⟩
  · have HB3 := Lib.hid (HB2.out.trans (B.mono HB2.out.size))
    have HN := Lib.hid hno
    clear B hno C3
    go_wp2_with fail
    refine (C4 _).mono ?_
    intro e w4 hp
    obtain ⟨rfl, B⟩ := hp.no HN.out
    have HB4 := Lib.hid (HB3.out.trans (B.mono HB3.out.size))
    clear B C4
    go_wp2_with fail
    refine (CF _ HB4.out).mono ?_
    rintro e w5 ⟨rfl, B⟩
    have HB5 := Lib.hid (HB4.out.trans (B.mono HB4.out.size))
    have CS := snpSame_any (.slice none 0 0) (.slice none 0 0) [] [] (by simp) (by simp) w5 (nil_at w5) (nil_at w5)
    rw [sameB_yes rfl] at CS
    clear B CF
    go_wp2_with fail
    refine CS.mono ?_
    rintro e w6 ⟨rfl, B⟩
    go_wp2_with fail
    go_ret
    exact ⟨rfl, HB5.out.trans (B.mono HB5.out.size)⟩

set_option maxRecDepth 100000 in
/-- WHAT THE WALK GIVES, for every argument that can be read. -/
theorem contract (H : Type) (enc : TypeId × Value → H) (W : World) (base : Nat) (args : Array Value) (ds gs : List (DataW H)) (before : List MemPlace)
    (hval : ∀ (j : Nat) t v, Tryz.f3.params[j]? = some t → args[j]? = some v → Value.okWide Tryz.prog W .any base t v)
    (hW : DataW.Whole enc Tryz.prog Tryz.f3.params.toList Rows.tableSnapsSpec.vars false W args.toList ds gs before)
    (hreach : (DataW.weightsEach Tryz.prog (Tryz.f3.params.toList) ds).all (· ≤ reachBytes) = true) (hg : GE W) :
    Calls Tryz.prog 3 args W fun e W' => ∃ v, e = .returned v ∧ Rows.tableSnapsSpec.post enc Tryz.prog Tryz.f3 false true false false W args v W' := by
  have hW' := hW
  obtain ⟨p, q, hA0, hV, rfl, hfz, hnd⟩ := hW
  have hA : DataW.TrodAll enc Tryz.prog W 0 (fun _ => true) true Tryz.f3.params.toList args.toList ds p := hA0
  rw [Tryz.params3] at hA hval hreach
  obtain ⟨v0, v1, d0, d1, p0, p1, rfl, rfl, rfl, h0, h1⟩ := trodAll_two hA
  obtain ⟨rfl, rfl⟩ := trodVars_none hV
  obtain ⟨s1, rfl, rfl, rfl, ws1⟩ := Go.ChangeMaps.open_string Tryz.underlying9 (hval 1 9 v1 rfl rfl) h1
  have r1 := reach_size (sized_string hreach (j := 1) rfl rfl)
  have lt0 : ∀ x ∈ p0, x.block < W.heap.size := fun x hx => hW'.lt x (by simp [hx])
  obtain ⟨l0, k0, r0, q0⟩ := snps_open (hval 0 22 v0 rfl rfl) h0 lt0 (weights_of hreach (j := 0) rfl rfl)
  clear hA0 hval
  simp only [List.append_nil] at hW'
  refine (walk v0 l0 s1 W k0 r0 q0 r1 hg).mono fun e W' ⟨he, hB⟩ => ?_
  subst he
  exact ⟨_, rfl, post_of_below (pa := p0 ++ ([])) (pv := []) hW' (fun _ _ _ => trodAll_mk1 (shut_bool Tryz.underlying4 _)) (fun sp hsp => trodAll_mk2 (WideElems.Trod_stays laidOut (by kernel_rfl) (of_decide_eq_true (by kernel_rfl)) h0 (fun x hx => hB.same (lt0 x hx)) (fun x hx => hsp x (by simp [hx]))) (Go.ChangeMaps.shut_string Tryz.underlying9 ws1)) (fun _ _ => rfl) (by simp) hB (ok_one (by kernel_rfl) rfl (okWide_bool_mk Tryz.underlying4 _))⟩

theorem reads (os : Os) {H : Type} (enc : TypeId × Value → H) : ∃ places, DataW.whole enc Tryz.prog ((laidWorldH os).forCall (fun _ _ => 0) ⟨#[], #[.slice none 0 0, .string ⟨#[]⟩], []⟩).memory Tryz.f3.params.toList Rows.tableSnapsSpec.vars false (#[.slice none 0 0, .string ⟨#[]⟩] : Array Value).toList 8 = some ([.nil, .lit (.string [])], [], places) :=
  ⟨[], by kernel_rfl⟩

set_option maxRecDepth 100000 in
theorem lifted (os : Os) (started : os.Started) (H : Type) (enc : TypeId × Value → H) (F : Stop.Interp) :
    ReturnsInHanded {} Tryz.checked os 3 .any ((OpenSpec.ofChange Rows.tableSnapsSpec).preRow enc Tryz.prog Tryz.f3 Rows.tableSnapsRow.domain false Rows.tableSnapsRow.laid) (((OpenSpec.ofChange Rows.tableSnapsSpec).at F).post enc Tryz.prog Tryz.f3 false true false false) := by
  obtain ⟨places, hx⟩ := reads os enc
  refine returnsInHanded_of_row (C := Tryz.checked) (s := OpenSpec.ofChange Rows.tableSnapsSpec) own started (by kernel_rfl) Tryz.func3
    (witness_row_at (enc := enc) (C := Tryz.checked) false (laidWorldH os) #[.slice none 0 0, .string ⟨#[]⟩] rfl (by kernel_rfl) (by kernel_rfl) (by kernel_rfl)
      (OpenSpec.preRow_of_cond 8 hx (by kernel_rfl) (fun k hk => by cases hk) (by kernel_rfl) (laid_metH os _))) ?_
  intro W base args ds gs before hval hW _ hcond hreach hL _ _
  obtain ⟨p, q, hA0, hV, hpq, hfz, hnd⟩ := id hW
  obtain ⟨rfl, _⟩ := trodVars_none hV
  rw [List.append_nil] at hreach
  exact contract H enc W base args ds [] before hval hW hreach (handle_of_laid hL)

theorem said : Rows.TableSnapsSaid :=
  OpenClaim.holds_of_cond 3 Tryz.f3 rfl rfl rfl rfl rfl rfl rfl ⟨rfl, rfl, rfl, rfl, rfl⟩ rfl rfl rfl rfl rfl (by kernel_rfl) Tryz.func3 (by kernel_rfl)
    (of_decide_eq_true (by kernel_rfl)) (by unfold Func.isWrapper; first | (rw [if_pos (by decide +kernel)]; kernel_rfl) | (rw [if_neg (by decide +kernel)]; exact ⟨rfl, rfl⟩))
    (fun os started H enc _ F => by rw [OpenClaim.pre_eq_preRow]; exact lifted os started H enc F)

theorem plain (f : FuncId) (fn : Func) (hf : Tryz.pinned.checked.prog.funcNamed "stillage/stillagelaw12.TableSnaps" = some f) (hfn : Tryz.pinned.checked.prog.funcs[f]? = some fn) :
    true = Tryz.pinned.checked.prog.looks [] ∧ ∀ (j : Nat) t, fn.params[j]? = some t → Tryz.pinned.checked.prog.wantsStandIn t = false := by
  obtain rfl : f = 3 := Option.some.inj ((show Tryz.prog.funcNamed "stillage/stillagelaw12.TableSnaps" = some 3 by kernel_rfl).symm.trans hf) |>.symm
  obtain rfl : fn = Tryz.f3 := (Option.some.inj (Tryz.func3.symm.trans hfn)).symm
  refine ⟨by kernel_rfl, fun j t ht => ?_⟩
  rw [Tryz.params3] at ht
  have hm : t ∈ [22, 9] := by simpa using Array.mem_of_getElem? ht
  have hall : ([22, 9].all fun u => !Tryz.prog.wantsStandIn u) = true := by kernel_rfl
  exact (show Tryz.prog.wantsStandIn t = false by simpa using List.all_eq_true.1 hall t hm)

/-- THE CARD -/
theorem card : Rows.TableSnapsCardSaid :=
  Claim7.holds_tied_plain_at .later [] _ _ _ _ said (fun _ h => by cases h) (by kernel_rfl) (fun _ h => by cases h) tableSnaps_row_tie rfl ⟨rfl, rfl⟩ (by kernel_rfl) rfl plain (by kernel_rfl)


end Go.Proofs.YtffebghkmobeoaaGreatDoor.bsnaps

