/-
  Behind an error each read answers it, and End: for every text and every limit.
  Conditions: those of its row (the variable errors.errorType lies as the program's text lays it: the card ties it).
-/
import Derived.Test.YtmcmhmcihbhmhaaDoorWirK
namespace Go.Proofs.YtmcmhmcihbhmhaaDoor.latched
open Go.ChangeShapes Go.WideShapes Go.ChangeAt Go.RowKit Go

theorem textR_err {r : Rd} (h : r.err ≠ 0) (m : Int) : textR r m = ([], r) := by
  unfold textR; rw [numR_err h]; unfold bytesR; rw [if_neg h]
theorem numsR_err {r : Rd} (h : r.err ≠ 0) (k m : Int) : numsR r k m = ([], r) := by
  unfold numsR; rw [numR_err h]; rfl
theorem endR_err {r : Rd} (h : r.err ≠ 0) : endR r = r.err := if_neg h

set_option maxRecDepth 100000 in
set_option maxHeartbeats 2000000 in
theorem walk (s : ByteArray) (most : Int) (w : World) (hs : s.size ≤ 140737488351232) (_hm : -9223372036854775808 ≤ most ∧ most ≤ 9223372036854775807) (hg : GE w) :
    Calls Tryd.prog 9 #[.string s, .int .i64 most] w fun r w' => r = .returned (.bool true) ∧ Below w.heap.size w w' := by
  have hs' : s.data.toList.length ≤ 281474976710656 := by simp; omega
  obtain ⟨n, r1, hp⟩ : ∃ n r1, numR ⟨s.data.toList, 0⟩ most = (n, r1) := ⟨_, _, rfl⟩
  have hr1 : r1.rest.length ≤ 281474976710656 := by
    have := numR_rest ⟨s.data.toList, 0⟩ most
    rw [hp] at this
    exact Nat.le_trans this hs'
  obtain ⟨e0, he0⟩ : ∃ e0, r1.err = e0 := ⟨_, rfl⟩
  have C1 := fun (b : Nat) (hb : b ≠ 0) => qnum_is (b := b) hb hp he0 hs'
  clear hp
  by_cases hz : e0 = 0
  · subst hz
    clear hr1 he0
    go_enter Tryd.func9, Tryd.ntmps9
    go_wp2_with fail
    refine (rnew_any s _).mono ?_
    rintro e w1 ⟨b, rfl, hb, H1, B1⟩
    have hg1 := hg.below B1
    have hb0 : b ≠ 0 := by have := hg.lt; omega
    go_wp2_with fail
    refine (C1 b hb0 _ hg1 H1).mono ?_
    rintro e w2 ⟨rfl, M2⟩
    have B2 := B1.trans (M2.below hb B1.size)
    have hg2 := hg1.moved M2 hb0
    clear B1 M2 H1 C1
    go_wp2_with fail
    refine (fixed_any _ hg2).mono ?_
    rintro e w3 ⟨rfl, B3⟩
    go_wp2_with fail
    go_ret
    exact ⟨rfl, B2.trans (B3.mono B2.size)⟩
  · have hz' : r1.err ≠ 0 := by rw [he0]; exact hz
    have HT := textR_err hz' 1048576
    have HN := numsR_err hz' 1048576 4611686018427387903
    have HM := numR_err hz' 4611686018427387903
    have HE := endR_err hz'
    rw [he0] at HE
    have C2 := fun (b : Nat) (hb : b ≠ 0) => qtext_is (b := b) hb HT (show bs [] = ⟨#[]⟩ from rfl) he0 hr1
    have C3 := fun (b : Nat) (hb : b ≠ 0) => qnums_any b hb r1 1048576 4611686018427387903 hr1
    rw [HN] at C3
    have C4 := fun (b : Nat) (hb : b ≠ 0) => qnum_is (b := b) hb HM he0 hr1
    have C5 := fun (b : Nat) => qend_is (b := b) HE
    have hzb : (e0 == 0) = false := beq_eq_false_iff_ne.2 hz
    clear hr1 HT HN HM HE hz'
    go_enter Tryd.func9, Tryd.ntmps9
    go_wp2_with fail
    refine (rnew_any s _).mono ?_
    rintro e w1 ⟨b, rfl, hb, H1, B1⟩
    have hg1 := hg.below B1
    have hb0 : b ≠ 0 := by have := hg.lt; omega
    go_wp2_with fail
    refine (C1 b hb0 _ hg1 H1).mono ?_
    rintro e w2 ⟨rfl, M2⟩
    have B2 := B1.trans (M2.below hb B1.size)
    have hg2 := hg1.moved M2 hb0
    have H2 := M2.here
    clear B1 M2 H1 C1 hg1
    go_wp2_with fail
    refine (C2 b hb0 _ hg2 H2).mono ?_
    rintro e w3 ⟨rfl, M3⟩
    have B3 := B2.trans (M3.below hb B2.size)
    have hg3 := hg2.moved M3 hb0
    have H3 := M3.here
    clear B2 M3 H2 C2 hg2
    go_wp2_with fail
    refine (C3 b hb0 _ hg3 H3).mono ?_
    rintro e w4 ⟨⟨l, rfl, hl⟩, M4⟩
    obtain ⟨a, cap, rfl, -⟩ := hl.split
    rw [show (toInts []).length = 0 from rfl, he0]
    have B4 := B3.trans (M4.below hb B3.size)
    have hg4 := hg3.moved M4 hb0
    have H4 := M4.here
    clear B3 M4 H3 C3 hg3 hl
    go_wp2_with fail
    refine (C4 b hb0 _ hg4 H4).mono ?_
    rintro e w5 ⟨rfl, M5⟩
    have B5 := B4.trans (M5.below hb B4.size)
    have hg5 := hg4.moved M5 hb0
    have H5 := M5.here
    clear B4 M5 H4 C4 hg4
    go_wp2_with fail
    refine (fixed_any _ hg5).mono ?_
    rintro e w6 ⟨rfl, B6'⟩
    have B6 := B5.trans (B6'.mono B5.size)
    have hg6 := hg5.below B6'
    have H6 := keeps_of B6' H5
    clear B5 B6' H5 hg5
    go_wp2_with fail
    refine (C5 b _ hg6 H6).mono ?_
    rintro e w7 ⟨rfl, B7⟩
    go_wp2_with fail
    go_ret
    exact ⟨rfl, B6.trans (B7.mono B6.size)⟩

set_option maxRecDepth 100000 in
/-- WHAT THE WALK GIVES, for every argument that can be read. -/
theorem contract (H : Type) (enc : TypeId × Value → H) (W : World) (base : Nat) (args : Array Value) (ds gs : List (DataW H)) (before : List MemPlace)
    (hval : ∀ (j : Nat) t v, Tryd.f9.params[j]? = some t → args[j]? = some v → Value.okWide Tryd.prog W .any base t v)
    (hW : DataW.Whole enc Tryd.prog Tryd.f9.params.toList Rows.wireLatchedSpec.vars false W args.toList ds gs before)
    (hreach : (DataW.weightsEach Tryd.prog (Tryd.f9.params.toList) ds).all (· ≤ reachBytes) = true) (hg : GE W) :
    Calls Tryd.prog 9 args W fun e W' => ∃ v, e = .returned v ∧ Rows.wireLatchedSpec.post enc Tryd.prog Tryd.f9 false true false false W args v W' := by
  have hW' := hW
  obtain ⟨p, q, hA0, hV, rfl, hfz, hnd⟩ := hW
  have hA : DataW.TrodAll enc Tryd.prog W 0 (fun _ => true) true Tryd.f9.params.toList args.toList ds p := hA0
  rw [Tryd.params9] at hA hval hreach
  obtain ⟨v0, v1, d0, d1, p0, p1, rfl, rfl, rfl, h0, h1⟩ := trodAll_two hA
  obtain ⟨rfl, rfl⟩ := trodVars_none hV
  obtain ⟨s0, rfl, rfl, rfl, ws0⟩ := Go.ChangeMaps.open_string Tryd.underlying9 (hval 0 9 v0 rfl rfl) h0
  have r0 := reach_size (sized_string hreach (j := 0) rfl rfl)
  obtain ⟨n1, rfl, rfl, rfl, wn1⟩ := open_int Tryd.underlying3 (hval 1 3 v1 rfl rfl) h1
  have r1 := int_range wn1
  clear hA0 hval
  simp only [List.append_nil] at hW'
  refine (walk s0 n1 W r0 r1 hg).mono fun e W' ⟨he, hB⟩ => ?_
  subst he
  exact ⟨_, rfl, post_of_below (pa := []) (pv := []) hW' (fun _ _ _ => trodAll_mk1 (shut_bool Tryd.underlying4 _)) (fun _ _ => trodAll_mk2 (Go.ChangeMaps.shut_string Tryd.underlying9 ws0) (shut_int Tryd.underlying3 wn1)) (fun _ _ => rfl) rfl hB (ok_one (by kernel_rfl) rfl (okWide_bool_mk Tryd.underlying4 _))⟩

theorem reads (os : Os) {H : Type} (enc : TypeId × Value → H) : ∃ places, DataW.whole enc Tryd.prog ((laidWorld os).forCall (fun _ _ => 0) ⟨#[], #[.string ⟨#[]⟩, .int .i64 0], []⟩).memory Tryd.f9.params.toList Rows.wireLatchedSpec.vars false (#[.string ⟨#[]⟩, .int .i64 0] : Array Value).toList 8 = some ([.lit (.string []), .lit (.int .i64 0)], [], places) :=
  ⟨[], by kernel_rfl⟩

set_option maxRecDepth 100000 in
theorem lifted (os : Os) (started : os.Started) (H : Type) (enc : TypeId × Value → H) (F : Stop.Interp) :
    ReturnsInHanded {} Tryd.checked os 9 .any ((OpenSpec.ofChange Rows.wireLatchedSpec).preRow enc Tryd.prog Tryd.f9 Rows.wireLatchedRow.domain false Rows.wireLatchedRow.laid) (((OpenSpec.ofChange Rows.wireLatchedSpec).at F).post enc Tryd.prog Tryd.f9 false true false false) := by
  obtain ⟨places, hx⟩ := reads os enc
  refine returnsInHanded_of_row (C := Tryd.checked) (s := OpenSpec.ofChange Rows.wireLatchedSpec) own started (by kernel_rfl) Tryd.func9
    (witness_row_at (enc := enc) (C := Tryd.checked) false (laidWorld os) #[.string ⟨#[]⟩, .int .i64 0] rfl (by kernel_rfl) (by kernel_rfl) (by kernel_rfl)
      (OpenSpec.preRow_of_cond 8 hx (by kernel_rfl) (fun k hk => by cases hk) (by kernel_rfl) (laid_met os _))) ?_
  intro W base args ds gs before hval hW _ hcond hreach hL _ _
  obtain ⟨p, q, hA0, hV, hpq, hfz, hnd⟩ := id hW
  obtain ⟨rfl, _⟩ := trodVars_none hV
  rw [List.append_nil] at hreach
  exact contract H enc W base args ds [] before hval hW hreach (handle_of_laid hL)

theorem said : Rows.WireLatchedSaid :=
  OpenClaim.holds_of_cond 9 Tryd.f9 rfl rfl rfl rfl rfl rfl rfl ⟨rfl, rfl, rfl, rfl, rfl⟩ rfl rfl rfl rfl rfl (by kernel_rfl) Tryd.func9 (by kernel_rfl)
    (of_decide_eq_true (by kernel_rfl)) (by unfold Func.isWrapper; first | (rw [if_pos (by decide +kernel)]; kernel_rfl) | (rw [if_neg (by decide +kernel)]; exact ⟨rfl, rfl⟩))
    (fun os started H enc _ F => by rw [OpenClaim.pre_eq_preRow]; exact lifted os started H enc F)

theorem plain (f : FuncId) (fn : Func) (hf : Tryd.pinned.checked.prog.funcNamed "stillage/stillagelaw03.WireLatched" = some f) (hfn : Tryd.pinned.checked.prog.funcs[f]? = some fn) :
    true = Tryd.pinned.checked.prog.looks [] ∧ ∀ (j : Nat) t, fn.params[j]? = some t → Tryd.pinned.checked.prog.wantsStandIn t = false := by
  obtain rfl : f = 9 := Option.some.inj ((show Tryd.prog.funcNamed "stillage/stillagelaw03.WireLatched" = some 9 by kernel_rfl).symm.trans hf) |>.symm
  obtain rfl : fn = Tryd.f9 := (Option.some.inj (Tryd.func9.symm.trans hfn)).symm
  refine ⟨by kernel_rfl, fun j t ht => ?_⟩
  rw [Tryd.params9] at ht
  have hm : t ∈ [9, 3] := by simpa using Array.mem_of_getElem? ht
  have hall : ([9, 3].all fun u => !Tryd.prog.wantsStandIn u) = true := by kernel_rfl
  exact (show Tryd.prog.wantsStandIn t = false by simpa using List.all_eq_true.1 hall t hm)

/-- THE CARD -/
theorem card : Rows.WireLatchedCardSaid :=
  Claim7.holds_tied_plain_at .later [] _ _ _ _ said (fun _ h => by cases h) (by kernel_rfl) (fun _ h => by cases h) wireLatched_row_tie rfl ⟨rfl, rfl⟩ (by kernel_rfl) rfl plain (by kernel_rfl)

end Go.Proofs.YtmcmhmcihbhmhaaDoor.latched
