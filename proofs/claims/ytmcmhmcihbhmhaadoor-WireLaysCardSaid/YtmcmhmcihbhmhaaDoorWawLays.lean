/-
  The bytes of any number, text and numbers are as the document's own answer lays them: for every number, every text and every list of numbers.
  Conditions: those of its row (the variable errors.errorType lies as the program's text lays it: the card ties it).
-/
import Derived.Test.YtmcmhmcihbhmhaaDoorWirK
import Derived.Test.YtmcmhmcihbhmhaaDoorWirR
namespace Go.Proofs.YtmcmhmcihbhmhaaDoor.lays
open Go.ChangeShapes Go.WideShapes Go.ChangeAt Go.RowKit Go

theorem numW_form (n : Int) : ∃ (S : ByteArray) (e : Int), numW n = .tuple #[.string S, .int .i64 e] := by
  unfold numW; split
  · exact ⟨_, _, rfl⟩
  · exact ⟨_, _, rfl⟩
theorem textW_form (l : List UInt8) : ∃ (S : ByteArray) (e : Int), textW l = .tuple #[.string S, .int .i64 e] := by
  unfold textW; split
  · exact ⟨_, _, rfl⟩
  · exact ⟨_, _, rfl⟩
theorem numsW_form (l : List Int) : ∃ (S : ByteArray) (e : Int), numsW l = .tuple #[.string S, .int .i64 e] := by
  unfold numsW; split
  · exact ⟨_, _, rfl⟩
  · exact ⟨_, _, rfl⟩
theorem ret_bool {b c : Bool} (h : b = c) : Ending.returned (.bool b) = .returned (.bool c) := by rw [h]

set_option maxRecDepth 100000 in
set_option maxHeartbeats 4000000 in
theorem walk (n : Int) (s : ByteArray) (v : Value) (zs : List Int) (w : World) (_hn : -9223372036854775808 ≤ n ∧ n ≤ 9223372036854775807) (hs : s.size ≤ 140737488351232) (hI : IntsAt w v zs) (hz : zs.length ≤ 140737488351232) (hg : GE w) :
    Calls Tryd.prog 3 #[.int .i64 n, .string s, v] w fun r w' => r = .returned (.bool true) ∧ Below w.heap.size w w' := by
  obtain ⟨S1, e1, h1⟩ := numW_form n
  obtain ⟨S2, e2, h2⟩ := textW_form s.data.toList
  obtain ⟨S3, e3, h3⟩ := numsW_form zs
  have C1 := fun w => wnum_any n w
  have C2 := fun w => refnum_any n w
  have C3 := fun w => wtext_any s (by omega) w
  have C4 := fun w => reftext_any s (by omega) w
  have C5 : ∀ w', Below w.heap.size w w' → Calls Tryd.prog 15 #[v] w' fun e w2 => e = .returned (numsW zs) ∧ Below w'.heap.size w' w2 := fun w' hB => wnums_any v zs (by omega) w' (hI.later hB)
  have C6 : ∀ w', Below w.heap.size w w' → Calls Tryd.prog 16 #[v] w' fun e w2 => e = .returned (numsW zs) ∧ Below w'.heap.size w' w2 := fun w' hB => refnums_any v zs (by omega) w' (hI.later hB)
  rw [h1] at C1 C2
  rw [h2] at C3 C4
  rw [h3] at C5 C6
  clear h1 h2 h3 _hn hs hz hI
  have B0 := Below.refl w.heap.size w
  have hg0 := hg
  have h0 := hg.lt
  go_enter Tryd.func3, Tryd.ntmps3
  go_wp2_with fail
  refine (C1 _).mono ?_
  rintro e w1 ⟨rfl, K⟩
  have B1 := B0.trans (K.mono B0.size)
  have hg1 := hg0.below K
  clear B0 hg0 K
  go_wp2_with fail
  refine (C2 _).mono ?_
  rintro e w2 ⟨rfl, K⟩
  have B2 := B1.trans (K.mono B1.size)
  have hg2 := hg1.below K
  clear B1 hg1 K
  go_wp2_with fail
  refine (C3 _).mono ?_
  rintro e w3 ⟨rfl, K⟩
  have B3 := B2.trans (K.mono B2.size)
  have hg3 := hg2.below K
  clear B2 hg2 K
  go_wp2_with fail
  refine (C4 _).mono ?_
  rintro e w4 ⟨rfl, K⟩
  have B4 := B3.trans (K.mono B3.size)
  have hg4 := hg3.below K
  clear B3 hg3 K
  go_wp2_with fail
  refine (C5 _ B4).mono ?_
  rintro e w5 ⟨rfl, K⟩
  have B5 := B4.trans (K.mono B4.size)
  have hg5 := hg4.below K
  clear B4 hg4 K
  go_wp2_with fail
  refine (C6 _ B5).mono ?_
  rintro e w6 ⟨rfl, K⟩
  have B6 := B5.trans (K.mono B5.size)
  have hg6 := hg5.below K
  clear B5 hg5 K
  go_wp2_with fail
  refine (fixed_any _ hg6).mono ?_
  rintro e w7 ⟨rfl, K⟩
  have B7 := B6.trans (K.mono B6.size)
  have hg7 := hg6.below K
  clear B6 hg6 K
  go_wp2_with fail
  go_ret
  exact ⟨ret_bool (by simp), B7⟩

set_option maxRecDepth 100000 in
/-- WHAT THE WALK GIVES, for every argument that can be read. -/
theorem contract (H : Type) (enc : TypeId × Value → H) (W : World) (base : Nat) (args : Array Value) (ds gs : List (DataW H)) (before : List MemPlace)
    (hval : ∀ (j : Nat) t v, Tryd.f3.params[j]? = some t → args[j]? = some v → Value.okWide Tryd.prog W .any base t v)
    (hW : DataW.Whole enc Tryd.prog Tryd.f3.params.toList Rows.wireLaysSpec.vars false W args.toList ds gs before)
    (hreach : (DataW.weightsEach Tryd.prog (Tryd.f3.params.toList) ds).all (· ≤ reachBytes) = true) (hg : GE W) :
    Calls Tryd.prog 3 args W fun e W' => ∃ v, e = .returned v ∧ Rows.wireLaysSpec.post enc Tryd.prog Tryd.f3 false true false false W args v W' := by
  have hW' := hW
  obtain ⟨p, q, hA0, hV, rfl, hfz, hnd⟩ := hW
  have hA : DataW.TrodAll enc Tryd.prog W 0 (fun _ => true) true Tryd.f3.params.toList args.toList ds p := hA0
  rw [Tryd.params3] at hA hval hreach
  obtain ⟨v0, v1, v2, d0, d1, d2, p0, p1, p2, rfl, rfl, rfl, h0, h1, h2⟩ := trodAll_three hA
  obtain ⟨rfl, rfl⟩ := trodVars_none hV
  obtain ⟨n0, rfl, rfl, rfl, wn0⟩ := open_int Tryd.underlying3 (hval 0 3 v0 rfl rfl) h0
  have r0 := int_range wn0
  obtain ⟨s1, rfl, rfl, rfl, ws1⟩ := Go.ChangeMaps.open_string Tryd.underlying9 (hval 1 9 v1 rfl rfl) h1
  have r1 := reach_size (sized_string hreach (j := 1) rfl rfl)
  have lt2 : ∀ x ∈ p2, x.block < W.heap.size := fun x hx => hW'.lt x (by simp [hx])
  obtain ⟨l2, k2, r2⟩ := ints_open (hval 2 22 v2 rfl rfl) h2 lt2 hreach (j := 2) rfl rfl
  clear hA0 hval
  simp only [List.append_nil] at hW'
  refine (walk n0 s1 v2 l2 W r0 r1 k2 r2 hg).mono fun e W' ⟨he, hB⟩ => ?_
  subst he
  exact ⟨_, rfl, post_of_below (pa := [] ++ ([] ++ (p2))) (pv := []) hW' (fun _ _ _ => trodAll_mk1 (shut_bool Tryd.underlying4 _)) (fun sp hsp => trodAll_mk3 (shut_int Tryd.underlying3 wn0) (Go.ChangeMaps.shut_string Tryd.underlying9 ws1) (WideElems.Trod_stays laidOut (by kernel_rfl) (of_decide_eq_true (by kernel_rfl)) h2 (fun x hx => hB.same (lt2 x hx)) (fun x hx => hsp x (by simp [hx])))) (fun _ _ => rfl) (by simp) hB (ok_one (by kernel_rfl) rfl (okWide_bool_mk Tryd.underlying4 _))⟩

theorem reads (os : Os) {H : Type} (enc : TypeId × Value → H) : ∃ places, DataW.whole enc Tryd.prog ((laidWorld os).forCall (fun _ _ => 0) ⟨#[], #[.int .i64 0, .string ⟨#[]⟩, .slice none 0 0], []⟩).memory Tryd.f3.params.toList Rows.wireLaysSpec.vars false (#[.int .i64 0, .string ⟨#[]⟩, .slice none 0 0] : Array Value).toList 8 = some ([.lit (.int .i64 0), .lit (.string []), .nil], [], places) :=
  ⟨[], by kernel_rfl⟩

set_option maxRecDepth 100000 in
theorem lifted (os : Os) (started : os.Started) (H : Type) (enc : TypeId × Value → H) (F : Stop.Interp) :
    ReturnsInHanded {} Tryd.checked os 3 .any ((OpenSpec.ofChange Rows.wireLaysSpec).preRow enc Tryd.prog Tryd.f3 Rows.wireLaysRow.domain false Rows.wireLaysRow.laid) (((OpenSpec.ofChange Rows.wireLaysSpec).at F).post enc Tryd.prog Tryd.f3 false true false false) := by
  obtain ⟨places, hx⟩ := reads os enc
  refine returnsInHanded_of_row (C := Tryd.checked) (s := OpenSpec.ofChange Rows.wireLaysSpec) own started (by kernel_rfl) Tryd.func3
    (witness_row_at (enc := enc) (C := Tryd.checked) false (laidWorld os) #[.int .i64 0, .string ⟨#[]⟩, .slice none 0 0] rfl (by kernel_rfl) (by kernel_rfl) (by kernel_rfl)
      (OpenSpec.preRow_of_cond 8 hx (by kernel_rfl) (fun k hk => by cases hk) (by kernel_rfl) (laid_met os _))) ?_
  intro W base args ds gs before hval hW _ hcond hreach hL _ _
  obtain ⟨p, q, hA0, hV, hpq, hfz, hnd⟩ := id hW
  obtain ⟨rfl, _⟩ := trodVars_none hV
  rw [List.append_nil] at hreach
  exact contract H enc W base args ds [] before hval hW hreach (handle_of_laid hL)

theorem said : Rows.WireLaysSaid :=
  OpenClaim.holds_of_cond 3 Tryd.f3 rfl rfl rfl rfl rfl rfl rfl ⟨rfl, rfl, rfl, rfl, rfl⟩ rfl rfl rfl rfl rfl (by kernel_rfl) Tryd.func3 (by kernel_rfl)
    (of_decide_eq_true (by kernel_rfl)) (by unfold Func.isWrapper; first | (rw [if_pos (by decide +kernel)]; kernel_rfl) | (rw [if_neg (by decide +kernel)]; exact ⟨rfl, rfl⟩))
    (fun os started H enc _ F => by rw [OpenClaim.pre_eq_preRow]; exact lifted os started H enc F)

theorem plain (f : FuncId) (fn : Func) (hf : Tryd.pinned.checked.prog.funcNamed "stillage/stillagelaw03.WireLays" = some f) (hfn : Tryd.pinned.checked.prog.funcs[f]? = some fn) :
    true = Tryd.pinned.checked.prog.looks [] ∧ ∀ (j : Nat) t, fn.params[j]? = some t → Tryd.pinned.checked.prog.wantsStandIn t = false := by
  obtain rfl : f = 3 := Option.some.inj ((show Tryd.prog.funcNamed "stillage/stillagelaw03.WireLays" = some 3 by kernel_rfl).symm.trans hf) |>.symm
  obtain rfl : fn = Tryd.f3 := (Option.some.inj (Tryd.func3.symm.trans hfn)).symm
  refine ⟨by kernel_rfl, fun j t ht => ?_⟩
  rw [Tryd.params3] at ht
  have hm : t ∈ [3, 9, 22] := by simpa using Array.mem_of_getElem? ht
  have hall : ([3, 9, 22].all fun u => !Tryd.prog.wantsStandIn u) = true := by kernel_rfl
  exact (show Tryd.prog.wantsStandIn t = false by simpa using List.all_eq_true.1 hall t hm)

/-- THE CARD -/
theorem card : Rows.WireLaysCardSaid :=
  Claim7.holds_tied_plain_at .later [] _ _ _ _ said (fun _ h => by cases h) (by kernel_rfl) (fun _ h => by cases h) wireLays_row_tie rfl ⟨rfl, rfl⟩ (by kernel_rfl) rfl plain (by kernel_rfl)

end Go.Proofs.YtmcmhmcihbhmhaaDoor.lays
