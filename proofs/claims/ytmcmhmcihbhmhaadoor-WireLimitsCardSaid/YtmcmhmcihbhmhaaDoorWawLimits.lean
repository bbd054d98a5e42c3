/-
  A number above its limit is refused, at it it is read; a text, too: for every number and every text.
  Conditions: those of its row (the variable errors.errorType lies as the program's text lays it: the card ties it).
-/
import Derived.Test.YtmcmhmcihbhmhaaDoorWirK
import Derived.Test.YtmcmhmcihbhmhaaDoorWirM
namespace Go.Proofs.YtmcmhmcihbhmhaaDoor.limits
open Go.ChangeShapes Go.WideShapes Go.ChangeAt Go.RowKit Go

theorem numW_bad {n : Int} (h : bad n = true) : numW n = .tuple #[.string ⟨#[]⟩, .int .i64 31] := by unfold numW; rw [h]; rfl
theorem numW_good {n : Nat} (h : bad n = false) : numW n = .tuple #[.string (bs (dg n)), .int .i64 0] := by unfold numW; rw [h]; rfl
theorem textW_bad {l : List UInt8} (h : ¬ l.length ≤ 65536) : textW l = .tuple #[.string ⟨#[]⟩, .int .i64 31] := if_neg h
theorem textW_good {l : List UInt8} (h : l.length ≤ 65536) : textW l = .tuple #[.string (bs (dg l.length ++ l)), .int .i64 0] := if_pos h

set_option maxRecDepth 100000 in
set_option maxHeartbeats 4000000 in
theorem walk (n : Int) (s : ByteArray) (w : World) (hn : -9223372036854775808 ≤ n ∧ n ≤ 9223372036854775807) (hs : s.size ≤ 140737488351232) (hg : GE w) :
    Calls Tryd.prog 7 #[.int .i64 n, .string s] w fun r w' => r = .returned (.bool true) ∧ Below w.heap.size w w' := by
  have hl : s.data.toList.length = s.size := by simp
  have C1 := fun w => wnum_any n w
  have C2 := fun w => wtext_any s (by omega) w
  cases hb : bad n with
  | true =>
    rw [numW_bad hb] at C1
    clear hb
    by_cases hl2 : s.data.toList.length ≤ 65536
    · rw [textW_good hl2] at C2
      clear hl hl2
      have B0 := Below.refl w.heap.size w
      have hg0 := hg
      have h0 := hg.lt
      go_enter Tryd.func7, Tryd.ntmps7
      go_wp2_with fail
      refine (C1 _).mono ?_
      rintro e w1 ⟨rfl, K⟩
      have B1 := B0.trans (K.mono B0.size)
      have hg1 := hg0.below K
      clear B0 hg0 K
      go_wp2_with fail
      refine (C2 _).mono ?_
      rintro e w2 ⟨rfl, K⟩
      have B2 := B1.trans (K.mono B1.size)
      have hg2 := hg1.below K
      clear B1 hg1 K
      go_wp2_with fail
      refine (fixed_any _ hg2).mono ?_
      rintro e w3 ⟨rfl, K⟩
      have B3 := B2.trans (K.mono B2.size)
      have hg3 := hg2.below K
      clear B2 hg2 K
      go_wp2_with fail
      go_ret
      exact ⟨rfl, B3⟩
    · rw [textW_bad hl2] at C2
      clear hl hl2
      have B0 := Below.refl w.heap.size w
      have hg0 := hg
      have h0 := hg.lt
      go_enter Tryd.func7, Tryd.ntmps7
      go_wp2_with fail
      refine (C1 _).mono ?_
      rintro e w1 ⟨rfl, K⟩
      have B1 := B0.trans (K.mono B0.size)
      have hg1 := hg0.below K
      clear B0 hg0 K
      go_wp2_with fail
      refine (C2 _).mono ?_
      rintro e w2 ⟨rfl, K⟩
      have B2 := B1.trans (K.mono B1.size)
      have hg2 := hg1.below K
      clear B1 hg1 K
      go_wp2_with fail
      refine (fixed_any _ hg2).mono ?_
      rintro e w3 ⟨rfl, K⟩
      have B3 := B2.trans (K.mono B2.size)
      have hg3 := hg2.below K
      clear B2 hg2 K
      go_wp2_with fail
      go_ret
      exact ⟨rfl, B3⟩
  | false =>
    obtain ⟨h1, h2⟩ := good_of hb
    obtain ⟨N, rfl⟩ := Int.eq_ofNat_of_zero_le h1
    rw [numW_good hb] at C1
    clear hb
    by_cases hl2 : s.data.toList.length ≤ 65536
    · rw [textW_good hl2] at C2
      have ht : N ≤ top := by unfold top; omega
      have hd := dg_9 (top_le ht)
      have hd2 := dg_9 (n := s.data.toList.length) (by omega)
      have q1 := fun (b : Nat) (hb : b ≠ 0) => qnum_is (b := b) hb (numR_dg0 (m := (N : Int)) ht (by omega)) rfl (show (dg N).length ≤ 281474976710656 by omega)
      have q2 := fun (b : Nat) (hb : b ≠ 0) => qnum_is (b := b) hb (numR_dg0_over (m := (N : Int) - 1) ht (by omega)) rfl (show (dg N).length ≤ 281474976710656 by omega)
      have q3 := fun (b : Nat) (hb : b ≠ 0) => qtext_is (b := b) hb (textR_dg0 (m := (s.size : Int)) hl2 (by omega)) (bs_self s) rfl (show (dg s.data.toList.length ++ s.data.toList).length ≤ 281474976710656 by rw [List.length_append]; omega)
      have q4 := fun (b : Nat) (hb : b ≠ 0) => qtext_is (b := b) hb (textR_dg0_over (m := (s.size : Int) - 1) hl2 (by omega)) (show bs [] = ⟨#[]⟩ from rfl) rfl (show (dg s.data.toList.length ++ s.data.toList).length ≤ 281474976710656 by rw [List.length_append]; omega)
      clear hl hl2 hd hd2 ht h1 hn
      have B0 := Below.refl w.heap.size w
      have hg0 := hg
      have h0 := hg.lt
      go_enter Tryd.func7, Tryd.ntmps7
      go_wp2_with fail
      refine (C1 _).mono ?_
      rintro e w1 ⟨rfl, K⟩
      have B1 := B0.trans (K.mono B0.size)
      have hg1 := hg0.below K
      clear B0 hg0 K
      go_wp2_with fail
      refine (C2 _).mono ?_
      rintro e w2 ⟨rfl, K⟩
      have B2 := B1.trans (K.mono B1.size)
      have hg2 := hg1.below K
      clear B1 hg1 K
      go_wp2_with fail
      refine (rnew_any (bs (dg N)) _).mono ?_
      rintro e w3 ⟨bq, rfl, K2, Hbq3, K⟩
      have B3 := B2.trans (K.mono B2.size)
      have hg3 := hg2.below K
      have bbq : w.heap.size ≤ bq := Nat.le_trans B2.size K2
      have zbq : bq ≠ 0 := by omega
      clear B2 hg2 K K2
      go_wp2_with fail
      refine (rnew_any (bs (dg N)) _).mono ?_
      rintro e w4 ⟨br, rfl, K2, Hbr4, K⟩
      have B4 := B3.trans (K.mono B3.size)
      have hg4 := hg3.below K
      have bbr : w.heap.size ≤ br := Nat.le_trans B3.size K2
      have zbr : br ≠ 0 := by omega
      have dbqbr : bq ≠ br := by have := lt_of_heap Hbq3; omega
      have dbrbq : br ≠ bq := Ne.symm dbqbr
      have Hbq4 := keeps_of K Hbq3
      clear B3 hg3 Hbq3 K K2
      go_wp2_with fail
      refine (rnew_any (bs (dg s.data.toList.length ++ s.data.toList)) _).mono ?_
      rintro e w5 ⟨bt, rfl, K2, Hbt5, K⟩
      have B5 := B4.trans (K.mono B4.size)
      have hg5 := hg4.below K
      have bbt : w.heap.size ≤ bt := Nat.le_trans B4.size K2
      have zbt : bt ≠ 0 := by omega
      have dbqbt : bq ≠ bt := by have := lt_of_heap Hbq4; omega
      have dbtbq : bt ≠ bq := Ne.symm dbqbt
      have dbrbt : br ≠ bt := by have := lt_of_heap Hbr4; omega
      have dbtbr : bt ≠ br := Ne.symm dbrbt
      have Hbq5 := keeps_of K Hbq4
      have Hbr5 := keeps_of K Hbr4
      clear B4 hg4 Hbq4 Hbr4 K K2
      go_wp2_with fail
      refine (rnew_any (bs (dg s.data.toList.length ++ s.data.toList)) _).mono ?_
      rintro e w6 ⟨bu, rfl, K2, Hbu6, K⟩
      have B6 := B5.trans (K.mono B5.size)
      have hg6 := hg5.below K
      have bbu : w.heap.size ≤ bu := Nat.le_trans B5.size K2
      have zbu : bu ≠ 0 := by omega
      have dbqbu : bq ≠ bu := by have := lt_of_heap Hbq5; omega
      have dbubq : bu ≠ bq := Ne.symm dbqbu
      have dbrbu : br ≠ bu := by have := lt_of_heap Hbr5; omega
      have dbubr : bu ≠ br := Ne.symm dbrbu
      have dbtbu : bt ≠ bu := by have := lt_of_heap Hbt5; omega
      have dbubt : bu ≠ bt := Ne.symm dbtbu
      have Hbq6 := keeps_of K Hbq5
      have Hbr6 := keeps_of K Hbr5
      have Hbt6 := keeps_of K Hbt5
      clear B5 hg5 Hbq5 Hbr5 Hbt5 K K2
      go_wp2_with fail
      refine (q1 bq zbq _ hg6 Hbq6).mono ?_
      rintro e w7 ⟨rfl, K⟩
      have B7 := B6.trans (K.below bbq B6.size)
      have hg7 := hg6.moved K zbq
      have Hbq7 := K.here
      have Hbr7 := K.other Hbr6 dbrbq
      have Hbt7 := K.other Hbt6 dbtbq
      have Hbu7 := K.other Hbu6 dbubq
      clear B6 hg6 Hbq6 Hbr6 Hbt6 Hbu6 K
      go_wp2_with fail
      refine (q2 br zbr _ hg7 Hbr7).mono ?_
      rintro e w8 ⟨rfl, K⟩
      have B8 := B7.trans (K.below bbr B7.size)
      have hg8 := hg7.moved K zbr
      have Hbr8 := K.here
      have Hbq8 := K.other Hbq7 dbqbr
      have Hbt8 := K.other Hbt7 dbtbr
      have Hbu8 := K.other Hbu7 dbubr
      clear B7 hg7 Hbq7 Hbr7 Hbt7 Hbu7 K
      go_wp2_with fail
      refine (q3 bt zbt _ hg8 Hbt8).mono ?_
      rintro e w9 ⟨rfl, K⟩
      have B9 := B8.trans (K.below bbt B8.size)
      have hg9 := hg8.moved K zbt
      have Hbt9 := K.here
      have Hbq9 := K.other Hbq8 dbqbt
      have Hbr9 := K.other Hbr8 dbrbt
      have Hbu9 := K.other Hbu8 dbubt
      clear B8 hg8 Hbq8 Hbr8 Hbt8 Hbu8 K
      go_wp2_with fail
      refine (q4 bu zbu _ hg9 Hbu9).mono ?_
      rintro e w10 ⟨rfl, K⟩
      have B10 := B9.trans (K.below bbu B9.size)
      have hg10 := hg9.moved K zbu
      have Hbu10 := K.here
      have Hbq10 := K.other Hbq9 dbqbu
      have Hbr10 := K.other Hbr9 dbrbu
      have Hbt10 := K.other Hbt9 dbtbu
      clear B9 hg9 Hbq9 Hbr9 Hbt9 Hbu9 K
      go_wp2_with fail
      refine (fixed_any _ hg10).mono ?_
      rintro e w11 ⟨rfl, K⟩
      have B11 := B10.trans (K.mono B10.size)
      have hg11 := hg10.below K
      have Hbq11 := keeps_of K Hbq10
      have Hbr11 := keeps_of K Hbr10
      have Hbt11 := keeps_of K Hbt10
      have Hbu11 := keeps_of K Hbu10
      clear B10 hg10 Hbq10 Hbr10 Hbt10 Hbu10 K
      go_wp2_with fail
      go_ret
      exact ⟨rfl, B11⟩
    · rw [textW_bad hl2] at C2
      clear hl hl2
      have B0 := Below.refl w.heap.size w
      have hg0 := hg
      have h0 := hg.lt
      go_enter Tryd.func7, Tryd.ntmps7
      go_wp2_with fail
      refine (C1 _).mono ?_
      rintro e w1 ⟨rfl, K⟩
      have B1 := B0.trans (K.mono B0.size)
      have hg1 := hg0.below K
      clear B0 hg0 K
      go_wp2_with fail
      refine (C2 _).mono ?_
      rintro e w2 ⟨rfl, K⟩
      have B2 := B1.trans (K.mono B1.size)
      have hg2 := hg1.below K
      clear B1 hg1 K
      go_wp2_with fail
      refine (fixed_any _ hg2).mono ?_
      rintro e w3 ⟨rfl, K⟩
      have B3 := B2.trans (K.mono B2.size)
      have hg3 := hg2.below K
      clear B2 hg2 K
      go_wp2_with fail
      go_ret
      exact ⟨rfl, B3⟩

set_option maxRecDepth 100000 in
/-- WHAT THE WALK GIVES, for every argument that can be read. -/
theorem contract (H : Type) (enc : TypeId × Value → H) (W : World) (base : Nat) (args : Array Value) (ds gs : List (DataW H)) (before : List MemPlace)
    (hval : ∀ (j : Nat) t v, Tryd.f7.params[j]? = some t → args[j]? = some v → Value.okWide Tryd.prog W .any base t v)
    (hW : DataW.Whole enc Tryd.prog Tryd.f7.params.toList Rows.wireLimitsSpec.vars false W args.toList ds gs before)
    (hreach : (DataW.weightsEach Tryd.prog (Tryd.f7.params.toList) ds).all (· ≤ reachBytes) = true) (hg : GE W) :
    Calls Tryd.prog 7 args W fun e W' => ∃ v, e = .returned v ∧ Rows.wireLimitsSpec.post enc Tryd.prog Tryd.f7 false true false false W args v W' := by
  have hW' := hW
  obtain ⟨p, q, hA0, hV, rfl, hfz, hnd⟩ := hW
  have hA : DataW.TrodAll enc Tryd.prog W 0 (fun _ => true) true Tryd.f7.params.toList args.toList ds p := hA0
  rw [Tryd.params7] at hA hval hreach
  obtain ⟨v0, v1, d0, d1, p0, p1, rfl, rfl, rfl, h0, h1⟩ := trodAll_two hA
  obtain ⟨rfl, rfl⟩ := trodVars_none hV
  obtain ⟨n0, rfl, rfl, rfl, wn0⟩ := open_int Tryd.underlying3 (hval 0 3 v0 rfl rfl) h0
  have r0 := int_range wn0
  obtain ⟨s1, rfl, rfl, rfl, ws1⟩ := Go.ChangeMaps.open_string Tryd.underlying9 (hval 1 9 v1 rfl rfl) h1
  have r1 := reach_size (sized_string hreach (j := 1) rfl rfl)
  clear hA0 hval
  simp only [List.append_nil] at hW'
  refine (walk n0 s1 W r0 r1 hg).mono fun e W' ⟨he, hB⟩ => ?_
  subst he
  exact ⟨_, rfl, post_of_below (pa := []) (pv := []) hW' (fun _ _ _ => trodAll_mk1 (shut_bool Tryd.underlying4 _)) (fun _ _ => trodAll_mk2 (shut_int Tryd.underlying3 wn0) (Go.ChangeMaps.shut_string Tryd.underlying9 ws1)) (fun _ _ => rfl) rfl hB (ok_one (by kernel_rfl) rfl (okWide_bool_mk Tryd.underlying4 _))⟩

theorem reads (os : Os) {H : Type} (enc : TypeId × Value → H) : ∃ places, DataW.whole enc Tryd.prog ((laidWorld os).forCall (fun _ _ => 0) ⟨#[], #[.int .i64 0, .string ⟨#[]⟩], []⟩).memory Tryd.f7.params.toList Rows.wireLimitsSpec.vars false (#[.int .i64 0, .string ⟨#[]⟩] : Array Value).toList 8 = some ([.lit (.int .i64 0), .lit (.string [])], [], places) :=
  ⟨[], by kernel_rfl⟩

set_option maxRecDepth 100000 in
theorem lifted (os : Os) (started : os.Started) (H : Type) (enc : TypeId × Value → H) (F : Stop.Interp) :
    ReturnsInHanded {} Tryd.checked os 7 .any ((OpenSpec.ofChange Rows.wireLimitsSpec).preRow enc Tryd.prog Tryd.f7 Rows.wireLimitsRow.domain false Rows.wireLimitsRow.laid) (((OpenSpec.ofChange Rows.wireLimitsSpec).at F).post enc Tryd.prog Tryd.f7 false true false false) := by
  obtain ⟨places, hx⟩ := reads os enc
  refine returnsInHanded_of_row (C := Tryd.checked) (s := OpenSpec.ofChange Rows.wireLimitsSpec) own started (by kernel_rfl) Tryd.func7
    (witness_row_at (enc := enc) (C := Tryd.checked) false (laidWorld os) #[.int .i64 0, .string ⟨#[]⟩] rfl (by kernel_rfl) (by kernel_rfl) (by kernel_rfl)
      (OpenSpec.preRow_of_cond 8 hx (by kernel_rfl) (fun k hk => by cases hk) (by kernel_rfl) (laid_met os _))) ?_
  intro W base args ds gs before hval hW _ hcond hreach hL _ _
  obtain ⟨p, q, hA0, hV, hpq, hfz, hnd⟩ := id hW
  obtain ⟨rfl, _⟩ := trodVars_none hV
  rw [List.append_nil] at hreach
  exact contract H enc W base args ds [] before hval hW hreach (handle_of_laid hL)

theorem said : Rows.WireLimitsSaid :=
  OpenClaim.holds_of_cond 7 Tryd.f7 rfl rfl rfl rfl rfl rfl rfl ⟨rfl, rfl, rfl, rfl, rfl⟩ rfl rfl rfl rfl rfl (by kernel_rfl) Tryd.func7 (by kernel_rfl)
    (of_decide_eq_true (by kernel_rfl)) (by unfold Func.isWrapper; first | (rw [if_pos (by decide +kernel)]; kernel_rfl) | (rw [if_neg (by decide +kernel)]; exact ⟨rfl, rfl⟩))
    (fun os started H enc _ F => by rw [OpenClaim.pre_eq_preRow]; exact lifted os started H enc F)

theorem plain (f : FuncId) (fn : Func) (hf : Tryd.pinned.checked.prog.funcNamed "stillage/stillagelaw03.WireLimits" = some f) (hfn : Tryd.pinned.checked.prog.funcs[f]? = some fn) :
    true = Tryd.pinned.checked.prog.looks [] ∧ ∀ (j : Nat) t, fn.params[j]? = some t → Tryd.pinned.checked.prog.wantsStandIn t = false := by
  obtain rfl : f = 7 := Option.some.inj ((show Tryd.prog.funcNamed "stillage/stillagelaw03.WireLimits" = some 7 by kernel_rfl).symm.trans hf) |>.symm
  obtain rfl : fn = Tryd.f7 := (Option.some.inj (Tryd.func7.symm.trans hfn)).symm
  refine ⟨by kernel_rfl, fun j t ht => ?_⟩
  rw [Tryd.params7] at ht
  have hm : t ∈ [3, 9] := by simpa using Array.mem_of_getElem? ht
  have hall : ([3, 9].all fun u => !Tryd.prog.wantsStandIn u) = true := by kernel_rfl
  exact (show Tryd.prog.wantsStandIn t = false by simpa using List.all_eq_true.1 hall t hm)

/-- THE CARD -/
theorem card : Rows.WireLimitsCardSaid :=
  Claim7.holds_tied_plain_at .later [] _ _ _ _ said (fun _ h => by cases h) (by kernel_rfl) (fun _ h => by cases h) wireLimits_row_tie rfl ⟨rfl, rfl⟩ (by kernel_rfl) rfl plain (by kernel_rfl)

end Go.Proofs.YtmcmhmcihbhmhaaDoor.limits
