/-
  A number's or a text's bytes, cut short anywhere, are refused for their end: for every number, every text (of which the first three hundred bytes are taken) and every place.
  Conditions: those of its row (the variable errors.errorType lies as the program's text lays it: the card ties it).
-/
import Derived.Test.YtmcmhmcihbhmhaaDoorWirK
import Derived.Test.YtmcmhmcihbhmhaaDoorWirM
namespace Go.Proofs.YtmcmhmcihbhmhaaDoor.cut
open Go.ChangeShapes Go.WideShapes Go.ChangeAt Go.RowKit Go

theorem numW_bad {n : Int} (h : bad n = true) : numW n = .tuple #[.string ⟨#[]⟩, .int .i64 31] := by unfold numW; rw [h]; rfl
theorem numW_good {n : Nat} (h : bad n = false) : numW n = .tuple #[.string (bs (dg n)), .int .i64 0] := by unfold numW; rw [h]; rfl
theorem textW_good {l : List UInt8} (h : l.length ≤ 65536) : textW l = .tuple #[.string (bs (dg l.length ++ l)), .int .i64 0] := if_pos h
theorem cut300 (s : ByteArray) : ∃ k : Nat, k ≤ s.size ∧ k ≤ 300 ∧ (if (300 : Int) < (s.size : Int) then (300 : Int) else (s.size : Int)) = (k : Int) ∧ min (s.size : Int) 300 = (k : Int) := by
  by_cases h : (300 : Int) < (s.size : Int)
  · exact ⟨300, by omega, by omega, by rw [if_pos h]; rfl, by omega⟩
  · exact ⟨s.size, by omega, by omega, by rw [if_neg h], by omega⟩
/-- the first bytes of a text -/
theorem cut_at (A : ByteArray) (l : List UInt8) (hA : A = bs l) (j : Nat) : A.extract 0 j = bs (l.take j) := by
  subst hA
  rw [← bs_self ((bs l).extract 0 j), extract_take, bs_list]
/-- a place in a text, by its length -/
theorem rem_at (z k : Nat) (h : 0 < k) : ∃ j : Nat, j < k ∧ (z : Int) % (k : Int) = (j : Int) ∧ (z : Int).tmod (k : Int) = (j : Int) := by
  refine ⟨z % k, Nat.mod_lt _ h, by omega, ?_⟩
  rw [Int.tmod_eq_emod_of_nonneg (by omega)]; omega

set_option maxRecDepth 100000 in
set_option maxHeartbeats 4000000 in
theorem walk (n : Int) (s : ByteArray) (m : Int) (w : World) (_hn : -9223372036854775808 ≤ n ∧ n ≤ 9223372036854775807) (_hs : s.size ≤ 140737488351232) (_hm : -9223372036854775808 ≤ m ∧ m ≤ 9223372036854775807) (hg : GE w) :
    Calls Tryd.prog 8 #[.int .i64 n, .string s, .int .i64 m] w fun r w' => r = .returned (.bool true) ∧ Below w.heap.size w w' := by
  obtain ⟨c, hc1, hc2, hm1, hm2⟩ := cut300 s
  obtain ⟨z, hz, hz2⟩ := and_low m
  have C1 := fun w => wnum_any n w
  have hp : (s.extract 0 c).size ≤ 300 := by simp; omega
  have hci : (c : Int) ≤ (s.size : Int) := by omega
  obtain ⟨p, ep⟩ : ∃ p, s.extract 0 c = p := ⟨_, rfl⟩
  rw [ep] at hp
  have hpl : p.data.toList.length ≤ 300 := by simpa using hp
  have C2 := fun w => wtext_any p (by omega) w
  rw [textW_good (by omega)] at C2
  have hd := dg_9 (n := p.data.toList.length) (by omega)
  have hd1 := dg_pos p.data.toList.length
  have hBs : (bs (dg p.data.toList.length ++ p.data.toList)).size = (dg p.data.toList.length ++ p.data.toList).length := bs_size _
  have hBl : (dg p.data.toList.length ++ p.data.toList).length = (dg p.data.toList.length).length + p.data.toList.length := List.length_append
  obtain ⟨j, hj, hj1, hj2⟩ := rem_at z (bs (dg p.data.toList.length ++ p.data.toList)).size (by omega)
  obtain ⟨r0, ht⟩ := textR_cut (l := p.data.toList) (m := 1048576) (j := j) (by omega) (by omega) (by omega)
  have hX := cut_at _ _ (rfl : bs (dg p.data.toList.length ++ p.data.toList) = _) j
  have q1 : ∀ (b : Nat), b ≠ 0 → ∀ w : World, GE w → w.heap[b]? = some (RObj ((bs (dg p.data.toList.length ++ p.data.toList)).extract 0 j) 0) → Calls Tryd.prog 21 #[.pointer (some ⟨b, 0, none⟩), .int .i64 1048576] w fun v w' => v = .returned (.tuple #[.string ⟨#[]⟩, .int .i64 32]) ∧ Moved b (RO ⟨r0, 32⟩) w w' := fun b hb w hg H => by
    rw [hX] at H
    exact qtext_is hb ht (show bs [] = ⟨#[]⟩ from rfl) rfl (by show (List.take _ _).length ≤ _; rw [List.length_take]; omega) w hg H
  have hB1 : (0 : Int) < ((bs (dg p.data.toList.length ++ p.data.toList)).size : Int) := by omega
  have hB2 : (((bs (dg p.data.toList.length ++ p.data.toList)).size : Int) == 0) = false := beq_eq_false_iff_ne.2 (by omega)
  have hB3 : (j : Int) ≤ ((bs (dg p.data.toList.length ++ p.data.toList)).size : Int) := by omega
  clear hpl hd hd1 hBs hBl ht hX hj hc1 hc2 hp
  generalize bs (dg p.data.toList.length ++ p.data.toList) = B at *
  obtain ⟨X, hX⟩ : ∃ X, B.extract 0 j = X := ⟨_, rfl⟩
  rw [hX] at q1
  cases hb : bad n with
  | true =>
    rw [numW_bad hb] at C1
    clear hb
    have B0 := Below.refl w.heap.size w
    have hg0 := hg
    have h0 := hg.lt
    go_enter Tryd.func8, Tryd.ntmps8
    go_wp2_with fail
    refine (C1 _).mono ?_
    rintro e w1 ⟨rfl, K⟩
    have B1 := B0.trans (K.mono B0.size)
    have hg1 := hg0.below K
    clear B0 hg0 K
    go_wp2_with fail
    refine (C2 _).mono ?_
    rintro e w2 ⟨rfl, K⟩
    have B2 := B1.trans (K.mono B1.size)
    have hg2 := hg1.below K
    clear B1 hg1 K
    go_wp2_with fail
    refine (rnew_any X _).mono ?_
    rintro e w3 ⟨br, rfl, K2, Hbr3, K⟩
    have B3 := B2.trans (K.mono B2.size)
    have hg3 := hg2.below K
    have bbr : w.heap.size ≤ br := Nat.le_trans B2.size K2
    have zbr : br ≠ 0 := by omega
    clear B2 hg2 K K2
    go_wp2_with fail
    refine (q1 br zbr _ hg3 Hbr3).mono ?_
    rintro e w4 ⟨rfl, K⟩
    have B4 := B3.trans (K.below bbr B3.size)
    have hg4 := hg3.moved K zbr
    have Hbr4 := K.here
    clear B3 hg3 Hbr3 K
    go_wp2_with fail
    refine (qend_is (r := ⟨r0, 32⟩) rfl _ hg4 Hbr4).mono ?_
    rintro e w5 ⟨rfl, K⟩
    have B5 := B4.trans (K.mono B4.size)
    have hg5 := hg4.below K
    have Hbr5 := keeps_of K Hbr4
    clear B4 hg4 Hbr4 K
    go_wp2_with fail
    refine (fixed_any _ hg5).mono ?_
    rintro e w6 ⟨rfl, K⟩
    have B6 := B5.trans (K.mono B5.size)
    have hg6 := hg5.below K
    have Hbr6 := keeps_of K Hbr5
    clear B5 hg5 Hbr5 K
    go_wp2_with fail
    go_ret
    exact ⟨rfl, B6⟩
  | false =>
    obtain ⟨h1, h2⟩ := good_of hb
    obtain ⟨N, rfl⟩ := Int.eq_ofNat_of_zero_le h1
    rw [numW_good hb] at C1
    clear hb
    have hd := dg_9 (n := N) (by omega)
    have hd1 := dg_pos N
    have hAs : (bs (dg N)).size = (dg N).length := bs_size _
    obtain ⟨k, hk, hk1, hk2⟩ := rem_at z (bs (dg N)).size (by omega)
    have ht := numR_cut (m := 4611686018427387903) (n := N) (j := k) (by omega) (by omega)
    have hY := cut_at _ _ (rfl : bs (dg N) = _) k
    have q2 : ∀ (b : Nat), b ≠ 0 → ∀ w : World, GE w → w.heap[b]? = some (RObj ((bs (dg N)).extract 0 k) 0) → Calls Tryd.prog 19 #[.pointer (some ⟨b, 0, none⟩), .int .i64 4611686018427387903] w fun v w' => v = .returned (.tuple #[.int .i64 (0 : Nat), .int .i64 32]) ∧ Moved b (RO ⟨(dg N).take k, 32⟩) w w' := fun b hb w hg H => by
      rw [hY] at H
      exact qnum_is hb ht rfl (by show (List.take _ _).length ≤ _; rw [List.length_take]; omega) w hg H
    have hA1 : (0 : Int) < ((bs (dg N)).size : Int) := by omega
    have hA2 : (((bs (dg N)).size : Int) == 0) = false := beq_eq_false_iff_ne.2 (by omega)
    have hA3 : (k : Int) ≤ ((bs (dg N)).size : Int) := by omega
    clear hd hd1 hAs ht hY hk h1 h2 _hn
    generalize bs (dg N) = A at *
    obtain ⟨Y, hY⟩ : ∃ Y, A.extract 0 k = Y := ⟨_, rfl⟩
    rw [hY] at q2
    have B0 := Below.refl w.heap.size w
    have hg0 := hg
    have h0 := hg.lt
    go_enter Tryd.func8, Tryd.ntmps8
    go_wp2_with fail
    refine (C1 _).mono ?_
    rintro e w1 ⟨rfl, K⟩
    have B1 := B0.trans (K.mono B0.size)
    have hg1 := hg0.below K
    clear B0 hg0 K
    go_wp2_with fail
    refine (C2 _).mono ?_
    rintro e w2 ⟨rfl, K⟩
    have B2 := B1.trans (K.mono B1.size)
    have hg2 := hg1.below K
    clear B1 hg1 K
    go_wp2_with fail
    refine (rnew_any X _).mono ?_
    rintro e w3 ⟨br, rfl, K2, Hbr3, K⟩
    have B3 := B2.trans (K.mono B2.size)
    have hg3 := hg2.below K
    have bbr : w.heap.size ≤ br := Nat.le_trans B2.size K2
    have zbr : br ≠ 0 := by omega
    clear B2 hg2 K K2
    go_wp2_with fail
    refine (q1 br zbr _ hg3 Hbr3).mono ?_
    rintro e w4 ⟨rfl, K⟩
    have B4 := B3.trans (K.below bbr B3.size)
    have hg4 := hg3.moved K zbr
    have Hbr4 := K.here
    clear B3 hg3 Hbr3 K
    go_wp2_with fail
    refine (qend_is (r := ⟨r0, 32⟩) rfl _ hg4 Hbr4).mono ?_
    rintro e w5 ⟨rfl, K⟩
    have B5 := B4.trans (K.mono B4.size)
    have hg5 := hg4.below K
    have Hbr5 := keeps_of K Hbr4
    clear B4 hg4 Hbr4 K
    go_wp2_with fail
    refine (rnew_any Y _).mono ?_
    rintro e w6 ⟨bq, rfl, K2, Hbq6, K⟩
    have B6 := B5.trans (K.mono B5.size)
    have hg6 := hg5.below K
    have bbq : w.heap.size ≤ bq := Nat.le_trans B5.size K2
    have zbq : bq ≠ 0 := by omega
    have dbrbq : br ≠ bq := by have := lt_of_heap Hbr5; omega
    have dbqbr : bq ≠ br := Ne.symm dbrbq
    have Hbr6 := keeps_of K Hbr5
    clear B5 hg5 Hbr5 K K2
    go_wp2_with fail
    refine (q2 bq zbq _ hg6 Hbq6).mono ?_
    rintro e w7 ⟨rfl, K⟩
    have B7 := B6.trans (K.below bbq B6.size)
    have hg7 := hg6.moved K zbq
    have Hbq7 := K.here
    have Hbr7 := K.other Hbr6 dbrbq
    clear B6 hg6 Hbr6 Hbq6 K
    go_wp2_with fail
    refine (fixed_any _ hg7).mono ?_
    rintro e w8 ⟨rfl, K⟩
    have B8 := B7.trans (K.mono B7.size)
    have hg8 := hg7.below K
    have Hbr8 := keeps_of K Hbr7
    have Hbq8 := keeps_of K Hbq7
    clear B7 hg7 Hbr7 Hbq7 K
    go_wp2_with fail
    go_ret
    exact ⟨rfl, B8⟩

set_option maxRecDepth 100000 in
/-- WHAT THE WALK GIVES, for every argument that can be read. -/
theorem contract (H : Type) (enc : TypeId × Value → H) (W : World) (base : Nat) (args : Array Value) (ds gs : List (DataW H)) (before : List MemPlace)
    (hval : ∀ (j : Nat) t v, Tryd.f8.params[j]? = some t → args[j]? = some v → Value.okWide Tryd.prog W .any base t v)
    (hW : DataW.Whole enc Tryd.prog Tryd.f8.params.toList Rows.wireCutSpec.vars false W args.toList ds gs before)
    (hreach : (DataW.weightsEach Tryd.prog (Tryd.f8.params.toList) ds).all (· ≤ reachBytes) = true) (hg : GE W) :
    Calls Tryd.prog 8 args W fun e W' => ∃ v, e = .returned v ∧ Rows.wireCutSpec.post enc Tryd.prog Tryd.f8 false true false false W args v W' := by
  have hW' := hW
  obtain ⟨p, q, hA0, hV, rfl, hfz, hnd⟩ := hW
  have hA : DataW.TrodAll enc Tryd.prog W 0 (fun _ => true) true Tryd.f8.params.toList args.toList ds p := hA0
  rw [Tryd.params8] at hA hval hreach
  obtain ⟨v0, v1, v2, d0, d1, d2, p0, p1, p2, rfl, rfl, rfl, h0, h1, h2⟩ := trodAll_three hA
  obtain ⟨rfl, rfl⟩ := trodVars_none hV
  obtain ⟨n0, rfl, rfl, rfl, wn0⟩ := open_int Tryd.underlying3 (hval 0 3 v0 rfl rfl) h0
  have r0 := int_range wn0
  obtain ⟨s1, rfl, rfl, rfl, ws1⟩ := Go.ChangeMaps.open_string Tryd.underlying9 (hval 1 9 v1 rfl rfl) h1
  have r1 := reach_size (sized_string hreach (j := 1) rfl rfl)
  obtain ⟨n2, rfl, rfl, rfl, wn2⟩ := open_int Tryd.underlying3 (hval 2 3 v2 rfl rfl) h2
  have r2 := int_range wn2
  clear hA0 hval
  simp only [List.append_nil] at hW'
  refine (walk n0 s1 n2 W r0 r1 r2 hg).mono fun e W' ⟨he, hB⟩ => ?_
  subst he
  exact ⟨_, rfl, post_of_below (pa := []) (pv := []) hW' (fun _ _ _ => trodAll_mk1 (shut_bool Tryd.underlying4 _)) (fun _ _ => trodAll_mk3 (shut_int Tryd.underlying3 wn0) (Go.ChangeMaps.shut_string Tryd.underlying9 ws1) (shut_int Tryd.underlying3 wn2)) (fun _ _ => rfl) rfl hB (ok_one (by kernel_rfl) rfl (okWide_bool_mk Tryd.underlying4 _))⟩

theorem reads (os : Os) {H : Type} (enc : TypeId × Value → H) : ∃ places, DataW.whole enc Tryd.prog ((laidWorld os).forCall (fun _ _ => 0) ⟨#[], #[.int .i64 0, .string ⟨#[]⟩, .int .i64 0], []⟩).memory Tryd.f8.params.toList Rows.wireCutSpec.vars false (#[.int .i64 0, .string ⟨#[]⟩, .int .i64 0] : Array Value).toList 8 = some ([.lit (.int .i64 0), .lit (.string []), .lit (.int .i64 0)], [], places) :=
  ⟨[], by kernel_rfl⟩

set_option maxRecDepth 100000 in
theorem lifted (os : Os) (started : os.Started) (H : Type) (enc : TypeId × Value → H) (F : Stop.Interp) :
    ReturnsInHanded {} Tryd.checked os 8 .any ((OpenSpec.ofChange Rows.wireCutSpec).preRow enc Tryd.prog Tryd.f8 Rows.wireCutRow.domain false Rows.wireCutRow.laid) (((OpenSpec.ofChange Rows.wireCutSpec).at F).post enc Tryd.prog Tryd.f8 false true false false) := by
  obtain ⟨places, hx⟩ := reads os enc
  refine returnsInHanded_of_row (C := Tryd.checked) (s := OpenSpec.ofChange Rows.wireCutSpec) own started (by kernel_rfl) Tryd.func8
    (witness_row_at (enc := enc) (C := Tryd.checked) false (laidWorld os) #[.int .i64 0, .string ⟨#[]⟩, .int .i64 0] rfl (by kernel_rfl) (by kernel_rfl) (by kernel_rfl)
      (OpenSpec.preRow_of_cond 8 hx (by kernel_rfl) (fun k hk => by cases hk) (by kernel_rfl) (laid_met os _))) ?_
  intro W base args ds gs before hval hW _ hcond hreach hL _ _
  obtain ⟨p, q, hA0, hV, hpq, hfz, hnd⟩ := id hW
  obtain ⟨rfl, _⟩ := trodVars_none hV
  rw [List.append_nil] at hreach
  exact contract H enc W base args ds [] before hval hW hreach (handle_of_laid hL)

theorem said : Rows.WireCutSaid :=
  OpenClaim.holds_of_cond 8 Tryd.f8 rfl rfl rfl rfl rfl rfl rfl ⟨rfl, rfl, rfl, rfl, rfl⟩ rfl rfl rfl rfl rfl (by kernel_rfl) Tryd.func8 (by kernel_rfl)
    (of_decide_eq_true (by kernel_rfl)) (by unfold Func.isWrapper; first | (rw [if_pos (by decide +kernel)]; kernel_rfl) | (rw [if_neg (by decide +kernel)]; exact ⟨rfl, rfl⟩))
    (fun os started H enc _ F => by rw [OpenClaim.pre_eq_preRow]; exact lifted os started H enc F)

theorem plain (f : FuncId) (fn : Func) (hf : Tryd.pinned.checked.prog.funcNamed "stillage/stillagelaw03.WireCut" = some f) (hfn : Tryd.pinned.checked.prog.funcs[f]? = some fn) :
    true = Tryd.pinned.checked.prog.looks [] ∧ ∀ (j : Nat) t, fn.params[j]? = some t → Tryd.pinned.checked.prog.wantsStandIn t = false := by
  obtain rfl : f = 8 := Option.some.inj ((show Tryd.prog.funcNamed "stillage/stillagelaw03.WireCut" = some 8 by kernel_rfl).symm.trans hf) |>.symm
  obtain rfl : fn = Tryd.f8 := (Option.some.inj (Tryd.func8.symm.trans hfn)).symm
  refine ⟨by kernel_rfl, fun j t ht => ?_⟩
  rw [Tryd.params8] at ht
  have hm : t ∈ [3, 9, 3] := by simpa using Array.mem_of_getElem? ht
  have hall : ([3, 9, 3].all fun u => !Tryd.prog.wantsStandIn u) = true := by kernel_rfl
  exact (show Tryd.prog.wantsStandIn t = false by simpa using List.all_eq_true.1 hall t hm)

/-- THE CARD -/
theorem card : Rows.WireCutCardSaid :=
  Claim7.holds_tied_plain_at .later [] _ _ _ _ said (fun _ h => by cases h) (by kernel_rfl) (fun _ h => by cases h) wireCut_row_tie rfl ⟨rfl, rfl⟩ (by kernel_rfl) rfl plain (by kernel_rfl)

end Go.Proofs.YtmcmhmcihbhmhaaDoor.cut
