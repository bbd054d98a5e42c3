/-
  What was read, laid again, are the bytes that were taken: no other bytes are read as it: for every text.
  Conditions: those of its row (the variable errors.errorType lies as the program's text lays it: the card ties it).
-/
import Derived.Test.YtmcmhmcihbhmhaaDoorWirK
import Derived.Test.YtmcmhmcihbhmhaaDoorWirM
namespace Go.Proofs.YtmcmhmcihbhmhaaDoor.only
open Go.ChangeShapes Go.WideShapes Go.ChangeAt Go.RowKit Go

theorem numW_ok {n : Nat} (h : n ≤ top) : numW n = .tuple #[.string (bs (dg n)), .int .i64 0] := by
  have hb : bad (n : Int) = false := by unfold top at h; simp [bad]; omega
  unfold numW; rw [hb]; rfl
theorem textW_good {l : List UInt8} (h : l.length ≤ 65536) : textW l = .tuple #[.string (bs (dg l.length ++ l)), .int .i64 0] := if_pos h
theorem cut_head (a r : List UInt8) : (bs (a ++ r)).extract 0 (bs a).size = bs a := by
  rw [← bs_self ((bs (a ++ r)).extract 0 (bs a).size), extract_take, bs_list, bs_size, List.take_left]

set_option maxRecDepth 100000 in
set_option maxHeartbeats 4000000 in
theorem walk (s : ByteArray) (w : World) (hs : s.size ≤ 140737488351232) (hg : GE w) :
    Calls Tryd.prog 6 #[.string s] w fun r w' => r = .returned (.bool true) ∧ Below w.heap.size w w' := by
  have hs' : s.data.toList.length ≤ 281474976710656 := by simp; omega
  obtain ⟨n, r1, hp⟩ : ∃ n r1, numR ⟨s.data.toList, 0⟩ 4611686018427387903 = (n, r1) := ⟨_, _, rfl⟩
  have hr1 : r1.rest.length ≤ 281474976710656 := by
    have := numR_rest ⟨s.data.toList, 0⟩ 4611686018427387903
    rw [hp] at this
    exact Nat.le_trans this hs'
  obtain ⟨e0, he0⟩ : ∃ e0, r1.err = e0 := ⟨_, rfl⟩
  have q1 := fun (b : Nat) (hb : b ≠ 0) => qnum_is (b := b) hb hp he0 hs'
  by_cases hz : e0 = 0
  · subst hz
    obtain ⟨hv, ht⟩ := numR_inv hp rfl he0
    have C1 := fun w => wnum_any n w
    rw [numW_ok ht] at C1
    obtain ⟨t, r2, hp2⟩ : ∃ t r2, textR r1 1048576 = (t, r2) := ⟨_, _, rfl⟩
    obtain ⟨f0, hf0⟩ : ∃ f0, r2.err = f0 := ⟨_, rfl⟩
    have hE : s = bs (dg n ++ r1.rest) := by rw [← bs_self s]; exact congrArg bs hv
    have hcut := cut_head (dg n) r1.rest
    rw [← hE] at hcut
    have hsz : s.size = (bs (dg n)).size + r1.rest.length := by rw [hE, bs_size, bs_size, List.length_append]
    by_cases hy : f0 = 0
    · subst hy
      have q2 := fun (b : Nat) (hb : b ≠ 0) => qtext_is (b := b) hb hp2 rfl hf0 hr1
      obtain ⟨hv2, ht2⟩ := textR_inv hp2 he0 hf0
      have C2 := fun w => wtext_any (bs t) (by rw [bs_size]; omega) w
      rw [bs_list, textW_good ht2] at C2
      have hE2 : s = bs ((dg n ++ (dg t.length ++ t)) ++ r2.rest) := by rw [hE, hv2]; simp only [List.append_assoc]
      have hcut2 := cut_head (dg n ++ (dg t.length ++ t)) r2.rest
      rw [← hE2, bs_append, ByteArray.size_append] at hcut2
      have hsz2 : s.size = (bs (dg n)).size + (bs (dg t.length ++ t)).size + r2.rest.length := by rw [hE2, bs_size, bs_size, bs_size, List.length_append, List.length_append]
      have hre : endR r2 = if r2.rest = [] then 0 else 32 := by unfold endR; rw [if_pos hf0]
      have q3 := fun (b : Nat) => qend_is (b := b) (r := r2) hre
      clear hp hp2 hv hv2 hE hE2 he0 hf0 hr1 hre ht ht2
      generalize bs t = T at *
      generalize bs (dg t.length ++ t) = L at *
      generalize bs (dg n) = A at *
      have hA1 : (A.size : Int) ≤ (s.size : Int) := by omega
      have hA2 : (A.size : Int) + (L.size : Int) ≤ (s.size : Int) := by omega
      have hA3 : ((A.size : Int) + (L.size : Int)).toNat = A.size + L.size := by omega
      have nsum : ¬ 9223372036854775807 < A.size + L.size := by omega
      have hA4 : (0 : Int) ≤ (A.size : Int) + (L.size : Int) := by omega
      by_cases hrr : r2.rest = []
      · have hA5 : (((A.size : Int) + (L.size : Int)) == (s.size : Int)) = true := by rw [hrr] at hsz2; simp at hsz2; rw [beq_iff_eq]; omega
        rw [if_pos hrr] at q3
        clear hsz hsz2 hrr hs'
        have B0 := Below.refl w.heap.size w
        have hg0 := hg
        have h0 := hg.lt
        go_enter Tryd.func6, Tryd.ntmps6
        go_wp2_with fail
        refine (rnew_any s _).mono ?_
        rintro e w1 ⟨br, rfl, K2, Hbr1, K⟩
        have B1 := B0.trans (K.mono B0.size)
        have hg1 := hg0.below K
        have bbr : w.heap.size ≤ br := Nat.le_trans B0.size K2
        have zbr : br ≠ 0 := by omega
        clear B0 hg0 K K2
        go_wp2_with fail
        refine (q1 br zbr _ hg1 Hbr1).mono ?_
        rintro e w2 ⟨rfl, K⟩
        have B2 := B1.trans (K.below bbr B1.size)
        have hg2 := hg1.moved K zbr
        have Hbr2 := K.here
        clear B1 hg1 Hbr1 K
        go_wp2_with fail
        refine (q2 br zbr _ hg2 Hbr2).mono ?_
        rintro e w3 ⟨rfl, K⟩
        have B3 := B2.trans (K.below bbr B2.size)
        have hg3 := hg2.moved K zbr
        have Hbr3 := K.here
        clear B2 hg2 Hbr2 K
        go_wp2_with fail
        refine (C1 _).mono ?_
        rintro e w4 ⟨rfl, K⟩
        have B4 := B3.trans (K.mono B3.size)
        have hg4 := hg3.below K
        have Hbr4 := keeps_of K Hbr3
        clear B3 hg3 Hbr3 K
        go_wp2_with fail
        refine (C2 _).mono ?_
        rintro e w5 ⟨rfl, K⟩
        have B5 := B4.trans (K.mono B4.size)
        have hg5 := hg4.below K
        have Hbr5 := keeps_of K Hbr4
        clear B4 hg4 Hbr4 K
        go_wp2_with fail
        refine (fixed_any _ hg5).mono ?_
        rintro e w6 ⟨rfl, K⟩
        have B6 := B5.trans (K.mono B5.size)
        have hg6 := hg5.below K
        have Hbr6 := keeps_of K Hbr5
        clear B5 hg5 Hbr5 K
        go_wp2_with fail
        refine (q3 br _ hg6 Hbr6).mono ?_
        rintro e w7 ⟨rfl, K⟩
        have B7 := B6.trans (K.mono B6.size)
        have hg7 := hg6.below K
        have Hbr7 := keeps_of K Hbr6
        clear B6 hg6 Hbr6 K
        go_wp2_with fail
        go_ret
        exact ⟨rfl, B7⟩
      · have hA5 : (((A.size : Int) + (L.size : Int)) == (s.size : Int)) = false := by
          have : 0 < r2.rest.length := List.length_pos_iff.2 hrr
          rw [beq_eq_false_iff_ne]; omega
        rw [if_neg hrr] at q3
        clear hsz hsz2 hrr hs'
        have B0 := Below.refl w.heap.size w
        have hg0 := hg
        have h0 := hg.lt
        go_enter Tryd.func6, Tryd.ntmps6
        go_wp2_with fail
        refine (rnew_any s _).mono ?_
        rintro e w1 ⟨br, rfl, K2, Hbr1, K⟩
        have B1 := B0.trans (K.mono B0.size)
        have hg1 := hg0.below K
        have bbr : w.heap.size ≤ br := Nat.le_trans B0.size K2
        have zbr : br ≠ 0 := by omega
        clear B0 hg0 K K2
        go_wp2_with fail
        refine (q1 br zbr _ hg1 Hbr1).mono ?_
        rintro e w2 ⟨rfl, K⟩
        have B2 := B1.trans (K.below bbr B1.size)
        have hg2 := hg1.moved K zbr
        have Hbr2 := K.here
        clear B1 hg1 Hbr1 K
        go_wp2_with fail
        refine (q2 br zbr _ hg2 Hbr2).mono ?_
        rintro e w3 ⟨rfl, K⟩
        have B3 := B2.trans (K.below bbr B2.size)
        have hg3 := hg2.moved K zbr
        have Hbr3 := K.here
        clear B2 hg2 Hbr2 K
        go_wp2_with fail
        refine (C1 _).mono ?_
        rintro e w4 ⟨rfl, K⟩
        have B4 := B3.trans (K.mono B3.size)
        have hg4 := hg3.below K
        have Hbr4 := keeps_of K Hbr3
        clear B3 hg3 Hbr3 K
        go_wp2_with fail
        refine (C2 _).mono ?_
        rintro e w5 ⟨rfl, K⟩
        have B5 := B4.trans (K.mono B4.size)
        have hg5 := hg4.below K
        have Hbr5 := keeps_of K Hbr4
        clear B4 hg4 Hbr4 K
        go_wp2_with fail
        refine (fixed_any _ hg5).mono ?_
        rintro e w6 ⟨rfl, K⟩
        have B6 := B5.trans (K.mono B5.size)
        have hg6 := hg5.below K
        have Hbr6 := keeps_of K Hbr5
        clear B5 hg5 Hbr5 K
        go_wp2_with fail
        refine (q3 br _ hg6 Hbr6).mono ?_
        rintro e w7 ⟨rfl, K⟩
        have B7 := B6.trans (K.mono B6.size)
        have hg7 := hg6.below K
        have Hbr7 := keeps_of K Hbr6
        clear B6 hg6 Hbr6 K
        go_wp2_with fail
        go_ret
        exact ⟨rfl, B7⟩
    · have hy' : r2.err ≠ 0 := by rw [hf0]; exact hy
      obtain rfl := textR_bad hp2 hy'
      have q2 := fun (b : Nat) (hb : b ≠ 0) => qtext_is (b := b) hb hp2 (show bs [] = ⟨#[]⟩ from rfl) hf0 hr1
      have hyb : (f0 == 0) = false := beq_eq_false_iff_ne.2 hy
      clear hp hp2 hv hE he0 hf0 hr1 ht hy'
      generalize bs (dg n) = A at *
      have hA1 : (A.size : Int) ≤ (s.size : Int) := by omega
      clear hsz hs'
      have B0 := Below.refl w.heap.size w
      have hg0 := hg
      have h0 := hg.lt
      go_enter Tryd.func6, Tryd.ntmps6
      go_wp2_with fail
      refine (rnew_any s _).mono ?_
      rintro e w1 ⟨br, rfl, K2, Hbr1, K⟩
      have B1 := B0.trans (K.mono B0.size)
      have hg1 := hg0.below K
      have bbr : w.heap.size ≤ br := Nat.le_trans B0.size K2
      have zbr : br ≠ 0 := by omega
      clear B0 hg0 K K2
      go_wp2_with fail
      refine (q1 br zbr _ hg1 Hbr1).mono ?_
      rintro e w2 ⟨rfl, K⟩
      have B2 := B1.trans (K.below bbr B1.size)
      have hg2 := hg1.moved K zbr
      have Hbr2 := K.here
      clear B1 hg1 Hbr1 K
      go_wp2_with fail
      refine (q2 br zbr _ hg2 Hbr2).mono ?_
      rintro e w3 ⟨rfl, K⟩
      have B3 := B2.trans (K.below bbr B2.size)
      have hg3 := hg2.moved K zbr
      have Hbr3 := K.here
      clear B2 hg2 Hbr2 K
      go_wp2_with fail
      refine (C1 _).mono ?_
      rintro e w4 ⟨rfl, K⟩
      have B4 := B3.trans (K.mono B3.size)
      have hg4 := hg3.below K
      have Hbr4 := keeps_of K Hbr3
      clear B3 hg3 Hbr3 K
      go_wp2_with fail
      refine (fixed_any _ hg4).mono ?_
      rintro e w5 ⟨rfl, K⟩
      have B5 := B4.trans (K.mono B4.size)
      have hg5 := hg4.below K
      have Hbr5 := keeps_of K Hbr4
      clear B4 hg4 Hbr4 K
      go_wp2_with fail
      go_ret
      exact ⟨rfl, B5⟩
  · have hz' : r1.err ≠ 0 := by rw [he0]; exact hz
    obtain rfl := numR_bad hp hz'
    have hzb : (e0 == 0) = false := beq_eq_false_iff_ne.2 hz
    clear hr1 hp he0 hz' hs'
    have B0 := Below.refl w.heap.size w
    have hg0 := hg
    have h0 := hg.lt
    go_enter Tryd.func6, Tryd.ntmps6
    go_wp2_with fail
    refine (rnew_any s _).mono ?_
    rintro e w1 ⟨br, rfl, K2, Hbr1, K⟩
    have B1 := B0.trans (K.mono B0.size)
    have hg1 := hg0.below K
    have bbr : w.heap.size ≤ br := Nat.le_trans B0.size K2
    have zbr : br ≠ 0 := by omega
    clear B0 hg0 K K2
    go_wp2_with fail
    refine (q1 br zbr _ hg1 Hbr1).mono ?_
    rintro e w2 ⟨rfl, K⟩
    have B2 := B1.trans (K.below bbr B1.size)
    have hg2 := hg1.moved K zbr
    have Hbr2 := K.here
    clear B1 hg1 Hbr1 K
    go_wp2_with fail
    refine (fixed_any _ hg2).mono ?_
    rintro e w3 ⟨rfl, K⟩
    have B3 := B2.trans (K.mono B2.size)
    have hg3 := hg2.below K
    have Hbr3 := keeps_of K Hbr2
    clear B2 hg2 Hbr2 K
    go_wp2_with fail
    go_ret
    exact ⟨rfl, B3⟩

set_option maxRecDepth 100000 in
/-- WHAT THE WALK GIVES, for every argument that can be read. -/
theorem contract (H : Type) (enc : TypeId × Value → H) (W : World) (base : Nat) (args : Array Value) (ds gs : List (DataW H)) (before : List MemPlace)
    (hval : ∀ (j : Nat) t v, Tryd.f6.params[j]? = some t → args[j]? = some v → Value.okWide Tryd.prog W .any base t v)
    (hW : DataW.Whole enc Tryd.prog Tryd.f6.params.toList Rows.wireOnlySpec.vars false W args.toList ds gs before)
    (hreach : (DataW.weightsEach Tryd.prog (Tryd.f6.params.toList) ds).all (· ≤ reachBytes) = true) (hg : GE W) :
    Calls Tryd.prog 6 args W fun e W' => ∃ v, e = .returned v ∧ Rows.wireOnlySpec.post enc Tryd.prog Tryd.f6 false true false false W args v W' := by
  have hW' := hW
  obtain ⟨p, q, hA0, hV, rfl, hfz, hnd⟩ := hW
  have hA : DataW.TrodAll enc Tryd.prog W 0 (fun _ => true) true Tryd.f6.params.toList args.toList ds p := hA0
  rw [Tryd.params6] at hA hval hreach
  obtain ⟨v0, d0, rfl, rfl, h0⟩ := trodAll_one hA
  obtain ⟨rfl, rfl⟩ := trodVars_none hV
  obtain ⟨s0, rfl, rfl, rfl, ws0⟩ := Go.ChangeMaps.open_string Tryd.underlying9 (hval 0 9 v0 rfl rfl) h0
  have r0 := reach_size (sized_string hreach (j := 0) rfl rfl)
  clear hA0 hval
  simp only [List.append_nil] at hW'
  refine (walk s0 W r0 hg).mono fun e W' ⟨he, hB⟩ => ?_
  subst he
  exact ⟨_, rfl, post_of_below (pa := []) (pv := []) hW' (fun _ _ _ => trodAll_mk1 (shut_bool Tryd.underlying4 _)) (fun _ _ => trodAll_mk1 (Go.ChangeMaps.shut_string Tryd.underlying9 ws0)) (fun _ _ => rfl) rfl hB (ok_one (by kernel_rfl) rfl (okWide_bool_mk Tryd.underlying4 _))⟩

theorem reads (os : Os) {H : Type} (enc : TypeId × Value → H) : ∃ places, DataW.whole enc Tryd.prog ((laidWorld os).forCall (fun _ _ => 0) ⟨#[], #[.string ⟨#[]⟩], []⟩).memory Tryd.f6.params.toList Rows.wireOnlySpec.vars false (#[.string ⟨#[]⟩] : Array Value).toList 8 = some ([.lit (.string [])], [], places) :=
  ⟨[], by kernel_rfl⟩

set_option maxRecDepth 100000 in
theorem lifted (os : Os) (started : os.Started) (H : Type) (enc : TypeId × Value → H) (F : Stop.Interp) :
    ReturnsInHanded {} Tryd.checked os 6 .any ((OpenSpec.ofChange Rows.wireOnlySpec).preRow enc Tryd.prog Tryd.f6 Rows.wireOnlyRow.domain false Rows.wireOnlyRow.laid) (((OpenSpec.ofChange Rows.wireOnlySpec).at F).post enc Tryd.prog Tryd.f6 false true false false) := by
  obtain ⟨places, hx⟩ := reads os enc
  refine returnsInHanded_of_row (C := Tryd.checked) (s := OpenSpec.ofChange Rows.wireOnlySpec) own started (by kernel_rfl) Tryd.func6
    (witness_row_at (enc := enc) (C := Tryd.checked) false (laidWorld os) #[.string ⟨#[]⟩] rfl (by kernel_rfl) (by kernel_rfl) (by kernel_rfl)
      (OpenSpec.preRow_of_cond 8 hx (by kernel_rfl) (fun k hk => by cases hk) (by kernel_rfl) (laid_met os _))) ?_
  intro W base args ds gs before hval hW _ hcond hreach hL _ _
  obtain ⟨p, q, hA0, hV, hpq, hfz, hnd⟩ := id hW
  obtain ⟨rfl, _⟩ := trodVars_none hV
  rw [List.append_nil] at hreach
  exact contract H enc W base args ds [] before hval hW hreach (handle_of_laid hL)

theorem said : Rows.WireOnlySaid :=
  OpenClaim.holds_of_cond 6 Tryd.f6 rfl rfl rfl rfl rfl rfl rfl ⟨rfl, rfl, rfl, rfl, rfl⟩ rfl rfl rfl rfl rfl (by kernel_rfl) Tryd.func6 (by kernel_rfl)
    (of_decide_eq_true (by kernel_rfl)) (by unfold Func.isWrapper; first | (rw [if_pos (by decide +kernel)]; kernel_rfl) | (rw [if_neg (by decide +kernel)]; exact ⟨rfl, rfl⟩))
    (fun os started H enc _ F => by rw [OpenClaim.pre_eq_preRow]; exact lifted os started H enc F)

theorem plain (f : FuncId) (fn : Func) (hf : Tryd.pinned.checked.prog.funcNamed "stillage/stillagelaw03.WireOnly" = some f) (hfn : Tryd.pinned.checked.prog.funcs[f]? = some fn) :
    true = Tryd.pinned.checked.prog.looks [] ∧ ∀ (j : Nat) t, fn.params[j]? = some t → Tryd.pinned.checked.prog.wantsStandIn t = false := by
  obtain rfl : f = 6 := Option.some.inj ((show Tryd.prog.funcNamed "stillage/stillagelaw03.WireOnly" = some 6 by kernel_rfl).symm.trans hf) |>.symm
  obtain rfl : fn = Tryd.f6 := (Option.some.inj (Tryd.func6.symm.trans hfn)).symm
  refine ⟨by kernel_rfl, fun j t ht => ?_⟩
  rw [Tryd.params6] at ht
  have hm : t ∈ [9] := by simpa using Array.mem_of_getElem? ht
  have hall : ([9].all fun u => !Tryd.prog.wantsStandIn u) = true := by kernel_rfl
  exact (show Tryd.prog.wantsStandIn t = false by simpa using List.all_eq_true.1 hall t hm)

/-- THE CARD -/
theorem card : Rows.WireOnlyCardSaid :=
  Claim7.holds_tied_plain_at .later [] _ _ _ _ said (fun _ h => by cases h) (by kernel_rfl) (fun _ h => by cases h) wireOnly_row_tie rfl ⟨rfl, rfl⟩ (by kernel_rfl) rfl plain (by kernel_rfl)

end Go.Proofs.YtmcmhmcihbhmhaaDoor.only
