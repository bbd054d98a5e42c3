/-
  SetsBack: for every text and every number the law returns true; each argument reads behind the call as it read before. Conditions: those of its row (the two tables of unicode/utf8 lie as the program's text lays them: the card ties them).
-/
import Derived.Test.YtoafojddochcgaaDoorSetsG1
import Derived.BigQuiet
import Derived.Deep.QuietTactic
import Derived.IntWalk
namespace Go.Proofs.YtoafojddochcgaaDoor.setsBack
open Go.ChangeShapes Go.WideShapes Go.ChangeAt Go.RowKit Go SM

theorem mem_toInts (l : List Nat) (m : Nat) : (m : Int) ∈ toInts l ↔ m ∈ l := by
  simp only [toInts, List.mem_map]
  constructor
  · rintro ⟨a, ha, e⟩
    have : a = m := by omega
    rw [← this]; exact ha
  · intro h
    exact ⟨m, h, rfl⟩
theorem bit_lt {l : List UInt8} {n : Nat} (h : bit l n = true) : n < 8 * l.length := by
  rcases Nat.lt_or_ge (n / 8) l.length with h2 | h2
  · omega
  · rw [bit_ge h2] at h; cases h
theorem ok_nums (l : List UInt8) (h : l.length ≤ 3000) : okI (toInts (nums l 0)) = true := by
  unfold okI
  rw [List.all_eq_true]
  intro z hz
  simp only [toInts, List.mem_map] at hz
  obtain ⟨n, hn, rfl⟩ := hz
  have := bit_lt (mem_nums.1 hn).2
  simp; omega
theorem of_nums (l : List UInt8) (h : l.length ≤ 3000) : ofL (toInts (nums l 0)) = least l :=
  (ofL_eq (ok_nums l h) fun m => by
    rw [Bool.eq_iff_iff, decide_eq_true_eq, mem_toInts, mem_nums]
    exact ⟨fun h => ⟨Nat.zero_le _, h⟩, fun h => h.2⟩).symm
theorem orB_nil (S : ByteArray) : orB S ⟨#[]⟩ = bs (least S.data.toList) := by
  unfold orB; rw [show (⟨#[]⟩ : ByteArray).data.toList = [] from rfl, mk_or_nil]
/-- has n been met among the first k numbers? -/
def met (ns : List Nat) (n : Int) (k : Nat) : Bool := (ns.take k).any fun m => (m : Int) == n
theorem met_succ (ns : List Nat) (n : Int) (k : Nat) (h : k < ns.length) : met ns n (k + 1) = (met ns n k || ((ns[k] : Nat) : Int) == n) := by
  unfold met
  rw [List.take_succ_eq_append_getElem h, List.any_append]; simp
theorem met_all (l : List UInt8) (n : Int) : met (nums l 0) n (nums l 0).length = bitI l n := by
  unfold met
  rw [List.take_length, Bool.eq_iff_iff, List.any_eq_true]
  simp only [bitI, Bool.and_eq_true, decide_eq_true_eq, beq_iff_eq]
  constructor
  · rintro ⟨m, hm, rfl⟩
    exact ⟨by omega, by rw [Int.toNat_natCast]; exact (mem_nums.1 hm).2⟩
  · rintro ⟨h1, h2⟩
    exact ⟨n.toNat, mem_nums.2 ⟨Nat.zero_le _, h2⟩, by omega⟩

set_option maxRecDepth 100000 in
set_option maxHeartbeats 8000000 in
theorem walk (s : ByteArray) (n : Int) (w : World) (hs : s.size ≤ 140737488351232) (hn : -9223372036854775808 ≤ n ∧ n ≤ 9223372036854775807) :
    Calls Tryd.prog 8 #[.string s, .int .i64 n] w fun r w' => r = .returned (.bool true) ∧ Below w.heap.size w w' := by
  obtain ⟨hn1, hn2⟩ := hn
  go_enter Tryd.func8, Tryd.ntmps8
  go_wp2_with fail
  refine (short_b s _ (by omega)).mono ?_
  rintro e' w' ⟨rfl, rfl⟩
  have hS := size_short s
  generalize bs (s.data.toList.take 3000) = S at hS ⊢
  have hL : S.data.toList.length = S.size := by simp
  have HT := Lib.hid (show ofV (toInts (nums S.data.toList 0)) = .tuple #[.string (orB S ⟨#[]⟩), .int .i64 0] by
    unfold ofV
    rw [if_pos (ok_nums _ (by omega)), of_nums _ (by omega), orB_nil]; rfl)
  have hTs := size_orB S ⟨#[]⟩
  have hT3 : (orB S ⟨#[]⟩).size ≤ 3000 := Nat.le_trans hTs (by
    have : (⟨#[]⟩ : ByteArray).size = 0 := rfl
    omega)
  have HTL := Lib.hid (show (orB S ⟨#[]⟩).data.toList = least S.data.toList by rw [orB_nil, bs_list])
  have HCT := Lib.hid (show cntB (orB S ⟨#[]⟩) = (nums S.data.toList 0).length by
    unfold cntB; rw [HTL.out, cnt_least, length_nums_zero])
  have hlen := length_nums S.data.toList 0
  rw [hL] at hlen
  have HLS := Lib.hid hL
  clear hL hTs
  go_wp2_with fail
  refine (list_any S (by omega) _).mono ?_
  rintro e w1 ⟨v, rfl, hown, hw1⟩
  have HI := Lib.hid (intsAt_of_owns hown)
  obtain ⟨a, cap, rfl, ha⟩ := HI.out.split
  have HA := Lib.hid ha
  rw [length_toInts] at HI ⊢
  clear hown ha
  go_wp2_with fail
  refine (of_any _ (toInts (nums S.data.toList 0)) (by rw [length_toInts]; omega) _ HI.out).mono ?_
  rintro e w2 ⟨rfl, hB⟩
  rw [HT.out]
  have HB2 := Lib.hid hB
  have hw2 : Below w.heap.size w w2 := hw1.trans (hB.mono hw1.size)
  clear hB
  go_wp2_with fail
  refine (fixed_any _).mono ?_
  rintro e w3 ⟨rfl, hB⟩
  have HB3 := Lib.hid (HB2.out.trans (hB.mono HB2.out.size))
  have hw3 : Below w.heap.size w w3 := hw2.trans (hB.mono hw2.size)
  clear hB hw2 HB2
  go_wp2_with fail
  refine (or_b S ⟨#[]⟩ _ (by omega) (by decide)).mono ?_
  rintro e w4 ⟨rfl, hB⟩
  have HB4 := Lib.hid (HB3.out.trans (hB.mono HB3.out.size))
  have hw4 : Below w.heap.size w w4 := hw3.trans (hB.mono hw3.size)
  clear hB hw3 HB3
  go_wp2_with fail
  refine (cnt_b (orB S ⟨#[]⟩) _ (by omega)).mono ?_
  rintro e w' ⟨rfl, rfl⟩
  rw [HCT.out]
  have HSRT := Lib.hid (sorted_nums S.data.toList 0)
  have HMEM := Lib.hid (fun m => (mem_nums (l := S.data.toList) (from_ := 0) (n := m)))
  have HALL := Lib.hid (met_all S.data.toList n)
  have HBIT := Lib.hid (show ∀ m : Nat, bit (orB S ⟨#[]⟩).data.toList m = bit S.data.toList m from fun m => by unfold bit; rw [HTL.out, gd_least])
  generalize hTT : orB S ⟨#[]⟩ = T at hT3 HBIT ⊢
  clear hTT HT HTL HCT
  generalize nums S.data.toList 0 = ns at HI HA HSRT HMEM HALL hlen ⊢
  have hns0 : met ns n 0 = false := rfl
  go_wp2
  go_loopw [8, 9] (fun f i wr => ∃ k : Nat, k ≤ ns.length ∧ i = .int .i64 k ∧ f = .bool (met ns n k) ∧ Below w1.heap.size w1 wr) (fun _ i _ => ns.length - (intOf i).toNat)
  case atStart => exact ⟨0, Nat.zero_le _, rfl, by rw [hns0], HB4.out⟩
  case round =>
    obtain ⟨k, hk, rfl, rfl, hB⟩ := hrel
    have HB := Lib.hid hB
    clear hB hns0
    by_cases hlt : k < ns.length
    · obtain ⟨b, off, rfl, hbw, hcells⟩ := HA.out (by
        intro e
        have h := congrArg List.length e
        rw [length_toInts, List.length_nil] at h
        omega)
      have hcell : wr.cell? ⟨b, off + k, none⟩ = some (.int .i64 (ns[k] : Nat)) := (HB.out.cell (p := ⟨b, off + k, none⟩) hbw).trans (by
        rw [hcells k (by rw [length_toInts]; exact hlt)]
        simp [toInts])
      have hmem := (HMEM.out ns[k]).1 (List.getElem_mem hlt)
      have hxr : (ns[k] : Int) ≤ 9223372036854775807 := by
        have := bit_lt hmem.2
        rw [HLS.out] at this; omega
      have HXX := Lib.hid (show ∀ (U : ByteArray), (U = S ∨ U = T) → ∀ W, Calls Tryd.prog 20 #[.string U, .int .i64 ((ns[k] : Nat) : Int)] W fun e w' => e = .returned (.bool true) ∧ w' = W from fun U hU W => by
        rcases hU with rfl | rfl
        · exact (has_any U ((ns[k] : Nat) : Int) W (by omega) (by omega) hxr).mono fun e w' h => ⟨by rw [h.1, bitI_nat, hmem.2], h.2.symm⟩
        · exact (has_any U ((ns[k] : Nat) : Int) W (by omega) (by omega) hxr).mono fun e w' h => ⟨by rw [h.1, bitI_nat, HBIT.out, hmem.2], h.2.symm⟩)
      clear hxr
      have HMS := Lib.hid (met_succ ns n k hlt)
      have hki : (k : Int) < (ns.length : Int) := by omega
      have HCS := Lib.hid hcells
      clear hcells
      cases k with
      | zero =>
        rw [Nat.add_zero] at hcell
        generalize ns[0] = x at hcell HXX HMS hmem
        clear hmem
        have HMS2 := HMS.out
        generalize hme : met ns n 0 = fb at HMS2
        have HMF := Lib.hid HMS2
        clear hme HMS HMS2
        cases fb with
        | true =>
          go_wp2
          go_quiet ((go_at_call 20; exact Calls.quiet_of_same (HXX.out _ (by first | exact Or.inl rfl | exact Or.inr rfl) _)))
          go_wp2
          go_roundw
          case rel => exact ⟨0 + 1, by omega, by go_num, by rw [HMF.out]; rfl, below_drewN HB.out _⟩
          case measure => simp [intOf]; omega
        | false =>
          by_cases hxn : (x : Int) = n
          · have hxb : ((x : Int) == n) = true := by simp [hxn]
            have HXN := Lib.hid hxb
            have hxb2 := HXN.out
            clear hxn hxb
            go_wp2
            go_quiet ((go_at_call 20; exact Calls.quiet_of_same (HXX.out _ (by first | exact Or.inl rfl | exact Or.inr rfl) _)))
            go_wp2
            go_roundw
            case rel => exact ⟨0 + 1, by omega, by go_num, by rw [HMF.out, HXN.out]; rfl, below_drewN HB.out _⟩
            case measure => simp [intOf]; omega
          · have hxb : ((x : Int) == n) = false := by simp [hxn]
            have HXN := Lib.hid hxb
            have hxb2 := HXN.out
            clear hxn hxb
            go_wp2
            go_quiet ((go_at_call 20; exact Calls.quiet_of_same (HXX.out _ (by first | exact Or.inl rfl | exact Or.inr rfl) _)))
            go_wp2
            go_roundw
            case rel => exact ⟨0 + 1, by omega, by go_num, by rw [HMF.out, HXN.out]; rfl, below_drewN HB.out _⟩
            case measure => simp [intOf]; omega
      | succ j =>
        have hprev : wr.cell? ⟨b, off + j, none⟩ = some (.int .i64 (ns[j] : Nat)) := (HB.out.cell (p := ⟨b, off + j, none⟩) hbw).trans (by
          rw [HCS.out j (by rw [length_toInts]; omega)]
          simp [toInts])
        have hlt2 : ((ns[j] : Nat) : Int) < ((ns[j + 1] : Nat) : Int) := by
          have := List.pairwise_iff_getElem.1 HSRT.out j (j + 1) (by omega) hlt (by omega)
          omega
        have hji : (j : Int) < (ns.length : Int) := by omega
        have hj1 : (j : Int) + 1 < (ns.length : Int) := by omega
        have hj0 : (0 : Int) ≤ (j : Int) + 1 := by omega
        have hjn : ((j : Int) + 1).toNat = j + 1 := by omega
        have hjw : IntKind.i64.wrap ((j : Int) + 1 - 1) = (j : Int) := by
          rw [show (j : Int) + 1 - 1 = (j : Int) by omega]
          exact IntWalk.i64_in _ (by omega)
        have hjw2 : IntKind.i64.wrap (j : Int) = (j : Int) := IntWalk.i64_in _ (by omega)
        generalize ns[j + 1] = x at hcell HXX HMS hmem hlt2
        generalize ns[j] = y at hprev hlt2
        have hdec : decide ((x : Int) ≤ (y : Int)) = false := by simp; omega
        have hdec2 : decide (x ≤ y) = false := by simp; omega
        clear hmem
        have HMS2 := HMS.out
        generalize hme : met ns n (j + 1) = fb at HMS2
        have HMF := Lib.hid HMS2
        clear hme HMS HMS2
        cases fb with
        | true =>
          go_wp2
          go_quiet ((go_at_call 20; exact Calls.quiet_of_same (HXX.out _ (by first | exact Or.inl rfl | exact Or.inr rfl) _)))
          go_wp2
          go_roundw
          case rel => exact ⟨(j + 1) + 1, by omega, by go_num, by rw [HMF.out]; rfl, below_drewN HB.out _⟩
          case measure => simp [intOf]; omega
        | false =>
          by_cases hxn : (x : Int) = n
          · have hxb : ((x : Int) == n) = true := by simp [hxn]
            have HXN := Lib.hid hxb
            have hxb2 := HXN.out
            clear hxn hxb
            go_wp2
            go_quiet ((go_at_call 20; exact Calls.quiet_of_same (HXX.out _ (by first | exact Or.inl rfl | exact Or.inr rfl) _)))
            go_wp2
            go_roundw
            case rel => exact ⟨(j + 1) + 1, by omega, by go_num, by rw [HMF.out, HXN.out]; rfl, below_drewN HB.out _⟩
            case measure => simp [intOf]; omega
          · have hxb : ((x : Int) == n) = false := by simp [hxn]
            have HXN := Lib.hid hxb
            have hxb2 := HXN.out
            clear hxn hxb
            go_wp2
            go_quiet ((go_at_call 20; exact Calls.quiet_of_same (HXX.out _ (by first | exact Or.inl rfl | exact Or.inr rfl) _)))
            go_wp2
            go_roundw
            case rel => exact ⟨(j + 1) + 1, by omega, by go_num, by rw [HMF.out, HXN.out]; rfl, below_drewN HB.out _⟩
            case measure => simp [intOf]; omega
    · obtain rfl : k = ns.length := by omega
      have hwr : Below w.heap.size w wr := hw1.trans (HB.out.mono hw1.size)
      rw [HALL.out]
      go_wp2_with fail
      refine (has_any S n _ (by omega) hn1 hn2).mono ?_
      rintro e w' ⟨rfl, rfl⟩
      generalize bitI S.data.toList n = bb
      have hbb : (bb == bb) = true := by simp
      go_wp2_with fail
      refine (has_any S (-1) _ (by omega) (by omega) (by omega)).mono ?_
      rintro e w' ⟨rfl, rfl⟩
      rw [bitI_neg (by omega)]
      go_wp2
      go_ret
      exact ⟨rfl, hwr⟩

/-- WHAT THE WALK GIVES, for every argument that can be read. -/
theorem contract (H : Type) (enc : TypeId × Value → H) (W : World) (base : Nat) (args : Array Value) (ds gs : List (DataW H)) (before : List MemPlace)
    (hval : ∀ (j : Nat) t v, Tryd.f8.params[j]? = some t → args[j]? = some v → Value.okWide Tryd.prog W .any base t v)
    (hW : DataW.Whole enc Tryd.prog Tryd.f8.params.toList Rows.setsBackSpec.vars false W args.toList ds gs before)
    (hreach : (DataW.weightsEach Tryd.prog (Tryd.f8.params.toList) ds).all (· ≤ reachBytes) = true) :
    Calls Tryd.prog 8 args W fun e W' => ∃ v, e = .returned v ∧ Rows.setsBackSpec.post enc Tryd.prog Tryd.f8 false true false false W args v W' := by
  have hW' := hW
  obtain ⟨p, q, hA0, hV, rfl, hfz, hnd⟩ := hW
  have hA : DataW.TrodAll enc Tryd.prog W 0 (fun _ => true) true Tryd.f8.params.toList args.toList ds p := hA0
  rw [Tryd.params8] at hA hval hreach
  obtain ⟨v0, v1, d0, d1, p0, p1, rfl, rfl, rfl, h0, h1⟩ := trodAll_two hA
  obtain ⟨rfl, rfl⟩ := trodVars_none hV
  obtain ⟨s0, rfl, rfl, rfl, ws0⟩ := Go.ChangeMaps.open_string Tryd.underlying9 (hval 0 9 v0 rfl rfl) h0
  have r0 := reach_size (sized_string hreach (j := 0) rfl rfl)
  obtain ⟨n1, rfl, rfl, rfl, wn1⟩ := open_int Tryd.underlying3 (hval 1 3 v1 rfl rfl) h1
  have r1 := int_range wn1
  clear hA0 hval
  simp only [List.append_nil] at hW'
  refine (walk s0 n1 W r0 r1).mono fun e W' ⟨he, hB⟩ => ?_
  subst he
  exact ⟨_, rfl, post_of_below (pa := []) (pv := []) hW' (fun _ _ _ => trodAll_mk1 (shut_bool Tryd.underlying4 _)) (fun _ _ => trodAll_mk2 (Go.ChangeMaps.shut_string Tryd.underlying9 ws0) (shut_int Tryd.underlying3 wn1)) (fun _ _ => rfl) rfl hB (ok_one (by kernel_rfl) rfl (okWide_bool_mk Tryd.underlying4 _))⟩

theorem reads (os : Os) {H : Type} (enc : TypeId × Value → H) : ∃ places, DataW.whole enc Tryd.prog ((laidWorld os).forCall (fun _ _ => 0) ⟨#[], #[.string ⟨#[]⟩, .int .i64 0], []⟩).memory Tryd.f8.params.toList Rows.setsBackSpec.vars false (#[.string ⟨#[]⟩, .int .i64 0] : Array Value).toList 8 = some ([.lit (.string []), .lit (.int .i64 0)], [], places) :=
  ⟨[], by kernel_rfl⟩

set_option maxRecDepth 100000 in
theorem lifted (os : Os) (started : os.Started) (H : Type) (enc : TypeId × Value → H) (F : Stop.Interp) :
    ReturnsInHanded {} Tryd.checked os 8 .any ((OpenSpec.ofChange Rows.setsBackSpec).preRow enc Tryd.prog Tryd.f8 Rows.setsBackRow.domain false Rows.setsBackRow.laid) (((OpenSpec.ofChange Rows.setsBackSpec).at F).post enc Tryd.prog Tryd.f8 false true false false) := by
  obtain ⟨places, hx⟩ := reads os enc
  refine returnsInHanded_of_row (C := Tryd.checked) (s := OpenSpec.ofChange Rows.setsBackSpec) own started (by kernel_rfl) Tryd.func8
    (witness_row_at (enc := enc) (C := Tryd.checked) false (laidWorld os) #[.string ⟨#[]⟩, .int .i64 0] rfl (by kernel_rfl) (by kernel_rfl) (by kernel_rfl)
      (OpenSpec.preRow_of_cond 8 hx (by kernel_rfl) (fun k hk => by cases hk) (by kernel_rfl) (laid_met os _))) ?_
  intro W base args ds gs before hval hW _ hcond hreach hL _ _
  obtain ⟨p, q, hA0, hV, hpq, hfz, hnd⟩ := id hW
  obtain ⟨rfl, _⟩ := trodVars_none hV
  rw [List.append_nil] at hreach
  exact contract H enc W base args ds [] before hval hW hreach

theorem said : Rows.SetsBackSaid :=
  OpenClaim.holds_of_cond 8 Tryd.f8 rfl rfl rfl rfl rfl rfl rfl ⟨rfl, rfl, rfl, rfl, rfl⟩ rfl rfl rfl rfl rfl (by kernel_rfl) Tryd.func8 (by kernel_rfl)
    (of_decide_eq_true (by kernel_rfl)) (by unfold Func.isWrapper; first | (rw [if_pos (by decide +kernel)]; kernel_rfl) | (rw [if_neg (by decide +kernel)]; exact ⟨rfl, rfl⟩))
    (fun os started H enc _ F => by rw [OpenClaim.pre_eq_preRow]; exact lifted os started H enc F)

theorem plain (f : FuncId) (fn : Func) (hf : Tryd.pinned.checked.prog.funcNamed "stillage/stillagelaw01.SetsBack" = some f) (hfn : Tryd.pinned.checked.prog.funcs[f]? = some fn) :
    false = Tryd.pinned.checked.prog.looks [] ∧ ∀ (j : Nat) t, fn.params[j]? = some t → Tryd.pinned.checked.prog.wantsStandIn t = false := by
  obtain rfl : f = 8 := Option.some.inj ((show Tryd.prog.funcNamed "stillage/stillagelaw01.SetsBack" = some 8 by kernel_rfl).symm.trans hf) |>.symm
  obtain rfl : fn = Tryd.f8 := (Option.some.inj (Tryd.func8.symm.trans hfn)).symm
  refine ⟨by kernel_rfl, fun j t ht => ?_⟩
  rw [Tryd.params8] at ht
  have hm : t ∈ [9, 3] := by simpa using Array.mem_of_getElem? ht
  have hall : ([9, 3].all fun u => !Tryd.prog.wantsStandIn u) = true := by kernel_rfl
  exact (show Tryd.prog.wantsStandIn t = false by simpa using List.all_eq_true.1 hall t hm)

/-- THE CARD -/
theorem card : Rows.SetsBackCardSaid :=
  Claim7.holds_tied_plain_at .later [] _ _ _ _ said (fun _ h => by cases h) (by kernel_rfl) (fun _ h => by cases h) setsBack_row_tie rfl ⟨rfl, rfl⟩ (by kernel_rfl) rfl plain (by kernel_rfl)

end Go.Proofs.YtoafojddochcgaaDoor.setsBack
