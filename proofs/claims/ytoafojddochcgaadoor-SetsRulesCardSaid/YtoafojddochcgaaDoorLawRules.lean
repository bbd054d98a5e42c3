/-
  SetsRules: for every three texts the law returns true; each text reads behind the call as it read before. Conditions: those of its row (the two tables of unicode/utf8 lie as the program's text lays them: the card ties them).
-/
import Derived.Test.YtoafojddochcgaaDoorLawKit
namespace Go.Proofs.YtoafojddochcgaaDoor.setsRules
open Go.ChangeShapes Go.WideShapes Go.ChangeAt Go.RowKit Go SM

/-! ### The rules, plain -/
theorem band_comm' (x y : UInt8) : band x y = band y x := u8_ext fun k _ => by simp only [tb_band]; cases x.toNat.testBit k <;> cases y.toNat.testBit k <;> rfl
theorem bor_comm' (x y : UInt8) : bor x y = bor y x := u8_ext fun k _ => by simp only [tb_bor]; cases x.toNat.testBit k <;> cases y.toNat.testBit k <;> rfl
theorem and_comm (a b : List UInt8) : mk band b a = mk band a b := mk_ext (by decide) (by decide) fun i => band_comm' _ _
theorem or_comm (a b : List UInt8) : mk bor b a = mk bor a b := mk_ext (by decide) (by decide) fun i => bor_comm' _ _
theorem parts (a b : List UInt8) : mk bor (mk band a b) (mk bsub a b) = mk bor a [] := mk_ext (by decide) (by decide) fun i => by
  rw [gd_mk band (by decide), gd_mk bsub (by decide), gd_nil]
  exact u8_ext fun k hk => by
    simp only [tb_bor, tb_band, tb_bsub _ _ k hk]
    cases (gd a i).toNat.testBit k <;> cases (gd b i).toNat.testBit k <;> simp
theorem parts_apart (a b : List UInt8) : mk band (mk band a b) (mk bsub a b) = [] := mk_nil (by decide) fun i => by
  rw [gd_mk band (by decide), gd_mk bsub (by decide)]
  exact u8_ext fun k hk => by
    simp only [tb_band, tb_bsub _ _ k hk]
    cases (gd a i).toNat.testBit k <;> cases (gd b i).toNat.testBit k <;> simp
theorem rest_apart (a b : List UInt8) : mk band (mk bsub a b) b = [] := mk_nil (by decide) fun i => by
  rw [gd_mk bsub (by decide)]
  exact u8_ext fun k hk => by
    simp only [tb_band, tb_bsub _ _ k hk]
    cases (gd a i).toNat.testBit k <;> cases (gd b i).toNat.testBit k <;> simp
theorem and_assoc' (a b c : List UInt8) : mk band (mk band a b) c = mk band a (mk band b c) := mk_ext (by decide) (by decide) fun i => by
  rw [gd_mk band (by decide), gd_mk band (by decide)]
  exact u8_ext fun k hk => by simp only [tb_band, Bool.and_assoc]
theorem or_assoc' (a b c : List UInt8) : mk bor (mk bor a b) c = mk bor a (mk bor b c) := mk_ext (by decide) (by decide) fun i => by
  rw [gd_mk bor (by decide), gd_mk bor (by decide)]
  exact u8_ext fun k hk => by simp only [tb_bor, Bool.or_assoc]
theorem and_or (a b c : List UInt8) : mk band (mk bor a b) c = mk bor (mk band a c) (mk band b c) := mk_ext (by decide) (by decide) fun i => by
  rw [gd_mk bor (by decide), gd_mk band (by decide), gd_mk band (by decide)]
  exact u8_ext fun k hk => by simp only [tb_band, tb_bor]; cases (gd a i).toNat.testBit k <;> cases (gd b i).toNat.testBit k <;> simp
theorem less_all (a b : List UInt8) : mk bsub a (mk bor a b) = [] := mk_nil (by decide) fun i => by
  rw [gd_mk bor (by decide)]
  exact u8_ext fun k hk => by
    simp only [tb_bor, tb_bsub _ _ k hk]
    cases (gd a i).toNat.testBit k <;> cases (gd b i).toNat.testBit k <;> simp

/-! ### The rules of texts -/
theorem B_and_comm (a b : ByteArray) : andB b a = andB a b := by unfold andB; rw [and_comm]
theorem B_or_comm (a b : ByteArray) : orB b a = orB a b := by unfold orB; rw [or_comm]
theorem B_parts (a b : ByteArray) : orB (andB a b) (subB a b) = orB a ⟨#[]⟩ := by
  unfold orB; rw [list_andB, list_subB, parts]
theorem B_apart (a b : ByteArray) : andB (andB a b) (subB a b) = ⟨#[]⟩ := by
  unfold andB subB; rw [bs_list, bs_list, parts_apart]; rfl
theorem B_rest (a b : ByteArray) : andB (subB a b) b = ⟨#[]⟩ := by
  unfold andB subB; rw [bs_list, rest_apart]; rfl
theorem B_and_assoc (a b c : ByteArray) : andB a (andB b c) = andB (andB a b) c := by
  unfold andB; rw [bs_list, bs_list, and_assoc']
theorem B_or_assoc (a b c : ByteArray) : orB a (orB b c) = orB (orB a b) c := by
  unfold orB; rw [bs_list, bs_list, or_assoc']
theorem B_and_or (a b c : ByteArray) : orB (andB a c) (andB b c) = andB (orB a b) c := by
  unfold orB andB; rw [bs_list, bs_list, bs_list, and_or]
theorem B_less (a b : ByteArray) : subB a (orB a b) = ⟨#[]⟩ := by
  unfold subB; rw [list_orB, less_all]; rfl
theorem B_cnt (a b : ByteArray) : cntB (orB a b) + cntB (andB a b) = cntB a + cntB b := by
  unfold cntB; rw [list_orB, list_andB, cnt_or_and]

set_option maxRecDepth 100000 in
set_option maxHeartbeats 8000000 in
theorem walk (a b c : ByteArray) (w : World) (ha : a.size ≤ 140737488351232) (hb : b.size ≤ 140737488351232) (hc : c.size ≤ 140737488351232) :
    Calls Tryd.prog 7 #[.string a, .string b, .string c] w fun e w' => e = .returned (.bool true) ∧ Below w.heap.size w w' := by
  have hw0 : Below w.heap.size w w := Below.refl _ _
  have sA := size_andB a b
  have sO := size_orB a b
  have sM := size_subB a b
  have sbc := size_andB b c
  have sac := size_andB a c
  have sobc := size_orB b c
  have HCNT := Lib.hid (B_cnt a b)
  have c1 := cntB_le (orB a b)
  have c2 := cntB_le (andB a b)
  have c3 := cntB_le a
  have c4 := cntB_le b
  go_enter Tryd.func7, Tryd.ntmps7
  go_wp2_with fail
  refine (and_b a b _ (by omega) (by omega)).mono ?_
  rintro e w1 ⟨rfl, hB⟩
  have hw1 : Below w.heap.size w w1 := hw0.trans (hB.mono hw0.size)
  clear hw0 hB
  go_wp2_with fail
  refine (or_b a b _ (by omega) (by omega)).mono ?_
  rintro e w2 ⟨rfl, hB⟩
  have hw2 : Below w.heap.size w w2 := hw1.trans (hB.mono hw1.size)
  clear hw1 hB
  go_wp2_with fail
  refine (sub_b a b _ (by omega) (by omega)).mono ?_
  rintro e w3 ⟨rfl, hB⟩
  have hw3 : Below w.heap.size w w3 := hw2.trans (hB.mono hw2.size)
  clear hw2 hB
  go_wp2_with fail
  refine (fixed_any _).mono ?_
  rintro e w4 ⟨rfl, hB⟩
  have hw4 : Below w.heap.size w w4 := hw3.trans (hB.mono hw3.size)
  clear hw3 hB
  go_wp2_with fail
  refine (and_b b a _ (by omega) (by omega)).mono ?_
  rintro e w5 ⟨rfl, hB⟩
  rw [B_and_comm]
  have hw5 : Below w.heap.size w w5 := hw4.trans (hB.mono hw4.size)
  clear hw4 hB
  go_wp2_with fail
  refine (or_b b a _ (by omega) (by omega)).mono ?_
  rintro e w6 ⟨rfl, hB⟩
  rw [B_or_comm]
  have hw6 : Below w.heap.size w w6 := hw5.trans (hB.mono hw5.size)
  clear hw5 hB
  go_wp2_with fail
  refine (cnt_b (orB a b) _ (by omega)).mono ?_
  rintro e w6' ⟨rfl, rfl⟩
  go_wp2_with fail
  refine (cnt_b (andB a b) _ (by omega)).mono ?_
  rintro e w6' ⟨rfl, rfl⟩
  go_wp2_with fail
  refine (cnt_b a _ (by omega)).mono ?_
  rintro e w6' ⟨rfl, rfl⟩
  go_wp2_with fail
  refine (cnt_b b _ (by omega)).mono ?_
  rintro e w6' ⟨rfl, rfl⟩
  have hsum : (((cntB (orB a b) : Int) + (cntB (andB a b) : Int)) != ((cntB a : Int) + (cntB b : Int))) = false := by
    have := HCNT.out
    simp; omega
  go_wp2_with fail
  refine (or_b (andB a b) (subB a b) _ (by omega) (by omega)).mono ?_
  rintro e w7 ⟨rfl, hB⟩
  rw [B_parts]
  have hw7 : Below w.heap.size w w7 := hw6.trans (hB.mono hw6.size)
  clear hw6 hB
  clear hsum
  go_wp2_with fail
  refine (or_b a ⟨#[]⟩ _ (by omega) (by decide)).mono ?_
  rintro e w8 ⟨rfl, hB⟩
  have hw8 : Below w.heap.size w w8 := hw7.trans (hB.mono hw7.size)
  clear hw7 hB
  go_wp2_with fail
  refine (and_b (andB a b) (subB a b) _ (by omega) (by omega)).mono ?_
  rintro e w9 ⟨rfl, hB⟩
  rw [B_apart]
  have hw9 : Below w.heap.size w w9 := hw8.trans (hB.mono hw8.size)
  clear hw8 hB
  go_wp2_with fail
  refine (and_b (subB a b) b _ (by omega) (by omega)).mono ?_
  rintro e w10 ⟨rfl, hB⟩
  rw [B_rest]
  have hw10 : Below w.heap.size w w10 := hw9.trans (hB.mono hw9.size)
  clear hw9 hB
  go_wp2_with fail
  refine (and_b (andB a b) c _ (by omega) (by omega)).mono ?_
  rintro e w11 ⟨rfl, hB⟩
  have hw11 : Below w.heap.size w w11 := hw10.trans (hB.mono hw10.size)
  clear hw10 hB
  go_wp2_with fail
  refine (and_b b c _ (by omega) (by omega)).mono ?_
  rintro e w12 ⟨rfl, hB⟩
  have hw12 : Below w.heap.size w w12 := hw11.trans (hB.mono hw11.size)
  clear hw11 hB
  go_wp2_with fail
  refine (and_b a (andB b c) _ (by omega) (by omega)).mono ?_
  rintro e w13 ⟨rfl, hB⟩
  rw [B_and_assoc]
  have hw13 : Below w.heap.size w w13 := hw12.trans (hB.mono hw12.size)
  clear hw12 hB
  go_wp2_with fail
  refine (or_b (orB a b) c _ (by omega) (by omega)).mono ?_
  rintro e w14 ⟨rfl, hB⟩
  have hw14 : Below w.heap.size w w14 := hw13.trans (hB.mono hw13.size)
  clear hw13 hB
  go_wp2_with fail
  refine (or_b b c _ (by omega) (by omega)).mono ?_
  rintro e w15 ⟨rfl, hB⟩
  have hw15 : Below w.heap.size w w15 := hw14.trans (hB.mono hw14.size)
  clear hw14 hB
  go_wp2_with fail
  refine (or_b a (orB b c) _ (by omega) (by omega)).mono ?_
  rintro e w16 ⟨rfl, hB⟩
  rw [B_or_assoc]
  have hw16 : Below w.heap.size w w16 := hw15.trans (hB.mono hw15.size)
  clear hw15 hB
  go_wp2_with fail
  refine (and_b (orB a b) c _ (by omega) (by omega)).mono ?_
  rintro e w17 ⟨rfl, hB⟩
  have hw17 : Below w.heap.size w w17 := hw16.trans (hB.mono hw16.size)
  clear hw16 hB
  go_wp2_with fail
  refine (and_b a c _ (by omega) (by omega)).mono ?_
  rintro e w18 ⟨rfl, hB⟩
  have hw18 : Below w.heap.size w w18 := hw17.trans (hB.mono hw17.size)
  clear hw17 hB
  go_wp2_with fail
  refine (and_b b c _ (by omega) (by omega)).mono ?_
  rintro e w19 ⟨rfl, hB⟩
  have hw19 : Below w.heap.size w w19 := hw18.trans (hB.mono hw18.size)
  clear hw18 hB
  go_wp2_with fail
  refine (or_b (andB a c) (andB b c) _ (by omega) (by omega)).mono ?_
  rintro e w20 ⟨rfl, hB⟩
  rw [B_and_or]
  have hw20 : Below w.heap.size w w20 := hw19.trans (hB.mono hw19.size)
  clear hw19 hB
  go_wp2_with fail
  refine (sub_b a (orB a b) _ (by omega) (by omega)).mono ?_
  rintro e w21 ⟨rfl, hB⟩
  rw [B_less]
  have hw21 : Below w.heap.size w w21 := hw20.trans (hB.mono hw20.size)
  clear hw20 hB
  go_wp2
  go_ret
  exact ⟨rfl, hw21⟩
/-- WHAT THE WALK GIVES, for every argument that can be read. -/
theorem contract (H : Type) (enc : TypeId × Value → H) (W : World) (base : Nat) (args : Array Value) (ds gs : List (DataW H)) (before : List MemPlace)
    (hval : ∀ (j : Nat) t v, Tryd.f7.params[j]? = some t → args[j]? = some v → Value.okWide Tryd.prog W .any base t v)
    (hW : DataW.Whole enc Tryd.prog Tryd.f7.params.toList Rows.setsRulesSpec.vars false W args.toList ds gs before)
    (hreach : (DataW.weightsEach Tryd.prog (Tryd.f7.params.toList) ds).all (· ≤ reachBytes) = true) :
    Calls Tryd.prog 7 args W fun e W' => ∃ v, e = .returned v ∧ Rows.setsRulesSpec.post enc Tryd.prog Tryd.f7 false true false false W args v W' := by
  have hW' := hW
  obtain ⟨p, q, hA0, hV, rfl, hfz, hnd⟩ := hW
  have hA : DataW.TrodAll enc Tryd.prog W 0 (fun _ => true) true Tryd.f7.params.toList args.toList ds p := hA0
  rw [Tryd.params7] at hA hval hreach
  obtain ⟨v0, v1, v2, d0, d1, d2, p0, p1, p2, rfl, rfl, rfl, h0, h1, h2⟩ := trodAll_three hA
  obtain ⟨rfl, rfl⟩ := trodVars_none hV
  obtain ⟨s0, rfl, rfl, rfl, ws0⟩ := Go.ChangeMaps.open_string Tryd.underlying9 (hval 0 9 v0 rfl rfl) h0
  have r0 := reach_size (sized_string hreach (j := 0) rfl rfl)
  obtain ⟨s1, rfl, rfl, rfl, ws1⟩ := Go.ChangeMaps.open_string Tryd.underlying9 (hval 1 9 v1 rfl rfl) h1
  have r1 := reach_size (sized_string hreach (j := 1) rfl rfl)
  obtain ⟨s2, rfl, rfl, rfl, ws2⟩ := Go.ChangeMaps.open_string Tryd.underlying9 (hval 2 9 v2 rfl rfl) h2
  have r2 := reach_size (sized_string hreach (j := 2) rfl rfl)
  clear hA0 hval
  simp only [List.append_nil] at hW'
  refine (walk s0 s1 s2 W r0 r1 r2).mono fun e W' ⟨he, hB⟩ => ?_
  subst he
  exact ⟨_, rfl, post_of_below (pa := []) (pv := []) hW' (fun _ _ _ => trodAll_mk1 (shut_bool Tryd.underlying4 _)) (fun _ _ => trodAll_mk3 (Go.ChangeMaps.shut_string Tryd.underlying9 ws0) (Go.ChangeMaps.shut_string Tryd.underlying9 ws1) (Go.ChangeMaps.shut_string Tryd.underlying9 ws2)) (fun _ _ => rfl) rfl hB (ok_one (by kernel_rfl) rfl (okWide_bool_mk Tryd.underlying4 _))⟩

theorem reads (os : Os) {H : Type} (enc : TypeId × Value → H) : ∃ places, DataW.whole enc Tryd.prog ((laidWorld os).forCall (fun _ _ => 0) ⟨#[], #[.string ⟨#[]⟩, .string ⟨#[]⟩, .string ⟨#[]⟩], []⟩).memory Tryd.f7.params.toList Rows.setsRulesSpec.vars false (#[.string ⟨#[]⟩, .string ⟨#[]⟩, .string ⟨#[]⟩] : Array Value).toList 8 = some ([.lit (.string []), .lit (.string []), .lit (.string [])], [], places) :=
  ⟨[], by kernel_rfl⟩

set_option maxRecDepth 100000 in
theorem lifted (os : Os) (started : os.Started) (H : Type) (enc : TypeId × Value → H) (F : Stop.Interp) :
    ReturnsInHanded {} Tryd.checked os 7 .any ((OpenSpec.ofChange Rows.setsRulesSpec).preRow enc Tryd.prog Tryd.f7 Rows.setsRulesRow.domain false Rows.setsRulesRow.laid) (((OpenSpec.ofChange Rows.setsRulesSpec).at F).post enc Tryd.prog Tryd.f7 false true false false) := by
  obtain ⟨places, hx⟩ := reads os enc
  refine returnsInHanded_of_row (C := Tryd.checked) (s := OpenSpec.ofChange Rows.setsRulesSpec) own started (by kernel_rfl) Tryd.func7
    (witness_row_at (enc := enc) (C := Tryd.checked) false (laidWorld os) #[.string ⟨#[]⟩, .string ⟨#[]⟩, .string ⟨#[]⟩] rfl (by kernel_rfl) (by kernel_rfl) (by kernel_rfl)
      (OpenSpec.preRow_of_cond 8 hx (by kernel_rfl) (fun k hk => by cases hk) (by kernel_rfl) (laid_met os _))) ?_
  intro W base args ds gs before hval hW _ hcond hreach hL _ _
  obtain ⟨p, q, hA0, hV, hpq, hfz, hnd⟩ := id hW
  obtain ⟨rfl, _⟩ := trodVars_none hV
  rw [List.append_nil] at hreach
  exact contract H enc W base args ds [] before hval hW hreach

theorem said : Rows.SetsRulesSaid :=
  OpenClaim.holds_of_cond 7 Tryd.f7 rfl rfl rfl rfl rfl rfl rfl ⟨rfl, rfl, rfl, rfl, rfl⟩ rfl rfl rfl rfl rfl (by kernel_rfl) Tryd.func7 (by kernel_rfl)
    (of_decide_eq_true (by kernel_rfl)) (by unfold Func.isWrapper; first | (rw [if_pos (by decide +kernel)]; kernel_rfl) | (rw [if_neg (by decide +kernel)]; exact ⟨rfl, rfl⟩))
    (fun os started H enc _ F => by rw [OpenClaim.pre_eq_preRow]; exact lifted os started H enc F)

theorem plain (f : FuncId) (fn : Func) (hf : Tryd.pinned.checked.prog.funcNamed "stillage/stillagelaw01.SetsRules" = some f) (hfn : Tryd.pinned.checked.prog.funcs[f]? = some fn) :
    false = Tryd.pinned.checked.prog.looks [] ∧ ∀ (j : Nat) t, fn.params[j]? = some t → Tryd.pinned.checked.prog.wantsStandIn t = false := by
  obtain rfl : f = 7 := Option.some.inj ((show Tryd.prog.funcNamed "stillage/stillagelaw01.SetsRules" = some 7 by kernel_rfl).symm.trans hf) |>.symm
  obtain rfl : fn = Tryd.f7 := (Option.some.inj (Tryd.func7.symm.trans hfn)).symm
  refine ⟨by kernel_rfl, fun j t ht => ?_⟩
  rw [Tryd.params7] at ht
  have hm : t ∈ [9, 9, 9] := by simpa using Array.mem_of_getElem? ht
  have hall : ([9, 9, 9].all fun u => !Tryd.prog.wantsStandIn u) = true := by kernel_rfl
  exact (show Tryd.prog.wantsStandIn t = false by simpa using List.all_eq_true.1 hall t hm)

/-- THE CARD -/
theorem card : Rows.SetsRulesCardSaid :=
  Claim7.holds_tied_plain_at .later [] _ _ _ _ said (fun _ h => by cases h) (by kernel_rfl) (fun _ h => by cases h) setsRules_row_tie rfl ⟨rfl, rfl⟩ (by kernel_rfl) rfl plain (by kernel_rfl)

end Go.Proofs.YtoafojddochcgaaDoor.setsRules
