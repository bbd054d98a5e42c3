/-
  SetsEnds: for every two texts and every number that are together of bulk at most 1048576, the law returns true; each argument reads behind the call as it read before. Conditions: that bound; and those of its row (the two tables of unicode/utf8 lie as the program's text lays them: the card ties them).
-/
import Derived.Test.YtoafojddochcgaaDoorSetsG4

namespace Go.Proofs.YtoafojddochcgaaDoor.setsEnds
open Go.ChangeShapes Go.WideShapes Go.ChangeAt Go.RowKit Go SM

theorem and_mask_all (n : Int) (j : Nat) (hj : j ≤ 12) : ∃ k : Nat, k < 2 ^ j ∧ bits .and .i64 n ((2 ^ j - 1 : Nat) : Int) = (k : Int) := by
  refine ⟨(BitVec.ofInt 64 n).toNat &&& (2 ^ j - 1), ?_, ?_⟩
  · rw [Nat.and_two_pow_sub_one_eq_mod]; exact Nat.mod_lt _ (Nat.two_pow_pos j)
  · show IntKind.i64.wrap ((BitVec.ofInt 64 n &&& BitVec.ofInt 64 ((2 ^ j - 1 : Nat) : Int)).toNat : Int) = _
    have hp : 2 ^ j ≤ 4096 := Nat.pow_le_pow_right (by decide) hj
    have e : (BitVec.ofInt 64 ((2 ^ j - 1 : Nat) : Int)).toNat = 2 ^ j - 1 := by
      rw [BitVec.ofInt_natCast, BitVec.toNat_ofNat]; omega
    have hlt : (BitVec.ofInt 64 n).toNat &&& (2 ^ j - 1) < 4096 := Nat.lt_of_le_of_lt Nat.and_le_right (by omega)
    rw [BitVec.toNat_and, e]
    generalize (BitVec.ofInt 64 n).toNat &&& (2 ^ j - 1) = m at hlt ⊢
    simp [IntKind.wrap, IntKind.bits, IntKind.signed]
    omega
theorem mask127 (n : Int) : ∃ k : Nat, k < 128 ∧ bits .and .i64 n 127 = (k : Int) := and_mask_all n 7 (by decide)
theorem mask63 (n : Int) : ∃ k : Nat, k < 64 ∧ bits .and .i64 n 63 = (k : Int) := and_mask_all n 6 (by decide)
theorem mask4095 (n : Int) : ∃ k : Nat, k < 4096 ∧ bits .and .i64 n 4095 = (k : Int) := and_mask_all n 12 (by decide)

/-! ### Noughts behind a set -/
def pad (s : ByteArray) (k : Nat) : ByteArray := bs (s.data.toList ++ List.replicate k 0)
theorem gd_pad (s : ByteArray) (k i : Nat) : gd (pad s k).data.toList i = gd s.data.toList i := by
  unfold pad
  rw [bs_list, gd_append]
  split
  · rfl
  · rw [gd_zeros, gd_ge (by omega)]
theorem size_pad (s : ByteArray) (k : Nat) : (pad s k).size = s.size + k := by unfold pad; rw [bs_size]; simp
theorem cnt_pad (s : ByteArray) (k : Nat) : cntB (pad s k) = cntB s := cnt_ext (gd_pad s k)
theorem bit_pad' (s : ByteArray) (k n : Nat) : bit (pad s k).data.toList n = bit s.data.toList n := by unfold bit; rw [gd_pad]
theorem nums_pad (s : ByteArray) (k f : Nat) : nums (pad s k).data.toList f = nums s.data.toList f :=
  sorted_ext _ _ (sorted_nums _ _) (sorted_nums _ _) fun n => by rw [mem_nums, mem_nums, bit_pad']
theorem nextV_pad (s : ByteArray) (k : Nat) (f : Int) : nextV (pad s k).data.toList f = nextV s.data.toList f := by unfold nextV; rw [nums_pad]
theorem and_pad (s t : ByteArray) (k : Nat) : andB (pad s k) t = andB s t := by
  exact congrArg bs (mk_ext (by decide) (by decide) fun i => by rw [gd_pad])
theorem or_pad (s t : ByteArray) (k : Nat) : orB (pad s k) t = orB s t := by
  exact congrArg bs (mk_ext (by decide) (by decide) fun i => by rw [gd_pad])
theorem sub_pad (s t : ByteArray) (k : Nat) : subB t (pad s k) = subB t s := by
  exact congrArg bs (mk_ext (by decide) (by decide) fun i => by rw [gd_pad])

set_option maxRecDepth 100000 in
set_option maxHeartbeats 8000000 in
theorem walk' (s t : ByteArray) (n : Int) (w : World) (hs : s.size ≤ 1048576) (ht : t.size ≤ 1048576) :
    Calls Tryd.prog 10 #[.string s, .string t, .int .i64 n] w fun r w' => r = .returned (.bool true) ∧ Below w.heap.size w w' := by
  obtain ⟨k, hk, ek⟩ := mask127 n
  obtain ⟨j, hj, ej⟩ := mask63 n
  obtain ⟨i0, hi, hz0, hz1, hz2⟩ := info_parts info5
  have hmk := run_makeSlice (P := Tryd.prog) (w := w) 42 5 i0 (.int .u8 0) Tryd.underlying42 hi hz0 .i64 .i64 (k : Int) (k : Int) (by omega) (by omega) (by rw [hz1]; omega) (by rw [hz2]; omega) (by omega)
  rw [hz1, Nat.mul_one, Int.toNat_natCast, show Value.cells (.int .u8 0) = #[.int .u8 0] from rfl] at hmk
  have hrow := RowAt.new w k
  have hconv : (convert 42 9 (.slice (some ⟨w.heap.size, 0, none⟩) (List.replicate k (0 : UInt8)).length k)).run Tryd.prog (w.alloc (.cells (madeCells #[.int .u8 0] k) 5)) = .ok (str (List.replicate k 0)) (w.alloc (.cells (madeCells #[.int .u8 0] k) 5)) :=
    run_convert_bytes_back _ 42 9 5 ⟨w.heap.size, 0, none⟩ k (List.replicate k 0) Tryd.underlying42 Tryd.underlying5 Tryd.underlying9 (fun j hj => by
      rw [Addr.add_lit, Nat.zero_add, (hrow j hj).1, gd_lt hj])
  rw [List.length_replicate, str_bs] at hconv
  have hP := size_pad s k
  have hbz : (bs (List.replicate k (0 : UInt8))).size = k := by rw [bs_size]; simp
  have hcat : s ++ bs (List.replicate k (0 : UInt8)) = pad s k := by
    apply ByteArray.ext
    apply Array.toList_inj.1
    simp [pad, bs]
  clear hrow hz0 hz1 hz2 hi
  go_enter Tryd.func10, Tryd.ntmps10
  go_wp2_with fail
  refine (next_any s j (by omega) (by omega) (by omega) _).mono ?_
  rintro e w1 ⟨rfl, hB⟩
  obtain ⟨a1, b1, h1⟩ := nextV_form s.data.toList (j : Int)
  have H1 := Lib.hid h1
  clear h1
  rw [H1.out]
  have hw1 : Below w.heap.size w w1 := ((Below.refl _ w).alloc (Nat.le_refl _) _).trans (hB.mono (by simp))
  clear hB hmk hconv hcat hbz
  go_wp2_with fail
  refine (next_any (pad s k) j (by omega) (by omega) (by omega) _).mono ?_
  rintro e w2 ⟨rfl, hB⟩
  rw [nextV_pad, H1.out]
  have hw2 : Below w.heap.size w w2 := hw1.trans (hB.mono hw1.size)
  clear hB hw1
  go_wp2_with fail
  refine (fixed_any _).mono ?_
  rintro e w3 ⟨rfl, hB⟩
  have hw3 : Below w.heap.size w w3 := hw2.trans (hB.mono hw2.size)
  clear hB hw2
  go_wp2_with fail
  refine (cnt_b s _ (by omega)).mono ?_
  rintro e w' ⟨rfl, rfl⟩
  go_wp2_with fail
  refine (cnt_b (pad s k) _ (by omega)).mono ?_
  rintro e w' ⟨rfl, rfl⟩
  rw [cnt_pad]
  go_wp2_with fail
  refine (list_any s (by omega) _).mono ?_
  rintro e w4 ⟨v1, rfl, hown1, hB⟩
  have HI1 := Lib.hid (intsAt_of_owns hown1)
  have hlen := length_nums s.data.toList 0
  rw [show s.data.toList.length = s.size by simp] at hlen
  have hw4 : Below w.heap.size w w4 := hw3.trans (hB.mono hw3.size)
  clear hB hw3 hown1
  go_wp2_with fail
  refine (list_any (pad s k) (by omega) _).mono ?_
  rintro e w5 ⟨v2, rfl, hown2, hB⟩
  rw [nums_pad] at hown2
  have HI2 := Lib.hid (intsAt_of_owns hown2)
  have HI3 := Lib.hid (HI1.out.later hB)
  have hw5 : Below w.heap.size w w5 := hw4.trans (hB.mono hw4.size)
  clear hB hw4 hown2
  go_wp2_with fail
  refine (same_any _ _ _ _ (by rw [length_toInts]; omega) (by rw [length_toInts]; omega) _ HI3.out HI2.out).mono ?_
  rintro e w6 ⟨rfl, hB⟩
  rw [show decide (toInts (nums s.data.toList 0) = toInts (nums s.data.toList 0)) = true by simp]
  have hw6 : Below w.heap.size w w6 := hw5.trans (hB.mono hw5.size)
  clear hB hw5
  go_wp2_with fail
  refine (and_b s t _ (by omega) (by omega)).mono ?_
  rintro e w7 ⟨rfl, hB⟩
  have hw7 : Below w.heap.size w w7 := hw6.trans (hB.mono hw6.size)
  clear hw6 hB
  go_wp2_with fail
  refine (and_b (pad s k) t _ (by omega) (by omega)).mono ?_
  rintro e w8 ⟨rfl, hB⟩
  rw [and_pad]
  have hw8 : Below w.heap.size w w8 := hw7.trans (hB.mono hw7.size)
  clear hw7 hB
  go_wp2_with fail
  refine (or_b s t _ (by omega) (by omega)).mono ?_
  rintro e w9 ⟨rfl, hB⟩
  have hw9 : Below w.heap.size w w9 := hw8.trans (hB.mono hw8.size)
  clear hw8 hB
  go_wp2_with fail
  refine (or_b (pad s k) t _ (by omega) (by omega)).mono ?_
  rintro e w10 ⟨rfl, hB⟩
  rw [or_pad]
  have hw10 : Below w.heap.size w w10 := hw9.trans (hB.mono hw9.size)
  clear hw9 hB
  go_wp2_with fail
  refine (sub_b t s _ (by omega) (by omega)).mono ?_
  rintro e w11 ⟨rfl, hB⟩
  have hw11 : Below w.heap.size w w11 := hw10.trans (hB.mono hw10.size)
  clear hw10 hB
  go_wp2_with fail
  refine (sub_b t (pad s k) _ (by omega) (by omega)).mono ?_
  rintro e w12 ⟨rfl, hB⟩
  rw [sub_pad]
  have hw12 : Below w.heap.size w w12 := hw11.trans (hB.mono hw11.size)
  clear hw11 hB
  go_wp2_with fail
  refine (or_b (pad s k) ⟨#[]⟩ _ (by omega) (by decide)).mono ?_
  rintro e w13 ⟨rfl, hB⟩
  rw [or_pad]
  have hw13 : Below w.heap.size w w13 := hw12.trans (hB.mono hw12.size)
  clear hw12 hB
  go_wp2_with fail
  refine (or_b s ⟨#[]⟩ _ (by omega) (by decide)).mono ?_
  rintro e w14 ⟨rfl, hB⟩
  have hw14 : Below w.heap.size w w14 := hw13.trans (hB.mono hw13.size)
  clear hw13 hB
  go_wp2
  go_ret
  exact ⟨rfl, hw14⟩
theorem walk (s t : ByteArray) (n : Int) (w : World) (hs : s.size ≤ 140737488351232) (ht : t.size ≤ 140737488351232) (_hn : -9223372036854775808 ≤ n ∧ n ≤ 9223372036854775807)
    (hcond : s.data.toList.length + 1 + (t.data.toList.length + 1 + (1 + 0)) ≤ 1048576) :
    Calls Tryd.prog 10 #[.string s, .string t, .int .i64 n] w fun r w' => r = .returned (.bool true) ∧ Below w.heap.size w w' := by
  have e1 : s.data.toList.length = s.size := by simp
  have e2 : t.data.toList.length = t.size := by simp
  exact walk' s t n w (by omega) (by omega)

/-- WHAT THE WALK GIVES, for every argument that can be read. -/
theorem contract (H : Type) (enc : TypeId × Value → H) (W : World) (base : Nat) (args : Array Value) (ds gs : List (DataW H)) (before : List MemPlace)
    (hval : ∀ (j : Nat) t v, Tryd.f10.params[j]? = some t → args[j]? = some v → Value.okWide Tryd.prog W .any base t v)
    (hW : DataW.Whole enc Tryd.prog Tryd.f10.params.toList Rows.setsEndsSpec.vars false W args.toList ds gs before)
    (hreach : (DataW.weightsEach Tryd.prog (Tryd.f10.params.toList) ds).all (· ≤ reachBytes) = true) (hcond : Rows.uptoBulkAll ds ≤ 1048576) :
    Calls Tryd.prog 10 args W fun e W' => ∃ v, e = .returned v ∧ Rows.setsEndsSpec.post enc Tryd.prog Tryd.f10 false true false false W args v W' := by
  have hW' := hW
  obtain ⟨p, q, hA0, hV, rfl, hfz, hnd⟩ := hW
  have hA : DataW.TrodAll enc Tryd.prog W 0 (fun _ => true) true Tryd.f10.params.toList args.toList ds p := hA0
  rw [Tryd.params10] at hA hval hreach
  obtain ⟨v0, v1, v2, d0, d1, d2, p0, p1, p2, rfl, rfl, rfl, h0, h1, h2⟩ := trodAll_three hA
  obtain ⟨rfl, rfl⟩ := trodVars_none hV
  obtain ⟨s0, rfl, rfl, rfl, ws0⟩ := Go.ChangeMaps.open_string Tryd.underlying9 (hval 0 9 v0 rfl rfl) h0
  have r0 := reach_size (sized_string hreach (j := 0) rfl rfl)
  obtain ⟨s1, rfl, rfl, rfl, ws1⟩ := Go.ChangeMaps.open_string Tryd.underlying9 (hval 1 9 v1 rfl rfl) h1
  have r1 := reach_size (sized_string hreach (j := 1) rfl rfl)
  obtain ⟨n2, rfl, rfl, rfl, wn2⟩ := open_int Tryd.underlying3 (hval 2 3 v2 rfl rfl) h2
  have r2 := int_range wn2
  clear hA0 hval
  simp only [List.append_nil] at hW'
  simp only [Rows.uptoBulkAll, Rows.uptoBulk] at hcond
  refine (walk s0 s1 n2 W r0 r1 r2 hcond).mono fun e W' ⟨he, hB⟩ => ?_
  subst he
  exact ⟨_, rfl, post_of_below (pa := []) (pv := []) hW' (fun _ _ _ => trodAll_mk1 (shut_bool Tryd.underlying4 _)) (fun _ _ => trodAll_mk3 (Go.ChangeMaps.shut_string Tryd.underlying9 ws0) (Go.ChangeMaps.shut_string Tryd.underlying9 ws1) (shut_int Tryd.underlying3 wn2)) (fun _ _ => rfl) rfl hB (ok_one (by kernel_rfl) rfl (okWide_bool_mk Tryd.underlying4 _))⟩

theorem reads (os : Os) {H : Type} (enc : TypeId × Value → H) : ∃ places, DataW.whole enc Tryd.prog ((laidWorld os).forCall (fun _ _ => 0) ⟨#[], #[.string ⟨#[]⟩, .string ⟨#[]⟩, .int .i64 0], []⟩).memory Tryd.f10.params.toList Rows.setsEndsSpec.vars false (#[.string ⟨#[]⟩, .string ⟨#[]⟩, .int .i64 0] : Array Value).toList 8 = some ([.lit (.string []), .lit (.string []), .lit (.int .i64 0)], [], places) :=
  ⟨[], by kernel_rfl⟩

set_option maxRecDepth 100000 in
theorem lifted (os : Os) (started : os.Started) (H : Type) (enc : TypeId × Value → H) (F : Stop.Interp) :
    ReturnsInHanded {} Tryd.checked os 10 .any ((Rows.OpenSpec.upto Rows.setsEndsSpec).preRow enc Tryd.prog Tryd.f10 Rows.setsEndsUptoRow.domain false Rows.setsEndsUptoRow.laid) (((Rows.OpenSpec.upto Rows.setsEndsSpec).at F).post enc Tryd.prog Tryd.f10 false true false false) := by
  obtain ⟨places, hx⟩ := reads os enc
  refine returnsInHanded_of_row (C := Tryd.checked) (s := Rows.OpenSpec.upto Rows.setsEndsSpec) own started (by kernel_rfl) Tryd.func10
    (witness_row_at (enc := enc) (C := Tryd.checked) false (laidWorld os) #[.string ⟨#[]⟩, .string ⟨#[]⟩, .int .i64 0] rfl (by kernel_rfl) (by kernel_rfl) (by kernel_rfl)
      (OpenSpec.preRow_of_cond 8 hx (by kernel_rfl) (fun k hk => by cases hk; kernel_rfl) (by kernel_rfl) (laid_met os _))) ?_
  intro W base args ds gs before hval hW _ hcond hreach hL _ _
  obtain ⟨p, q, hA0, hV, hpq, hfz, hnd⟩ := id hW
  obtain ⟨rfl, _⟩ := trodVars_none hV
  rw [List.append_nil] at hreach
  exact contract H enc W base args ds [] before hval hW hreach (by have h := of_decide_eq_true (hcond _ rfl); simpa using h)

theorem said : Rows.SetsEndsUptoSaid :=
  OpenClaim.holds_of_cond 10 Tryd.f10 rfl rfl rfl rfl rfl rfl rfl ⟨rfl, rfl, rfl, rfl, rfl⟩ rfl rfl rfl rfl rfl (by kernel_rfl) Tryd.func10 (by kernel_rfl)
    (of_decide_eq_true (by kernel_rfl)) (by unfold Func.isWrapper; first | (rw [if_pos (by decide +kernel)]; kernel_rfl) | (rw [if_neg (by decide +kernel)]; exact ⟨rfl, rfl⟩))
    (fun os started H enc _ F => by rw [OpenClaim.pre_eq_preRow]; exact lifted os started H enc F)

theorem plain (f : FuncId) (fn : Func) (hf : Tryd.pinned.checked.prog.funcNamed "stillage/stillagelaw01.SetsEnds" = some f) (hfn : Tryd.pinned.checked.prog.funcs[f]? = some fn) :
    false = Tryd.pinned.checked.prog.looks [] ∧ ∀ (j : Nat) t, fn.params[j]? = some t → Tryd.pinned.checked.prog.wantsStandIn t = false := by
  obtain rfl : f = 10 := Option.some.inj ((show Tryd.prog.funcNamed "stillage/stillagelaw01.SetsEnds" = some 10 by kernel_rfl).symm.trans hf) |>.symm
  obtain rfl : fn = Tryd.f10 := (Option.some.inj (Tryd.func10.symm.trans hfn)).symm
  refine ⟨by kernel_rfl, fun j t ht => ?_⟩
  rw [Tryd.params10] at ht
  have hm : t ∈ [9, 9, 3] := by simpa using Array.mem_of_getElem? ht
  have hall : ([9, 9, 3].all fun u => !Tryd.prog.wantsStandIn u) = true := by kernel_rfl
  exact (show Tryd.prog.wantsStandIn t = false by simpa using List.all_eq_true.1 hall t hm)

/-- THE CARD -/
theorem card : Rows.SetsEndsUptoCardSaid :=
  Claim7.holds_tied_plain_at .later [] _ _ _ _ said (fun _ h => by cases h) (by kernel_rfl) (fun _ h => by cases h) setsEndsUpto_row_tie rfl ⟨rfl, rfl⟩ (by kernel_rfl) rfl plain (by kernel_rfl)

end Go.Proofs.YtoafojddochcgaaDoor.setsEnds
