/-
  SetsWalk: for every text the law returns true; the text reads behind the call as it read before. Conditions: those of its row (the two tables of unicode/utf8 lie as the program's text lays them: the card ties them).
-/
import Derived.Test.YtoafojddochcgaaDoorLawFirst
namespace Go.Proofs.YtoafojddochcgaaDoor.setsWalk
open Go.ChangeShapes Go.WideShapes Go.ChangeAt Go.RowKit Go SM
open setsFirst (cut300 run_spec)

/-- the numbers from a on: none, or the first one and those behind it -/
theorem nums_next (l : List UInt8) (a : Nat) : nums l a = [] ∨ ∃ x, nums l a = x :: nums l (x + 1) ∧ a ≤ x ∧ x < 8 * l.length := by
  have hs := sorted_nums l a
  have hm := fun n => mem_nums (l := l) (from_ := a) (n := n)
  cases hn : nums l a with
  | nil => exact .inl rfl
  | cons x r =>
    rw [hn] at hs hm
    rw [List.pairwise_cons] at hs
    have hx := (hm x).1 (by simp)
    refine .inr ⟨x, ?_, hx.1, ?_⟩
    · congr 1
      refine sorted_ext _ _ hs.2 (sorted_nums _ _) fun n => ?_
      rw [mem_nums]
      constructor
      · intro h
        exact ⟨hs.1 n h, ((hm n).1 (by simp [h])).2⟩
      · rintro ⟨h1, h2⟩
        have := (hm n).2 ⟨by omega, h2⟩
        rcases List.mem_cons.1 this with h | h
        · omega
        · exact h
    · rcases Nat.lt_or_ge (x / 8) l.length with h | h
      · omega
      · rw [bit_ge h] at hx; cases hx.2
/-- the gaps from a on -/
def gapsL (l : List UInt8) (a : Nat) : List Nat := (List.range (8 * l.length)).filter fun n => decide (a ≤ n) && !bit l n
theorem mem_gapsL {l : List UInt8} {a n : Nat} : n ∈ gapsL l a ↔ n < 8 * l.length ∧ a ≤ n ∧ bit l n = false := by
  simp [gapsL]
theorem sorted_gapsL (l : List UInt8) (a : Nat) : (gapsL l a).Pairwise (· < ·) := List.Pairwise.filter _ List.pairwise_lt_range
theorem gapsL_none (l : List UInt8) (a : Nat) (h : 8 * l.length ≤ run (nums l a) a) : gapsL l a = [] := by
  obtain ⟨_, _, h3, _⟩ := run_spec l a
  refine List.eq_nil_iff_forall_not_mem.2 fun n hn => ?_
  obtain ⟨h1, h2, h4⟩ := mem_gapsL.1 hn
  rw [h3 n h2 (by omega)] at h4; cases h4
theorem gapsL_some (l : List UInt8) (a : Nat) (h : run (nums l a) a < 8 * l.length) : gapsL l a = run (nums l a) a :: gapsL l (run (nums l a) a + 1) := by
  obtain ⟨h1, _, h3, h4⟩ := run_spec l a
  generalize run (nums l a) a = g at *
  refine sorted_ext _ _ (sorted_gapsL _ _) ?_ fun n => ?_
  · rw [List.pairwise_cons]
    exact ⟨fun n hn => by have := (mem_gapsL.1 hn).2.1; omega, sorted_gapsL _ _⟩
  · rw [List.mem_cons, mem_gapsL, mem_gapsL]
    constructor
    · rintro ⟨h5, h6, h7⟩
      by_cases hn : n = g
      · exact .inl hn
      · right
        refine ⟨h5, ?_, h7⟩
        rcases Nat.lt_or_ge n g with h8 | h8
        · rw [h3 n h6 h8] at h7; cases h7
        · omega
    · rintro (rfl | ⟨h5, h6, h7⟩)
      · exact ⟨h, h1, h4⟩
      · exact ⟨h5, by omega, h7⟩
theorem filter_both (p : Nat → Bool) : ∀ l : List Nat, (l.filter p).length + (l.filter fun n => !p n).length = l.length
  | [] => rfl
  | x :: l => by
    have := filter_both p l
    simp only [List.filter_cons]
    cases p x <;> simp <;> omega
theorem all_places (l : List UInt8) : cnt l + (gapsL l 0).length = 8 * l.length := by
  have h := filter_both (bit l) (List.range (8 * l.length))
  rw [List.length_range] at h
  have e1 : ((List.range (8 * l.length)).filter (bit l)).length = cnt l := by
    rw [← length_nums_zero, ← upTo_all]; rfl
  have e2 : gapsL l 0 = (List.range (8 * l.length)).filter fun n => !bit l n := by
    unfold gapsL; simp
  rw [e1, ← e2] at h
  exact h

set_option maxRecDepth 100000 in
set_option maxHeartbeats 8000000 in
theorem walk (s : ByteArray) (w : World) (hs : s.size ≤ 140737488351232) :
    Calls Tryd.prog 9 #[.string s] w fun r w' => r = .returned (.bool true) ∧ Below w.heap.size w w' := by
  obtain ⟨S, eS, hS⟩ := cut300 s hs
  have HL := Lib.hid (show S.data.toList.length = S.size by simp)
  have hc8 : cntB S ≤ 8 * S.size := cntB_le S
  have HC := Lib.hid (show (nums S.data.toList 0).length = cntB S from length_nums_zero S.data.toList)
  have HA := Lib.hid (show cntB S + (gapsL S.data.toList 0).length = 8 * S.size by
    have := all_places S.data.toList
    rw [HL.out] at this; exact this)
  go_enter Tryd.func9, Tryd.ntmps9
  go_wp2
  go_loopw [3, 4, 6, 7, 8] (fun a m i _ _ wr => ∃ (q b : Nat), q ≤ 2400 ∧ i = .int .i64 q ∧ m = .int .i64 q ∧ a = .int .i64 b ∧ b ≤ 2400 ∧ (nums S.data.toList b).length + q = cntB S ∧ Below w.heap.size w wr) (fun _ _ i _ _ _ => 2500 - (intOf i).toNat)
  case atStart => exact ⟨0, 0, by omega, rfl, rfl, rfl, by omega, by rw [HC.out]; rfl, Below.refl _ _⟩
  case round =>
    obtain ⟨q, b, hq, rfl, rfl, rfl, hb, hnq, hB⟩ := hrel
    have HQ := Lib.hid hnq
    clear hnq
    rcases nums_next S.data.toList b with h0 | ⟨x, h1, h2, h3⟩
    · obtain rfl : q = cntB S := by have := HQ.out; rw [h0] at this; simpa using this
      have HV := Lib.hid (show nextV S.data.toList (b : Int) = .tuple #[.int .i64 0, .bool false] by unfold nextV; rw [Int.toNat_natCast, h0]; rfl)
      clear h0 HQ
      go_wp2_with fail
      refine (next_any S b (by omega) (by omega) (by omega) _).mono ?_
      rintro e w1 ⟨rfl, hB1⟩
      rw [HV.out]
      have hw1 : Below w.heap.size w w1 := hB.trans (hB1.mono hB.size)
      clear hB hB1
      go_wp2
      go_loopw [3, 5, 9, 10, 11] (fun a m i _ _ wr => ∃ (q b : Nat), q ≤ 2400 ∧ i = .int .i64 q ∧ m = .int .i64 q ∧ a = .int .i64 b ∧ b ≤ 2401 ∧ (gapsL S.data.toList b).length + q = (gapsL S.data.toList 0).length ∧ Below w.heap.size w wr) (fun _ _ i _ _ _ => 2500 - (intOf i).toNat)
      case atStart => exact ⟨0, 0, by omega, rfl, rfl, rfl, by omega, rfl, hw1⟩
      case round =>
        obtain ⟨p, d, hp, rfl, rfl, rfl, hd, hnp, hB⟩ := hrel
        have HP := Lib.hid hnp
        clear hnp
        have hgv := gapV_no (l := S.data.toList) (f := (d : Int)) (e := 8 * (S.size : Int)) (k := d) (by simp)
        have hgy := gapV_yes (l := S.data.toList) (f := (d : Int)) (e := 8 * (S.size : Int)) (k := d) (g := run (nums S.data.toList d) d) (by simp) rfl
        have h0 := gapsL_none S.data.toList d
        have h1 := gapsL_some S.data.toList d
        have hge := (run_spec S.data.toList d).1
        rw [HL.out] at h0 h1
        generalize run (nums S.data.toList d) d = g at hgv hgy h0 h1 hge
        by_cases hg : 8 * S.size ≤ g
        · have HV := Lib.hid (hgv (by omega))
          have hpe : p + cntB S = 8 * S.size := by
            have h2 := HP.out
            have h3 := HA.out
            rw [h0 hg] at h2
            simp at h2; omega
          clear hgv hgy h0 h1 HP
          go_wp2_with fail
          refine (gap_any S d (8 * (S.size : Int)) (by omega) (by omega) (by omega) (by omega) (by omega) _).mono ?_
          rintro e w2 ⟨rfl, hB2⟩
          rw [HV.out]
          have hw2 : Below w.heap.size w w2 := hB.trans (hB2.mono hB.size)
          clear hB hB2
          go_wp2_with fail
          refine (fixed_any _).mono ?_
          rintro e w3 ⟨rfl, hB3⟩
          have hw3 : Below w.heap.size w w3 := hw2.trans (hB3.mono hw2.size)
          clear hw2 hB3
          go_wp2_with fail
          refine (cnt_b S _ (by omega)).mono ?_
          rintro e w' ⟨rfl, rfl⟩
          have hsum : ((cntB S : Int) + (p : Int) == 8 * (S.size : Int)) = true := by simp; omega
          clear hpe
          go_wp2
          go_ret
          exact ⟨rfl, hw3⟩
        · have HV := Lib.hid (hgy (by omega))
          have hcons := h1 (by omega)
          have HP2 := Lib.hid (show (gapsL S.data.toList (g + 1)).length + (p + 1) = (gapsL S.data.toList 0).length by
            have h2 := HP.out
            rw [hcons, List.length_cons] at h2; omega)
          have hp2 : p + 1 ≤ 2400 := by
            have := HP2.out
            have := HA.out
            omega
          clear hgv hgy h0 h1 HP hcons
          go_wp2_with fail
          refine (gap_any S d (8 * (S.size : Int)) (by omega) (by omega) (by omega) (by omega) (by omega) _).mono ?_
          rintro e w2 ⟨rfl, hB2⟩
          rw [HV.out]
          have hw2 : Below w.heap.size w w2 := hB.trans (hB2.mono hB.size)
          clear hB hB2
          go_wp2
          go_roundw
          case rel => exact ⟨p + 1, g + 1, hp2, by go_num, by go_num, by go_num, by omega, HP2.out, hw2⟩
          case measure => simp [intOf]; omega
    · rw [HL.out] at h3
      have HV := Lib.hid (show nextV S.data.toList (b : Int) = .tuple #[.int .i64 x, .bool true] by unfold nextV; rw [Int.toNat_natCast, h1]; rfl)
      have HQ2 := Lib.hid (show (nums S.data.toList (x + 1)).length + (q + 1) = cntB S by
        have h4 := HQ.out
        rw [h1, List.length_cons] at h4; omega)
      have hq2 : q + 1 ≤ 2400 := by have := HQ2.out; omega
      clear h1 HQ
      go_wp2_with fail
      refine (next_any S b (by omega) (by omega) (by omega) _).mono ?_
      rintro e w1 ⟨rfl, hB1⟩
      rw [HV.out]
      have hw1 : Below w.heap.size w w1 := hB.trans (hB1.mono hB.size)
      clear hB hB1
      go_wp2
      go_roundw
      case rel => exact ⟨q + 1, x + 1, hq2, by go_num, by go_num, by go_num, by omega, HQ2.out, hw1⟩
      case measure => simp [intOf]; omega

/-- WHAT THE WALK GIVES, for every argument that can be read. -/
theorem contract (H : Type) (enc : TypeId × Value → H) (W : World) (base : Nat) (args : Array Value) (ds gs : List (DataW H)) (before : List MemPlace)
    (hval : ∀ (j : Nat) t v, Tryd.f9.params[j]? = some t → args[j]? = some v → Value.okWide Tryd.prog W .any base t v)
    (hW : DataW.Whole enc Tryd.prog Tryd.f9.params.toList Rows.setsWalkSpec.vars false W args.toList ds gs before)
    (hreach : (DataW.weightsEach Tryd.prog (Tryd.f9.params.toList) ds).all (· ≤ reachBytes) = true) :
    Calls Tryd.prog 9 args W fun e W' => ∃ v, e = .returned v ∧ Rows.setsWalkSpec.post enc Tryd.prog Tryd.f9 false true false false W args v W' := by
  have hW' := hW
  obtain ⟨p, q, hA0, hV, rfl, hfz, hnd⟩ := hW
  have hA : DataW.TrodAll enc Tryd.prog W 0 (fun _ => true) true Tryd.f9.params.toList args.toList ds p := hA0
  rw [Tryd.params9] at hA hval hreach
  obtain ⟨v0, d0, rfl, rfl, h0⟩ := trodAll_one hA
  obtain ⟨rfl, rfl⟩ := trodVars_none hV
  obtain ⟨s0, rfl, rfl, rfl, ws0⟩ := Go.ChangeMaps.open_string Tryd.underlying9 (hval 0 9 v0 rfl rfl) h0
  have r0 := reach_size (sized_string hreach (j := 0) rfl rfl)
  clear hA0 hval
  simp only [List.append_nil] at hW'
  refine (walk s0 W r0).mono fun e W' ⟨he, hB⟩ => ?_
  subst he
  exact ⟨_, rfl, post_of_below (pa := []) (pv := []) hW' (fun _ _ _ => trodAll_mk1 (shut_bool Tryd.underlying4 _)) (fun _ _ => trodAll_mk1 (Go.ChangeMaps.shut_string Tryd.underlying9 ws0)) (fun _ _ => rfl) rfl hB (ok_one (by kernel_rfl) rfl (okWide_bool_mk Tryd.underlying4 _))⟩

theorem reads (os : Os) {H : Type} (enc : TypeId × Value → H) : ∃ places, DataW.whole enc Tryd.prog ((laidWorld os).forCall (fun _ _ => 0) ⟨#[], #[.string ⟨#[]⟩], []⟩).memory Tryd.f9.params.toList Rows.setsWalkSpec.vars false (#[.string ⟨#[]⟩] : Array Value).toList 8 = some ([.lit (.string [])], [], places) :=
  ⟨[], by kernel_rfl⟩

set_option maxRecDepth 100000 in
theorem lifted (os : Os) (started : os.Started) (H : Type) (enc : TypeId × Value → H) (F : Stop.Interp) :
    ReturnsInHanded {} Tryd.checked os 9 .any ((OpenSpec.ofChange Rows.setsWalkSpec).preRow enc Tryd.prog Tryd.f9 Rows.setsWalkRow.domain false Rows.setsWalkRow.laid) (((OpenSpec.ofChange Rows.setsWalkSpec).at F).post enc Tryd.prog Tryd.f9 false true false false) := by
  obtain ⟨places, hx⟩ := reads os enc
  refine returnsInHanded_of_row (C := Tryd.checked) (s := OpenSpec.ofChange Rows.setsWalkSpec) own started (by kernel_rfl) Tryd.func9
    (witness_row_at (enc := enc) (C := Tryd.checked) false (laidWorld os) #[.string ⟨#[]⟩] rfl (by kernel_rfl) (by kernel_rfl) (by kernel_rfl)
      (OpenSpec.preRow_of_cond 8 hx (by kernel_rfl) (fun k hk => by cases hk) (by kernel_rfl) (laid_met os _))) ?_
  intro W base args ds gs before hval hW _ hcond hreach hL _ _
  obtain ⟨p, q, hA0, hV, hpq, hfz, hnd⟩ := id hW
  obtain ⟨rfl, _⟩ := trodVars_none hV
  rw [List.append_nil] at hreach
  exact contract H enc W base args ds [] before hval hW hreach

theorem said : Rows.SetsWalkSaid :=
  OpenClaim.holds_of_cond 9 Tryd.f9 rfl rfl rfl rfl rfl rfl rfl ⟨rfl, rfl, rfl, rfl, rfl⟩ rfl rfl rfl rfl rfl (by kernel_rfl) Tryd.func9 (by kernel_rfl)
    (of_decide_eq_true (by kernel_rfl)) (by unfold Func.isWrapper; first | (rw [if_pos (by decide +kernel)]; kernel_rfl) | (rw [if_neg (by decide +kernel)]; exact ⟨rfl, rfl⟩))
    (fun os started H enc _ F => by rw [OpenClaim.pre_eq_preRow]; exact lifted os started H enc F)

theorem plain (f : FuncId) (fn : Func) (hf : Tryd.pinned.checked.prog.funcNamed "stillage/stillagelaw01.SetsWalk" = some f) (hfn : Tryd.pinned.checked.prog.funcs[f]? = some fn) :
    false = Tryd.pinned.checked.prog.looks [] ∧ ∀ (j : Nat) t, fn.params[j]? = some t → Tryd.pinned.checked.prog.wantsStandIn t = false := by
  obtain rfl : f = 9 := Option.some.inj ((show Tryd.prog.funcNamed "stillage/stillagelaw01.SetsWalk" = some 9 by kernel_rfl).symm.trans hf) |>.symm
  obtain rfl : fn = Tryd.f9 := (Option.some.inj (Tryd.func9.symm.trans hfn)).symm
  refine ⟨by kernel_rfl, fun j t ht => ?_⟩
  rw [Tryd.params9] at ht
  have hm : t ∈ [9] := by simpa using Array.mem_of_getElem? ht
  have hall : ([9].all fun u => !Tryd.prog.wantsStandIn u) = true := by kernel_rfl
  exact (show Tryd.prog.wantsStandIn t = false by simpa using List.all_eq_true.1 hall t hm)

/-- THE CARD -/
theorem card : Rows.SetsWalkCardSaid :=
  Claim7.holds_tied_plain_at .later [] _ _ _ _ said (fun _ h => by cases h) (by kernel_rfl) (fun _ h => by cases h) setsWalk_row_tie rfl ⟨rfl, rfl⟩ (by kernel_rfl) rfl plain (by kernel_rfl)

end Go.Proofs.YtoafojddochcgaaDoor.setsWalk
