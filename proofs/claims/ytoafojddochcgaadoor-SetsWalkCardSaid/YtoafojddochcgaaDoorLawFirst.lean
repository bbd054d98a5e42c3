/-
  SetsFirst: for every text and every number the law returns true; each argument reads behind the call as it read before. Conditions: those of its row (the two tables of unicode/utf8 lie as the program's text lays them: the card ties them).
-/
import Derived.Test.YtoafojddochcgaaDoorSetsG2
namespace Go.Proofs.YtoafojddochcgaaDoor.setsFirst
open Go.ChangeShapes Go.WideShapes Go.ChangeAt Go.RowKit Go SM

theorem and_4095 (n : Int) : ∃ k : Nat, k < 4096 ∧ bits .and .i64 n 4095 = (k : Int) := by
  refine ⟨(BitVec.ofInt 64 n).toNat &&& 4095, ?_, ?_⟩
  · exact Nat.lt_of_le_of_lt Nat.and_le_right (by decide)
  · show IntKind.i64.wrap ((BitVec.ofInt 64 n &&& BitVec.ofInt 64 4095).toNat : Int) = _
    have e : (BitVec.ofInt 64 4095).toNat = 4095 := by decide
    have hlt : (BitVec.ofInt 64 n).toNat &&& 4095 < 4096 := Nat.lt_of_le_of_lt Nat.and_le_right (by decide)
    rw [BitVec.toNat_and, e]
    generalize (BitVec.ofInt 64 n).toNat &&& 4095 = m at hlt ⊢
    simp [IntKind.wrap, IntKind.bits, IntKind.signed]
    omega
/-- the first gap from f on: there is one -/
theorem gap_ex (l : List UInt8) : ∀ (m f : Nat), 8 * l.length ≤ f + m → ∃ g, f ≤ g ∧ g ≤ max f (8 * l.length) ∧ (∀ j, f ≤ j → j < g → bit l j = true) ∧ bit l g = false
  | 0, f, h => ⟨f, Nat.le_refl _, by omega, fun j h1 h2 => by omega, bit_ge (by omega)⟩
  | m + 1, f, h => by
    cases hb : bit l f with
    | false => exact ⟨f, Nat.le_refl _, by omega, fun j h1 h2 => by omega, hb⟩
    | true =>
      have hf : f < 8 * l.length := by
        rcases Nat.lt_or_ge (f / 8) l.length with h | h
        · omega
        · rw [bit_ge h] at hb; cases hb
      obtain ⟨g, h1, h2, h3, h4⟩ := gap_ex l m (f + 1) (by omega)
      refine ⟨g, by omega, by omega, fun j h5 h6 => ?_, h4⟩
      by_cases hj : j = f
      · rw [hj]; exact hb
      · exact h3 j (by omega) h6
theorem run_spec (l : List UInt8) (f : Nat) : f ≤ run (nums l f) f ∧ run (nums l f) f ≤ max f (8 * l.length) ∧ (∀ j, f ≤ j → j < run (nums l f) f → bit l j = true) ∧ bit l (run (nums l f) f) = false := by
  obtain ⟨g, h1, h2, h3, h4⟩ := gap_ex l (8 * l.length) f (by omega)
  rw [run_stop l f g h1 h3 h4]
  exact ⟨h1, h2, h3, h4⟩
/-- what Next finds, and what is before it -/
theorem next_spec (l : List UInt8) (f : Nat) : (nextV l f = .tuple #[.int .i64 0, .bool false] ∧ ∀ j, f ≤ j → bit l j = false) ∨
    ∃ x : Nat, nextV l f = .tuple #[.int .i64 x, .bool true] ∧ f ≤ x ∧ bit l x = true ∧ x < 8 * l.length ∧ ∀ j, f ≤ j → j < x → bit l j = false := by
  have hs := sorted_nums l f
  have hm := fun n => mem_nums (l := l) (from_ := f) (n := n)
  unfold nextV
  rw [Int.toNat_natCast]
  cases hn : nums l f with
  | nil =>
    refine .inl ⟨rfl, fun j hj => ?_⟩
    cases hb : bit l j with
    | false => rfl
    | true =>
      have := (hm j).2 ⟨hj, hb⟩
      rw [hn] at this; cases this
  | cons x r =>
    rw [hn, List.pairwise_cons] at hs
    have hx := (hm x).1 (by rw [hn]; simp)
    refine .inr ⟨x, rfl, hx.1, hx.2, ?_, fun j h1 h2 => ?_⟩
    · rcases Nat.lt_or_ge (x / 8) l.length with h | h
      · omega
      · rw [bit_ge h] at hx; cases hx.2
    · cases hb : bit l j with
      | false => rfl
      | true =>
        have hj := (hm j).2 ⟨h1, hb⟩
        rw [hn] at hj
        rcases List.mem_cons.1 hj with rfl | hj
        · omega
        · have := hs.1 j hj; omega

/-- the text's first 300 letters -/
theorem cut300 (s : ByteArray) (h : s.size ≤ 140737488351232) : ∃ S : ByteArray, s.extract 0 (min (s.size : Int) 300).toNat = S ∧ S.size ≤ 300 := by
  refine ⟨_, rfl, ?_⟩
  rw [ByteArray.size_extract]; omega

set_option maxRecDepth 100000 in
set_option maxHeartbeats 8000000 in
theorem walk (s : ByteArray) (n : Int) (w : World) (hs : s.size ≤ 140737488351232) (_hn : -9223372036854775808 ≤ n ∧ n ≤ 9223372036854775807) :
    Calls Tryd.prog 11 #[.string s, .int .i64 n] w fun r w' => r = .returned (.bool true) ∧ Below w.heap.size w w' := by
  obtain ⟨k, hk, ek⟩ := and_4095 n
  obtain ⟨S, eS, hS⟩ := cut300 s hs
  have hL : S.data.toList.length = S.size := by simp
  have HL := Lib.hid hL
  have HN := Lib.hid (next_spec S.data.toList k)
  have HR := Lib.hid (run_spec S.data.toList k)
  clear hL
  go_enter Tryd.func11, Tryd.ntmps11
  go_wp2_with fail
  rcases HN.out with ⟨h1, h2⟩ | ⟨x, h1, h2, h3, h4, h5⟩
  · have H1 := Lib.hid h1
    have H2 := Lib.hid h2
    clear h1 h2 HN
    refine (next_any S k (by omega) (by omega) (by omega) _).mono ?_
    rintro e w1 ⟨rfl, hw1⟩
    rw [H1.out]
    go_wp2
    go_loop [8] (fun i => ∃ q : Nat, k ≤ q ∧ q ≤ max k (8 * S.size) ∧ i = .int .i64 q) (fun i => max k (8 * S.size) - (intOf i).toNat)
    case atStart => exact ⟨k, Nat.le_refl _, by omega, rfl⟩
    case round =>
      obtain ⟨q, hq1, hq2, rfl⟩ := hrel
      by_cases hq : q < 8 * S.size
      · have HB := Lib.hid (show bitI S.data.toList (q : Int) = false by rw [bitI_nat]; exact H2.out q hq1)
        go_wp2_with fail
        refine (has_any S q _ (by omega) (by omega) (by omega)).mono ?_
        rintro e w' ⟨rfl, rfl⟩
        rw [HB.out]
        go_wp2
        go_round
        case rel => exact ⟨q + 1, by omega, by omega, by go_num⟩
        case measure => simp [intOf]; omega
      · have hqi : (8 * (S.size : Int)) ≤ (q : Int) := by omega
        obtain ⟨hg1, hg2, hg3, hg4⟩ := HR.out
        have HG := Lib.hid (gapV_yes (l := S.data.toList) (f := (k : Int)) (e := 5000) (k := k) (by simp) rfl (by rw [HL.out] at hg2; omega))
        rw [HL.out] at hg2
        have HG3 := Lib.hid hg3
        have HG4 := Lib.hid (show bitI S.data.toList ((run (nums S.data.toList k) k : Nat) : Int) = false by rw [bitI_nat]; exact hg4)
        clear hg3 hg4 HR
        generalize run (nums S.data.toList k) k = g at hg1 hg2 HG HG3 HG4
        go_wp2_with fail
        refine (gap_any S k 5000 (by omega) (by omega) (by omega) (by omega) (by omega) _).mono ?_
        rintro e w2 ⟨rfl, hB⟩
        rw [HG.out]
        have hw2 : Below w.heap.size w w2 := hw1.trans (hB.mono hw1.size)
        clear hB hw1
        go_wp2
        go_loop [11] (fun i => ∃ q : Nat, k ≤ q ∧ q ≤ g ∧ i = .int .i64 q) (fun i => g - (intOf i).toNat)
        case atStart => exact ⟨k, Nat.le_refl _, hg1, rfl⟩
        case round =>
          obtain ⟨q, hq1, hq2, rfl⟩ := hrel
          by_cases hq : q < g
          · have HB := Lib.hid (show bitI S.data.toList (q : Int) = true by rw [bitI_nat]; exact HG3.out q hq1 hq)
            go_wp2_with fail
            refine (has_any S q _ (by omega) (by omega) (by omega)).mono ?_
            rintro e w' ⟨rfl, rfl⟩
            rw [HB.out]
            go_wp2
            go_round
            case rel => exact ⟨q + 1, by omega, by omega, by go_num⟩
            case measure => simp [intOf]; omega
          · obtain rfl : q = g := by omega
            go_wp2_with fail
            refine (fixed_any _).mono ?_
            rintro e w3 ⟨rfl, hB⟩
            have hw3 : Below w.heap.size w w3 := hw2.trans (hB.mono hw2.size)
            clear hB hw2
            go_wp2_with fail
            refine (has_any S q _ (by omega) (by omega) (by omega)).mono ?_
            rintro e w' ⟨rfl, rfl⟩
            rw [HG4.out]
            go_wp2
            go_ret
            exact ⟨rfl, hw3⟩
  · rw [HL.out] at h4
    have H1 := Lib.hid h1
    have HX := Lib.hid (show bitI S.data.toList (x : Int) = true by rw [bitI_nat]; exact h3)
    have H5 := Lib.hid h5
    clear h1 h3 h5 HN
    refine (next_any S k (by omega) (by omega) (by omega) _).mono ?_
    rintro e w1 ⟨rfl, hw1⟩
    rw [H1.out]
    go_wp2
    go_loop [8] (fun i => ∃ p : Nat, k ≤ p ∧ p ≤ x ∧ i = .int .i64 p) (fun i => x - (intOf i).toNat)
    case atStart => exact ⟨k, Nat.le_refl _, h2, rfl⟩
    case round =>
      obtain ⟨p, hq1, hq2, rfl⟩ := hrel
      by_cases hq : p < x
      · have hq8 : p < 8 * S.size := by omega
        have HB := Lib.hid (show bitI S.data.toList (p : Int) = false by rw [bitI_nat]; exact H5.out p hq1 hq)
        go_wp2_with fail
        refine (has_any S p _ (by omega) (by omega) (by omega)).mono ?_
        rintro e w' ⟨rfl, rfl⟩
        rw [HB.out]
        go_wp2
        go_round
        case rel => exact ⟨p + 1, by omega, by omega, by go_num⟩
        case measure => simp [intOf]; omega
      · obtain rfl : p = x := by omega
        have hq8 : p < 8 * S.size := h4
        obtain ⟨hg1, hg2, hg3, hg4⟩ := HR.out
        have HG := Lib.hid (gapV_yes (l := S.data.toList) (f := (k : Int)) (e := 5000) (k := k) (by simp) rfl (by rw [HL.out] at hg2; omega))
        rw [HL.out] at hg2
        have HG3 := Lib.hid hg3
        have HG4 := Lib.hid (show bitI S.data.toList ((run (nums S.data.toList k) k : Nat) : Int) = false by rw [bitI_nat]; exact hg4)
        clear hg3 hg4 HR
        generalize run (nums S.data.toList k) k = g at hg1 hg2 HG HG3 HG4
        go_wp2_with fail
        refine (gap_any S k 5000 (by omega) (by omega) (by omega) (by omega) (by omega) _).mono ?_
        rintro e w2 ⟨rfl, hB⟩
        rw [HG.out]
        have hw2 : Below w.heap.size w w2 := hw1.trans (hB.mono hw1.size)
        clear hB hw1
        go_wp2
        go_loop [11] (fun i => ∃ q : Nat, k ≤ q ∧ q ≤ g ∧ i = .int .i64 q) (fun i => g - (intOf i).toNat)
        case atStart => exact ⟨k, Nat.le_refl _, hg1, rfl⟩
        case round =>
          obtain ⟨q, hq1, hq2, rfl⟩ := hrel
          by_cases hq : q < g
          · have HB := Lib.hid (show bitI S.data.toList (q : Int) = true by rw [bitI_nat]; exact HG3.out q hq1 hq)
            go_wp2_with fail
            refine (has_any S q _ (by omega) (by omega) (by omega)).mono ?_
            rintro e w' ⟨rfl, rfl⟩
            rw [HB.out]
            go_wp2
            go_round
            case rel => exact ⟨q + 1, by omega, by omega, by go_num⟩
            case measure => simp [intOf]; omega
          · obtain rfl : q = g := by omega
            go_wp2_with fail
            refine (fixed_any _).mono ?_
            rintro e w3 ⟨rfl, hB⟩
            have hw3 : Below w.heap.size w w3 := hw2.trans (hB.mono hw2.size)
            clear hB hw2
            go_wp2_with fail
            refine (has_any S p _ (by omega) (by omega) (by omega)).mono ?_
            rintro e w' ⟨rfl, rfl⟩
            rw [HX.out]
            go_wp2_with fail
            refine (has_any S q _ (by omega) (by omega) (by omega)).mono ?_
            rintro e w' ⟨rfl, rfl⟩
            rw [HG4.out]
            go_wp2
            go_ret
            exact ⟨rfl, hw3⟩

/-- WHAT THE WALK GIVES, for every argument that can be read. -/
theorem contract (H : Type) (enc : TypeId × Value → H) (W : World) (base : Nat) (args : Array Value) (ds gs : List (DataW H)) (before : List MemPlace)
    (hval : ∀ (j : Nat) t v, Tryd.f11.params[j]? = some t → args[j]? = some v → Value.okWide Tryd.prog W .any base t v)
    (hW : DataW.Whole enc Tryd.prog Tryd.f11.params.toList Rows.setsFirstSpec.vars false W args.toList ds gs before)
    (hreach : (DataW.weightsEach Tryd.prog (Tryd.f11.params.toList) ds).all (· ≤ reachBytes) = true) :
    Calls Tryd.prog 11 args W fun e W' => ∃ v, e = .returned v ∧ Rows.setsFirstSpec.post enc Tryd.prog Tryd.f11 false true false false W args v W' := by
  have hW' := hW
  obtain ⟨p, q, hA0, hV, rfl, hfz, hnd⟩ := hW
  have hA : DataW.TrodAll enc Tryd.prog W 0 (fun _ => true) true Tryd.f11.params.toList args.toList ds p := hA0
  rw [Tryd.params11] at hA hval hreach
  obtain ⟨v0, v1, d0, d1, p0, p1, rfl, rfl, rfl, h0, h1⟩ := trodAll_two hA
  obtain ⟨rfl, rfl⟩ := trodVars_none hV
  obtain ⟨s0, rfl, rfl, rfl, ws0⟩ := Go.ChangeMaps.open_string Tryd.underlying9 (hval 0 9 v0 rfl rfl) h0
  have r0 := reach_size (sized_string hreach (j := 0) rfl rfl)
  obtain ⟨n1, rfl, rfl, rfl, wn1⟩ := open_int Tryd.underlying3 (hval 1 3 v1 rfl rfl) h1
  have r1 := int_range wn1
  clear hA0 hval
  simp only [List.append_nil] at hW'
  refine (walk s0 n1 W r0 r1).mono fun e W' ⟨he, hB⟩ => ?_
  subst he
  exact ⟨_, rfl, post_of_below (pa := []) (pv := []) hW' (fun _ _ _ => trodAll_mk1 (shut_bool Tryd.underlying4 _)) (fun _ _ => trodAll_mk2 (Go.ChangeMaps.shut_string Tryd.underlying9 ws0) (shut_int Tryd.underlying3 wn1)) (fun _ _ => rfl) rfl hB (ok_one (by kernel_rfl) rfl (okWide_bool_mk Tryd.underlying4 _))⟩

theorem reads (os : Os) {H : Type} (enc : TypeId × Value → H) : ∃ places, DataW.whole enc Tryd.prog ((laidWorld os).forCall (fun _ _ => 0) ⟨#[], #[.string ⟨#[]⟩, .int .i64 0], []⟩).memory Tryd.f11.params.toList Rows.setsFirstSpec.vars false (#[.string ⟨#[]⟩, .int .i64 0] : Array Value).toList 8 = some ([.lit (.string []), .lit (.int .i64 0)], [], places) :=
  ⟨[], by kernel_rfl⟩

set_option maxRecDepth 100000 in
theorem lifted (os : Os) (started : os.Started) (H : Type) (enc : TypeId × Value → H) (F : Stop.Interp) :
    ReturnsInHanded {} Tryd.checked os 11 .any ((OpenSpec.ofChange Rows.setsFirstSpec).preRow enc Tryd.prog Tryd.f11 Rows.setsFirstRow.domain false Rows.setsFirstRow.laid) (((OpenSpec.ofChange Rows.setsFirstSpec).at F).post enc Tryd.prog Tryd.f11 false true false false) := by
  obtain ⟨places, hx⟩ := reads os enc
  refine returnsInHanded_of_row (C := Tryd.checked) (s := OpenSpec.ofChange Rows.setsFirstSpec) own started (by kernel_rfl) Tryd.func11
    (witness_row_at (enc := enc) (C := Tryd.checked) false (laidWorld os) #[.string ⟨#[]⟩, .int .i64 0] rfl (by kernel_rfl) (by kernel_rfl) (by kernel_rfl)
      (OpenSpec.preRow_of_cond 8 hx (by kernel_rfl) (fun k hk => by cases hk) (by kernel_rfl) (laid_met os _))) ?_
  intro W base args ds gs before hval hW _ hcond hreach hL _ _
  obtain ⟨p, q, hA0, hV, hpq, hfz, hnd⟩ := id hW
  obtain ⟨rfl, _⟩ := trodVars_none hV
  rw [List.append_nil] at hreach
  exact contract H enc W base args ds [] before hval hW hreach

theorem said : Rows.SetsFirstSaid :=
  OpenClaim.holds_of_cond 11 Tryd.f11 rfl rfl rfl rfl rfl rfl rfl ⟨rfl, rfl, rfl, rfl, rfl⟩ rfl rfl rfl rfl rfl (by kernel_rfl) Tryd.func11 (by kernel_rfl)
    (of_decide_eq_true (by kernel_rfl)) (by unfold Func.isWrapper; first | (rw [if_pos (by decide +kernel)]; kernel_rfl) | (rw [if_neg (by decide +kernel)]; exact ⟨rfl, rfl⟩))
    (fun os started H enc _ F => by rw [OpenClaim.pre_eq_preRow]; exact lifted os started H enc F)

theorem plain (f : FuncId) (fn : Func) (hf : Tryd.pinned.checked.prog.funcNamed "stillage/stillagelaw01.SetsFirst" = some f) (hfn : Tryd.pinned.checked.prog.funcs[f]? = some fn) :
    false = Tryd.pinned.checked.prog.looks [] ∧ ∀ (j : Nat) t, fn.params[j]? = some t → Tryd.pinned.checked.prog.wantsStandIn t = false := by
  obtain rfl : f = 11 := Option.some.inj ((show Tryd.prog.funcNamed "stillage/stillagelaw01.SetsFirst" = some 11 by kernel_rfl).symm.trans hf) |>.symm
  obtain rfl : fn = Tryd.f11 := (Option.some.inj (Tryd.func11.symm.trans hfn)).symm
  refine ⟨by kernel_rfl, fun j t ht => ?_⟩
  rw [Tryd.params11] at ht
  have hm : t ∈ [9, 3] := by simpa using Array.mem_of_getElem? ht
  have hall : ([9, 3].all fun u => !Tryd.prog.wantsStandIn u) = true := by kernel_rfl
  exact (show Tryd.prog.wantsStandIn t = false by simpa using List.all_eq_true.1 hall t hm)

/-- THE CARD -/
theorem card : Rows.SetsFirstCardSaid :=
  Claim7.holds_tied_plain_at .later [] _ _ _ _ said (fun _ h => by cases h) (by kernel_rfl) (fun _ h => by cases h) setsFirst_row_tie rfl ⟨rfl, rfl⟩ (by kernel_rfl) rfl plain (by kernel_rfl)

end Go.Proofs.YtoafojddochcgaaDoor.setsFirst
