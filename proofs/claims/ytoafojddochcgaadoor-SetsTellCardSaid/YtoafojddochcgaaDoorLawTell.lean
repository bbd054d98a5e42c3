/-
  SetsTell: for every text and every number the law returns true; each argument reads behind the call as it read before. Conditions: those of its row (the two tables of unicode/utf8 lie as the program's text lays them: the card ties them).
-/
import Derived.Test.YtoafojddochcgaaDoorSetsG4
namespace Go.Proofs.YtoafojddochcgaaDoor.setsTell
open Go.ChangeShapes Go.WideShapes Go.ChangeAt Go.RowKit Go SM

theorem owns_later {W W' : World} {base : Nat} {e : TypeId} {v : Value} {n : Nat} {xs : List Value} (h : W.ownsRow base e 1 v n xs) (hB : Below W.heap.size W W') : W'.ownsRow base e 1 v n xs := by
  refine ⟨h.1, ?_⟩
  rcases h.2 with h1 | ⟨g, cap, cur, h1, h2, h3, h4⟩
  · exact .inl h1
  · exact .inr ⟨g, cap, cur, h1, h2, (hB.block g (Array.getElem?_eq_some_iff.1 h3).1).trans h3, h4⟩

set_option maxRecDepth 100000 in
set_option maxHeartbeats 8000000 in
theorem walk (s : ByteArray) (n : Int) (w : World) (hs : s.size ≤ 140737488351232) (hn : -9223372036854775808 ≤ n ∧ n ≤ 9223372036854775807) :
    Calls Tryd.prog 4 #[.string s, .int .i64 n] w fun r w' => r = .returned (.bool true) ∧ Below w.heap.size w w' := by
  obtain ⟨hn1, hn2⟩ := hn
  go_enter Tryd.func4, Tryd.ntmps4
  go_wp2_with fail
  refine (short_b s _ (by omega)).mono ?_
  rintro e' w' ⟨rfl, rfl⟩
  have hS := size_short s
  generalize bs (s.data.toList.take 3000) = S at hS ⊢
  go_wp2_with fail
  refine (rlist_any S (by omega) _).mono ?_
  rintro e w1 ⟨vl, rfl, hown, hw1⟩
  have hlen := length_nums S.data.toList 0
  rw [show S.data.toList.length = S.size by simp] at hlen
  have hI := intsAt_of_owns hown
  obtain ⟨al, cl, rfl, -⟩ := hI.split
  rw [length_toInts] at hI ⊢
  have HI := Lib.hid hI
  have HC := Lib.hid (length_nums_zero S.data.toList)
  clear hown hI
  have hcnt := cntB_le S
  go_wp2
  go_loopw [6, 7, 8] (fun t _ _ wr => ∃ k : Nat, k ≤ 2 ∧ t = .int .i64 k ∧ Below w1.heap.size w1 wr) (fun t _ _ _ => 2 - (intOf t).toNat)
  case atStart => exact ⟨0, by omega, rfl, Below.refl _ _⟩
  case round =>
    obtain ⟨k, hk, rfl, hB⟩ := hrel
    have HB := Lib.hid hB
    clear hB
    by_cases hlt : k < 2
    · obtain ⟨wo, rfl⟩ : ∃ wo : World, wo = wr := ⟨_, rfl⟩
      go_wp2_with fail
      refine (list_any S (by omega) _).mono ?_
      rintro e w2 ⟨vk, rfl, hown, hB2⟩
      have hwo : w1.heap.size ≤ wo.heap.size := HB.out.size
      have h2 : Below w1.heap.size w1 w2 := HB.out.trans (hB2.mono hwo)
      have HW := Lib.hid hown
      have HK := Lib.hid (intsAt_of_owns hown)
      obtain ⟨ak, ck, rfl, -⟩ := HK.out.split
      rw [length_toInts] at HK HW ⊢
      have H2 := Lib.hid h2
      clear hown hB2 h2
      go_wp2_with fail
      refine (same_any _ _ _ _ (by rw [length_toInts]; omega) (by rw [length_toInts]; omega) _ HK.out (HI.out.later H2.out)).mono ?_
      rintro e w3 ⟨rfl, hB3⟩
      rw [show decide (toInts (nums S.data.toList 0) = toInts (nums S.data.toList 0)) = true by simp]
      have hw2 : w1.heap.size ≤ w2.heap.size := H2.out.size
      have H3 := Lib.hid (H2.out.trans (hB3.mono hw2))
      have HW3 := Lib.hid (owns_later HW.out hB3)
      clear hB3 HW HK H2
      go_wp2
      go_loopw [8] (fun i wr => ∃ (j : Nat) (xs : List Value), j ≤ (nums S.data.toList 0).length ∧ i = .int .i64 j ∧ wr.ownsRow wo.heap.size 3 1 (.slice ak (nums S.data.toList 0).length ck) (nums S.data.toList 0).length xs ∧ Below w1.heap.size w1 wr) (fun i _ => (nums S.data.toList 0).length - (intOf i).toNat)
      case atStart => exact ⟨0, _, Nat.zero_le _, rfl, HW3.out, H3.out⟩
      case round =>
        obtain ⟨j, xs, hj, rfl, hrow, hB⟩ := hrel
        by_cases hjl : j < (nums S.data.toList 0).length
        · have hnn : (Value.slice ak (nums S.data.toList 0).length ck) ≠ .slice none 0 0 := fun e => by
            simp only [Value.slice.injEq] at e; omega
          obtain ⟨g, cp, hsl, hgb, hgs, hcap1, hcap2, hcells⟩ := row_cells hrow hnn
          simp only [Value.slice.injEq, true_and] at hsl
          obtain ⟨rfl, rfl⟩ := hsl
          have hxl : j < xs.length := by rw [hrow.1]; omega
          obtain ⟨x, hcell⟩ : ∃ x, wr.cell? ⟨g, j, none⟩ = some x := ⟨xs[j], hcells j xs[j] (List.getElem?_eq_getElem hxl)⟩
          have hfz := row_frozen hrow rfl j
          have hst := (hrow.stored j (.int .i64 (-1))).1
          have hB2 : Below w1.heap.size w1 (wr.setCell ⟨g, j, none⟩ (.int .i64 (-1))) := hB.setCell (p := ⟨g, j, none⟩) (by show w1.heap.size ≤ g; omega) _
          have HST := Lib.hid hst
          have HB2 := Lib.hid hB2
          clear hst hB2 hcells hB hrow hnn hxl
          go_wp2
          go_roundw
          case rel => exact ⟨j + 1, _, by omega, by go_num, HST.out, HB2.out⟩
          case measure => simp [intOf]; omega
        · have HB3 := Lib.hid hB
          clear hB hrow
          go_wp2
          go_roundw
          case rel => exact ⟨k + 1, by omega, by go_num, HB3.out⟩
          case measure => simp [intOf]; omega
    · have hB1 : Below w.heap.size w wr := hw1.trans (HB.out.mono hw1.size)
      go_wp2_with fail
      refine (fixed_any _).mono ?_
      rintro e w4 ⟨rfl, hB4⟩
      have hB5 : Below w.heap.size w w4 := hB1.trans (hB4.mono hB1.size)
      clear hB4 hB1 hw1
      go_wp2_with fail
      refine (cnt_b S _ (by omega)).mono ?_
      rintro e w' ⟨rfl, rfl⟩
      rw [show cntB S = (nums S.data.toList 0).length from HC.out.symm]
      go_wp2_with fail
      refine (has_any S n _ (by omega) hn1 hn2).mono ?_
      rintro e w' ⟨rfl, rfl⟩
      go_wp2_with fail
      refine (rhas_any S n _ (by omega) hn1 hn2).mono ?_
      rintro e w' ⟨rfl, rfl⟩
      go_wp2
      go_ret
      exact ⟨ret_bool (by simp), hB5⟩

/-- WHAT THE WALK GIVES, for every argument that can be read. -/
theorem contract (H : Type) (enc : TypeId × Value → H) (W : World) (base : Nat) (args : Array Value) (ds gs : List (DataW H)) (before : List MemPlace)
    (hval : ∀ (j : Nat) t v, Tryd.f4.params[j]? = some t → args[j]? = some v → Value.okWide Tryd.prog W .any base t v)
    (hW : DataW.Whole enc Tryd.prog Tryd.f4.params.toList Rows.setsTellSpec.vars false W args.toList ds gs before)
    (hreach : (DataW.weightsEach Tryd.prog (Tryd.f4.params.toList) ds).all (· ≤ reachBytes) = true) :
    Calls Tryd.prog 4 args W fun e W' => ∃ v, e = .returned v ∧ Rows.setsTellSpec.post enc Tryd.prog Tryd.f4 false true false false W args v W' := by
  have hW' := hW
  obtain ⟨p, q, hA0, hV, rfl, hfz, hnd⟩ := hW
  have hA : DataW.TrodAll enc Tryd.prog W 0 (fun _ => true) true Tryd.f4.params.toList args.toList ds p := hA0
  rw [Tryd.params4] at hA hval hreach
  obtain ⟨v0, v1, d0, d1, p0, p1, rfl, rfl, rfl, h0, h1⟩ := trodAll_two hA
  obtain ⟨rfl, rfl⟩ := trodVars_none hV
  obtain ⟨s0, rfl, rfl, rfl, ws0⟩ := Go.ChangeMaps.open_string Tryd.underlying9 (hval 0 9 v0 rfl rfl) h0
  have r0 := reach_size (sized_string hreach (j := 0) rfl rfl)
  obtain ⟨n1, rfl, rfl, rfl, wn1⟩ := open_int Tryd.underlying3 (hval 1 3 v1 rfl rfl) h1
  have r1 := int_range wn1
  clear hA0 hval
  simp only [List.append_nil] at hW'
  refine (walk s0 n1 W r0 r1).mono fun e W' ⟨he, hB⟩ => ?_
  subst he
  exact ⟨_, rfl, post_of_below (pa := []) (pv := []) hW' (fun _ _ _ => trodAll_mk1 (shut_bool Tryd.underlying4 _)) (fun _ _ => trodAll_mk2 (Go.ChangeMaps.shut_string Tryd.underlying9 ws0) (shut_int Tryd.underlying3 wn1)) (fun _ _ => rfl) rfl hB (ok_one (by kernel_rfl) rfl (okWide_bool_mk Tryd.underlying4 _))⟩

theorem reads (os : Os) {H : Type} (enc : TypeId × Value → H) : ∃ places, DataW.whole enc Tryd.prog ((laidWorld os).forCall (fun _ _ => 0) ⟨#[], #[.string ⟨#[]⟩, .int .i64 0], []⟩).memory Tryd.f4.params.toList Rows.setsTellSpec.vars false (#[.string ⟨#[]⟩, .int .i64 0] : Array Value).toList 8 = some ([.lit (.string []), .lit (.int .i64 0)], [], places) :=
  ⟨[], by kernel_rfl⟩

set_option maxRecDepth 100000 in
theorem lifted (os : Os) (started : os.Started) (H : Type) (enc : TypeId × Value → H) (F : Stop.Interp) :
    ReturnsInHanded {} Tryd.checked os 4 .any ((OpenSpec.ofChange Rows.setsTellSpec).preRow enc Tryd.prog Tryd.f4 Rows.setsTellRow.domain false Rows.setsTellRow.laid) (((OpenSpec.ofChange Rows.setsTellSpec).at F).post enc Tryd.prog Tryd.f4 false true false false) := by
  obtain ⟨places, hx⟩ := reads os enc
  refine returnsInHanded_of_row (C := Tryd.checked) (s := OpenSpec.ofChange Rows.setsTellSpec) own started (by kernel_rfl) Tryd.func4
    (witness_row_at (enc := enc) (C := Tryd.checked) false (laidWorld os) #[.string ⟨#[]⟩, .int .i64 0] rfl (by kernel_rfl) (by kernel_rfl) (by kernel_rfl)
      (OpenSpec.preRow_of_cond 8 hx (by kernel_rfl) (fun k hk => by cases hk) (by kernel_rfl) (laid_met os _))) ?_
  intro W base args ds gs before hval hW _ hcond hreach hL _ _
  obtain ⟨p, q, hA0, hV, hpq, hfz, hnd⟩ := id hW
  obtain ⟨rfl, _⟩ := trodVars_none hV
  rw [List.append_nil] at hreach
  exact contract H enc W base args ds [] before hval hW hreach

theorem said : Rows.SetsTellSaid :=
  OpenClaim.holds_of_cond 4 Tryd.f4 rfl rfl rfl rfl rfl rfl rfl ⟨rfl, rfl, rfl, rfl, rfl⟩ rfl rfl rfl rfl rfl (by kernel_rfl) Tryd.func4 (by kernel_rfl)
    (of_decide_eq_true (by kernel_rfl)) (by unfold Func.isWrapper; first | (rw [if_pos (by decide +kernel)]; kernel_rfl) | (rw [if_neg (by decide +kernel)]; exact ⟨rfl, rfl⟩))
    (fun os started H enc _ F => by rw [OpenClaim.pre_eq_preRow]; exact lifted os started H enc F)

theorem plain (f : FuncId) (fn : Func) (hf : Tryd.pinned.checked.prog.funcNamed "stillage/stillagelaw01.SetsTell" = some f) (hfn : Tryd.pinned.checked.prog.funcs[f]? = some fn) :
    false = Tryd.pinned.checked.prog.looks [] ∧ ∀ (j : Nat) t, fn.params[j]? = some t → Tryd.pinned.checked.prog.wantsStandIn t = false := by
  obtain rfl : f = 4 := Option.some.inj ((show Tryd.prog.funcNamed "stillage/stillagelaw01.SetsTell" = some 4 by kernel_rfl).symm.trans hf) |>.symm
  obtain rfl : fn = Tryd.f4 := (Option.some.inj (Tryd.func4.symm.trans hfn)).symm
  refine ⟨by kernel_rfl, fun j t ht => ?_⟩
  rw [Tryd.params4] at ht
  have hm : t ∈ [9, 3] := by simpa using Array.mem_of_getElem? ht
  have hall : ([9, 3].all fun u => !Tryd.prog.wantsStandIn u) = true := by kernel_rfl
  exact (show Tryd.prog.wantsStandIn t = false by simpa using List.all_eq_true.1 hall t hm)

/-- THE CARD -/
theorem card : Rows.SetsTellCardSaid :=
  Claim7.holds_tied_plain_at .later [] _ _ _ _ said (fun _ h => by cases h) (by kernel_rfl) (fun _ h => by cases h) setsTell_row_tie rfl ⟨rfl, rfl⟩ (by kernel_rfl) rfl plain (by kernel_rfl)

end Go.Proofs.YtoafojddochcgaaDoor.setsTell
