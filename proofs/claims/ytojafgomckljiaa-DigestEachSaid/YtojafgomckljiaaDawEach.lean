/-
  Bytes that are written one by one have the sum of all of them at once, of eight bytes, each time the same: for every key and every text, of which the first two thousand bytes are taken.
  Conditions: none besides the row's own.
-/
import Derived.Test.YtojafgomckljiaaDigK
namespace Go.Proofs.Ytojafgomckljiaa.each
open Go.ChangeShapes Go.WideShapes Go.ChangeAt Go.RowKit Go

theorem list_one (p : ByteArray) (k : Nat) (h : k < p.size) : p.data.toList.take (k + 1) = p.data.toList.take k ++ (p.extract k (k + 1)).data.toList := by
  have hl : k < p.data.toList.length := by simpa using h
  rw [List.take_succ_eq_append_getElem hl, Lib.extract_data, show k + 1 - k = 1 by omega, List.drop_eq_getElem_cons hl]
  rfl

set_option maxRecDepth 100000 in
set_option maxHeartbeats 2000000 in
theorem walk (key s : ByteArray) (w : World) (hk : key.size ≤ 140737488351232) (_hs : s.size ≤ 140737488351232) :
    Calls Try.prog 6 #[.string key, .string s] w fun r w' => r = .returned (.bool true) ∧ Below w.heap.size w w' := by
  obtain ⟨c, hc1, hc2, hm⟩ := cut2000 s
  by_cases h16 : key.size = 16
  · go_enter Try.func6, Try.ntmps6
    go_wp2_with fail
    refine (new_any key h16 _).mono ?_
    rintro e w1 ⟨b, rfl, hb, H1, B1⟩
    have hp : (s.extract 0 c).size ≤ 2000 := by simp; omega
    obtain ⟨p, ep⟩ : ∃ p, s.extract 0 c = p := ⟨_, rfl⟩
    rw [ep] at hp
    go_wp2_with fail
    go_loopw [7] (fun i wr => ∃ k : Nat, k ≤ p.size ∧ i = .int .i64 k ∧ wr.heap[b]? = some (HObj (puts (new key.data.toList) (p.data.toList.take k))) ∧ Below w.heap.size w wr) (fun i _ => p.size - (intOf i).toNat)
    case atStart => exact ⟨0, Nat.zero_le _, rfl, H1, B1⟩
    case round =>
      obtain ⟨k, hkp, rfl, H2, B2⟩ := hrel
      by_cases hlt : k < p.size
      · have HN := Lib.hid (list_one p k hlt)
        have hk1 : (k : Int) + 1 ≤ (p.size : Int) := by omega
        have hk0 : (k : Int) ≤ (k : Int) + 1 := by omega
        have hk2 : (0 : Int) ≤ (k : Int) + 1 := by omega
        have hk3 : ((k : Int) + 1).toNat = k + 1 := by omega
        go_wp2_with fail
        refine (write_any b _ (p.extract k (k + 1)) (by simp; omega) _ H2).mono ?_
        rintro e w3 ⟨⟨v, rfl⟩, T3⟩
        go_wp2
        go_roundw
        case rel => exact ⟨k + 1, by omega, by go_num, by rw [HN.out, puts_append]; exact T3.here, B2.trans (T3.below hb)⟩
        case measure => simp [intOf]; omega
      · obtain rfl : k = p.size := by omega
        rw [show p.data.toList.take p.size = p.data.toList by rw [List.take_of_length_le]; simp] at H2
        have hV := Lib.hid (sumV_is (key := key) (s := p) h16)
        have hX := sum_size key.data.toList p.data.toList
        have hY := Lib.hid (show bs (sumOf (puts (new key.data.toList) p.data.toList)) = bs (sum key.data.toList p.data.toList) from rfl)
        generalize bs (sum key.data.toList p.data.toList) = X at hV hX hY
        have hX2 : (X.size : Int) = 8 := by rw [hX]; rfl
        go_wp2_with fail
        refine (dsum_any key p (by omega) (by omega) _).mono ?_
        rintro e w4 ⟨rfl, B4⟩
        rw [hV.out]
        have H4 := HObj.later H2 B4
        have B5 := B2.trans (B4.mono B2.size)
        clear H2 B2 B4
        go_wp2_with fail
        refine (dsum_any key p (by omega) (by omega) _).mono ?_
        rintro e w5 ⟨rfl, B6⟩
        rw [hV.out]
        have H5 := HObj.later H4 B6
        have B7 := B5.trans (B6.mono B5.size)
        clear H4 B5 B6
        go_wp2_with fail
        refine (fixed_any _).mono ?_
        rintro e w6 ⟨rfl, B8⟩
        have H6 := HObj.later H5 B8
        have B9 := B7.trans (B8.mono B7.size)
        clear H5 B7 B8
        go_wp2_with fail
        refine (sum_any b _ _ H6).mono ?_
        rintro e w7 ⟨rfl, B10⟩
        rw [hY.out]
        go_wp2
        go_ret
        exact ⟨rfl, B9.trans (B10.mono B9.size)⟩
  · have hn : ((key.size : Int) != 16) = true := by simp; omega
    go_enter Try.func6, Try.ntmps6
    go_wp2_with fail
    refine (new_wrong key h16 (by omega) _).mono ?_
    rintro e w1 ⟨rfl, rfl⟩
    go_wp2_with fail
    refine (fixed_any _).mono ?_
    rintro e w2 ⟨rfl, B⟩
    go_wp2
    go_ret
    exact ⟨rfl, B⟩

/-- WHAT THE WALK GIVES, for every argument that can be read. -/
theorem contract (H : Type) (enc : TypeId × Value → H) (W : World) (base : Nat) (args : Array Value) (ds gs : List (DataW H)) (before : List MemPlace)
    (hval : ∀ (j : Nat) t v, Try.f6.params[j]? = some t → args[j]? = some v → Value.okWide Try.prog W .any base t v)
    (hW : DataW.Whole enc Try.prog Try.f6.params.toList Rows.digestEachSpec.vars false W args.toList ds gs before)
    (hreach : (DataW.weightsEach Try.prog (Try.f6.params.toList) ds).all (· ≤ reachBytes) = true) :
    Calls Try.prog 6 args W fun e W' => ∃ v, e = .returned v ∧ Rows.digestEachSpec.post enc Try.prog Try.f6 false true false false W args v W' := by
  have hW' := hW
  obtain ⟨p, q, hA0, hV, rfl, hfz, hnd⟩ := hW
  have hA : DataW.TrodAll enc Try.prog W 0 (fun _ => true) true Try.f6.params.toList args.toList ds p := hA0
  rw [Try.params6] at hA hval hreach
  obtain ⟨v0, v1, d0, d1, p0, p1, rfl, rfl, rfl, h0, h1⟩ := trodAll_two hA
  obtain ⟨rfl, rfl⟩ := trodVars_none hV
  obtain ⟨s0, rfl, rfl, rfl, ws0⟩ := Go.ChangeMaps.open_string Try.underlying9 (hval 0 9 v0 rfl rfl) h0
  have r0 := reach_size (sized_string hreach (j := 0) rfl rfl)
  obtain ⟨s1, rfl, rfl, rfl, ws1⟩ := Go.ChangeMaps.open_string Try.underlying9 (hval 1 9 v1 rfl rfl) h1
  have r1 := reach_size (sized_string hreach (j := 1) rfl rfl)
  clear hA0 hval
  simp only [List.append_nil] at hW'
  refine (walk s0 s1 W r0 r1).mono fun e W' ⟨he, hB⟩ => ?_
  subst he
  exact ⟨_, rfl, post_of_below (pa := []) (pv := []) hW' (fun _ _ _ => trodAll_mk1 (shut_bool Try.underlying4 _)) (fun _ _ => trodAll_mk2 (Go.ChangeMaps.shut_string Try.underlying9 ws0) (Go.ChangeMaps.shut_string Try.underlying9 ws1)) (fun _ _ => rfl) rfl hB (ok_one (by kernel_rfl) rfl (okWide_bool_mk Try.underlying4 _))⟩

theorem reads (os : Os) {H : Type} (enc : TypeId × Value → H) : ∃ places, DataW.whole enc Try.prog ((laidWorld os).forCall (fun _ _ => 0) ⟨#[], #[.string ⟨#[]⟩, .string ⟨#[]⟩], []⟩).memory Try.f6.params.toList Rows.digestEachSpec.vars false (#[.string ⟨#[]⟩, .string ⟨#[]⟩] : Array Value).toList 8 = some ([.lit (.string []), .lit (.string [])], [], places) :=
  ⟨[], by kernel_rfl⟩

set_option maxRecDepth 100000 in
theorem lifted (os : Os) (started : os.Started) (H : Type) (enc : TypeId × Value → H) (F : Stop.Interp) :
    ReturnsInHanded {} Try.checked os 6 .any ((OpenSpec.ofChange Rows.digestEachSpec).preRow enc Try.prog Try.f6 Rows.digestEachRow.domain false Rows.digestEachRow.laid) (((OpenSpec.ofChange Rows.digestEachSpec).at F).post enc Try.prog Try.f6 false true false false) := by
  obtain ⟨places, hx⟩ := reads os enc
  refine returnsInHanded_of_row (C := Try.checked) (s := OpenSpec.ofChange Rows.digestEachSpec) own started (by kernel_rfl) Try.func6
    (witness_row_at (enc := enc) (C := Try.checked) false (laidWorld os) #[.string ⟨#[]⟩, .string ⟨#[]⟩] rfl (by kernel_rfl) (by kernel_rfl) (by kernel_rfl)
      (OpenSpec.preRow_of_cond 8 hx (by kernel_rfl) (fun k hk => by cases hk) (by kernel_rfl) (laid_met os _))) ?_
  intro W base args ds gs before hval hW _ hcond hreach hL _ _
  obtain ⟨p, q, hA0, hV, hpq, hfz, hnd⟩ := id hW
  obtain ⟨rfl, _⟩ := trodVars_none hV
  rw [List.append_nil] at hreach
  exact contract H enc W base args ds [] before hval hW hreach

theorem said : Rows.DigestEachSaid :=
  OpenClaim.holds_of_cond 6 Try.f6 rfl rfl rfl rfl rfl rfl rfl ⟨rfl, rfl, rfl, rfl, rfl⟩ rfl rfl rfl rfl rfl (by kernel_rfl) Try.func6 (by kernel_rfl)
    (of_decide_eq_true (by kernel_rfl)) (by unfold Func.isWrapper; first | (rw [if_pos (by decide +kernel)]; kernel_rfl) | (rw [if_neg (by decide +kernel)]; exact ⟨rfl, rfl⟩))
    (fun os started H enc _ F => by rw [OpenClaim.pre_eq_preRow]; exact lifted os started H enc F)


end Go.Proofs.Ytojafgomckljiaa.each
