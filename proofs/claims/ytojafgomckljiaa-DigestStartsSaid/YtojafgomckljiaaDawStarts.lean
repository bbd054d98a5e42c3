/-
  Two sums that were written the same go on the same, and the first one, asked between, is that of the bytes so far: for every key and every two texts, of each of which the first two thousand bytes are taken.
  Conditions: none besides the row's own.
-/
import Derived.Test.YtojafgomckljiaaDigK
namespace Go.Proofs.Ytojafgomckljiaa.starts
open Go.ChangeShapes Go.WideShapes Go.ChangeAt Go.RowKit Go

theorem other {w v : World} {b c : Nat} {o : Obj} {h : Hs} (T : Turned b o w v) (H : w.heap[c]? = some (HObj h)) (hn : c ≠ b) : v.heap[c]? = some (HObj h) := (T.block c hn).trans H

set_option maxRecDepth 100000 in
set_option maxHeartbeats 4000000 in
theorem walk (key s t : ByteArray) (w : World) (hk : key.size ≤ 140737488351232) (_hs : s.size ≤ 140737488351232) (_ht : t.size ≤ 140737488351232) :
    Calls Try.prog 7 #[.string key, .string s, .string t] w fun r w' => r = .returned (.bool true) ∧ Below w.heap.size w w' := by
  obtain ⟨c, hc1, hc2, hm⟩ := cut2000 s
  obtain ⟨d, hd1, hd2, hm2⟩ := cut2000 t
  have hp : (s.extract 0 c).size ≤ 2000 := by simp; omega
  have hq : (t.extract 0 d).size ≤ 2000 := by simp; omega
  obtain ⟨p, ep⟩ : ∃ p, s.extract 0 c = p := ⟨_, rfl⟩
  obtain ⟨q, eq⟩ : ∃ q, t.extract 0 d = q := ⟨_, rfl⟩
  rw [ep] at hp
  rw [eq] at hq
  by_cases h16 : key.size = 16
  · have hV := Lib.hid (sumV_is (key := key) (s := p) h16)
    have hX := sum_size key.data.toList p.data.toList
    have hY := Lib.hid (show bs (sumOf (puts (new key.data.toList) p.data.toList)) = bs (sum key.data.toList p.data.toList) from rfl)
    generalize bs (sum key.data.toList p.data.toList) = X at hV hX hY
    clear hX
    go_enter Try.func7, Try.ntmps7
    go_wp2_with fail
    refine (new_any key h16 _).mono ?_
    rintro e w1 ⟨a, rfl, ha, A1, B1⟩
    go_wp2_with fail
    refine (new_any key h16 _).mono ?_
    rintro e w2 ⟨b, rfl, hb', H1, B2⟩
    have hab : a ≠ b := by have := HObj.lt A1; omega
    have A2 := HObj.later A1 B2
    have hb : w.heap.size ≤ b := Nat.le_trans B1.size hb'
    have B3 := B1.trans (B2.mono B1.size)
    have hba : b ≠ a := fun e => hab e.symm
    clear A1 B1 B2 hb'
    generalize new key.data.toList = n0 at A2 H1 hY
    go_wp2_with fail
    refine (write_any a n0 p (by omega) _ A2).mono ?_
    rintro e w3 ⟨⟨v3, rfl⟩, T3⟩
    have H3 := other T3 H1 hba
    have A3 := T3.here
    have B4 := B3.trans (T3.below ha)
    clear T3 H1 A2 B3
    go_wp2_with fail
    refine (write_any b n0 p (by omega) _ H3).mono ?_
    rintro e w4 ⟨⟨v4, rfl⟩, T4⟩
    have A4 := other T4 A3 hab
    have H4 := T4.here
    have B5 := B4.trans (T4.below hb)
    clear T4 H3 A3 B4
    generalize puts n0 p.data.toList = n1 at A4 H4 hY
    go_wp2_with fail
    refine (sum_any a n1 _ A4).mono ?_
    rintro e w5 ⟨rfl, C5⟩
    rw [hY.out]
    have A5 := HObj.later A4 C5
    have H5 := HObj.later H4 C5
    have B6 := B5.trans (C5.mono B5.size)
    clear A4 H4 C5 B5
    go_wp2_with fail
    refine (write_any a n1 q (by omega) _ A5).mono ?_
    rintro e w6 ⟨⟨v6, rfl⟩, T6⟩
    have H6 := other T6 H5 hba
    have A6 := T6.here
    have B7 := B6.trans (T6.below ha)
    clear T6 H5 A5 B6
    go_wp2_with fail
    refine (write_any b n1 q (by omega) _ H6).mono ?_
    rintro e w7 ⟨⟨v7, rfl⟩, T7⟩
    have A7 := other T7 A6 hab
    have H7 := T7.here
    have B8 := B7.trans (T7.below hb)
    clear T7 H6 A6 B7
    generalize puts n1 q.data.toList = n2 at A7 H7
    go_wp2_with fail
    refine (dsum_any key p (by omega) (by omega) _).mono ?_
    rintro e w8 ⟨rfl, C8⟩
    rw [hV.out]
    have A8 := HObj.later A7 C8
    have H8 := HObj.later H7 C8
    have B9 := B8.trans (C8.mono B8.size)
    clear A7 H7 C8 B8
    go_wp2_with fail
    refine (fixed_any _).mono ?_
    rintro e w9 ⟨rfl, C9⟩
    have A9 := HObj.later A8 C9
    have H9 := HObj.later H8 C9
    have B10 := B9.trans (C9.mono B9.size)
    clear A8 H8 C9 B9
    go_wp2_with fail
    refine (sum_any a n2 _ A9).mono ?_
    rintro e w10 ⟨rfl, C10⟩
    have H10 := HObj.later H9 C10
    have B11 := B10.trans (C10.mono B10.size)
    clear A9 H9 C10 B10
    go_wp2_with fail
    refine (sum_any b n2 _ H10).mono ?_
    rintro e w11 ⟨rfl, C11⟩
    have B12 := B11.trans (C11.mono B11.size)
    generalize bs (sumOf n2) = Y
    clear C11 B11 H10
    go_wp2
    go_ret
    exact ⟨rfl, B12⟩
  · have hn : ((key.size : Int) != 16) = true := by simp; omega
    go_enter Try.func7, Try.ntmps7
    go_wp2_with fail
    refine (new_wrong key h16 (by omega) _).mono ?_
    rintro e w1 ⟨rfl, rfl⟩
    go_wp2_with fail
    refine (new_wrong key h16 (by omega) _).mono ?_
    rintro e w1 ⟨rfl, rfl⟩
    go_wp2_with fail
    refine (fixed_any _).mono ?_
    rintro e w2 ⟨rfl, B⟩
    go_wp2
    go_ret
    exact ⟨rfl, B⟩

/-- WHAT THE WALK GIVES, for every argument that can be read. -/
theorem contract (H : Type) (enc : TypeId × Value → H) (W : World) (base : Nat) (args : Array Value) (ds gs : List (DataW H)) (before : List MemPlace)
    (hval : ∀ (j : Nat) t v, Try.f7.params[j]? = some t → args[j]? = some v → Value.okWide Try.prog W .any base t v)
    (hW : DataW.Whole enc Try.prog Try.f7.params.toList Rows.digestStartsSpec.vars false W args.toList ds gs before)
    (hreach : (DataW.weightsEach Try.prog (Try.f7.params.toList) ds).all (· ≤ reachBytes) = true) :
    Calls Try.prog 7 args W fun e W' => ∃ v, e = .returned v ∧ Rows.digestStartsSpec.post enc Try.prog Try.f7 false true false false W args v W' := by
  have hW' := hW
  obtain ⟨p, q, hA0, hV, rfl, hfz, hnd⟩ := hW
  have hA : DataW.TrodAll enc Try.prog W 0 (fun _ => true) true Try.f7.params.toList args.toList ds p := hA0
  rw [Try.params7] at hA hval hreach
  obtain ⟨v0, v1, v2, d0, d1, d2, p0, p1, p2, rfl, rfl, rfl, h0, h1, h2⟩ := trodAll_three hA
  obtain ⟨rfl, rfl⟩ := trodVars_none hV
  obtain ⟨s0, rfl, rfl, rfl, ws0⟩ := Go.ChangeMaps.open_string Try.underlying9 (hval 0 9 v0 rfl rfl) h0
  have r0 := reach_size (sized_string hreach (j := 0) rfl rfl)
  obtain ⟨s1, rfl, rfl, rfl, ws1⟩ := Go.ChangeMaps.open_string Try.underlying9 (hval 1 9 v1 rfl rfl) h1
  have r1 := reach_size (sized_string hreach (j := 1) rfl rfl)
  obtain ⟨s2, rfl, rfl, rfl, ws2⟩ := Go.ChangeMaps.open_string Try.underlying9 (hval 2 9 v2 rfl rfl) h2
  have r2 := reach_size (sized_string hreach (j := 2) rfl rfl)
  clear hA0 hval
  simp only [List.append_nil] at hW'
  refine (walk s0 s1 s2 W r0 r1 r2).mono fun e W' ⟨he, hB⟩ => ?_
  subst he
  exact ⟨_, rfl, post_of_below (pa := []) (pv := []) hW' (fun _ _ _ => trodAll_mk1 (shut_bool Try.underlying4 _)) (fun _ _ => trodAll_mk3 (Go.ChangeMaps.shut_string Try.underlying9 ws0) (Go.ChangeMaps.shut_string Try.underlying9 ws1) (Go.ChangeMaps.shut_string Try.underlying9 ws2)) (fun _ _ => rfl) rfl hB (ok_one (by kernel_rfl) rfl (okWide_bool_mk Try.underlying4 _))⟩

theorem reads (os : Os) {H : Type} (enc : TypeId × Value → H) : ∃ places, DataW.whole enc Try.prog ((laidWorld os).forCall (fun _ _ => 0) ⟨#[], #[.string ⟨#[]⟩, .string ⟨#[]⟩, .string ⟨#[]⟩], []⟩).memory Try.f7.params.toList Rows.digestStartsSpec.vars false (#[.string ⟨#[]⟩, .string ⟨#[]⟩, .string ⟨#[]⟩] : Array Value).toList 8 = some ([.lit (.string []), .lit (.string []), .lit (.string [])], [], places) :=
  ⟨[], by kernel_rfl⟩

set_option maxRecDepth 100000 in
theorem lifted (os : Os) (started : os.Started) (H : Type) (enc : TypeId × Value → H) (F : Stop.Interp) :
    ReturnsInHanded {} Try.checked os 7 .any ((OpenSpec.ofChange Rows.digestStartsSpec).preRow enc Try.prog Try.f7 Rows.digestStartsRow.domain false Rows.digestStartsRow.laid) (((OpenSpec.ofChange Rows.digestStartsSpec).at F).post enc Try.prog Try.f7 false true false false) := by
  obtain ⟨places, hx⟩ := reads os enc
  refine returnsInHanded_of_row (C := Try.checked) (s := OpenSpec.ofChange Rows.digestStartsSpec) own started (by kernel_rfl) Try.func7
    (witness_row_at (enc := enc) (C := Try.checked) false (laidWorld os) #[.string ⟨#[]⟩, .string ⟨#[]⟩, .string ⟨#[]⟩] rfl (by kernel_rfl) (by kernel_rfl) (by kernel_rfl)
      (OpenSpec.preRow_of_cond 8 hx (by kernel_rfl) (fun k hk => by cases hk) (by kernel_rfl) (laid_met os _))) ?_
  intro W base args ds gs before hval hW _ hcond hreach hL _ _
  obtain ⟨p, q, hA0, hV, hpq, hfz, hnd⟩ := id hW
  obtain ⟨rfl, _⟩ := trodVars_none hV
  rw [List.append_nil] at hreach
  exact contract H enc W base args ds [] before hval hW hreach

theorem said : Rows.DigestStartsSaid :=
  OpenClaim.holds_of_cond 7 Try.f7 rfl rfl rfl rfl rfl rfl rfl ⟨rfl, rfl, rfl, rfl, rfl⟩ rfl rfl rfl rfl rfl (by kernel_rfl) Try.func7 (by kernel_rfl)
    (of_decide_eq_true (by kernel_rfl)) (by unfold Func.isWrapper; first | (rw [if_pos (by decide +kernel)]; kernel_rfl) | (rw [if_neg (by decide +kernel)]; exact ⟨rfl, rfl⟩))
    (fun os started H enc _ F => by rw [OpenClaim.pre_eq_preRow]; exact lifted os started H enc F)


end Go.Proofs.Ytojafgomckljiaa.starts
