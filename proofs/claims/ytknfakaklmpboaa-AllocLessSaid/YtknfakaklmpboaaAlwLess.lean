/-
  What is picked of fewer is the beginning of what is picked of more: for every text, number of blocks, place, number of blocks wanted, and number (of which the low bits say how many fewer); of at most 300 blocks.
  Conditions: none besides the row's own.
-/
import Derived.Test.YtknfakaklmpboaaAlcG
namespace Go.Proofs.Ytknfakaklmpboaa.less
open Go.ChangeShapes Go.WideShapes Go.ChangeAt Go.RowKit Go.Shelf Go SM PL AL

theorem row_or {W : World} {B K cap : Nat} {a : Option Addr} {xs : List Value} (h : W.ownsRow B 3 1 (.slice a K cap) K xs) :
    (a = none ∧ K = 0 ∧ cap = 0) ∨ ∃ g, a = some ⟨g, 0, none⟩ ∧ B ≤ g ∧ g < W.heap.size ∧ K ≤ cap := by
  rcases h.2 with ⟨e, h0⟩ | ⟨g, cp, cur, e, h2, h3, h4, _⟩
  · simp only [Value.slice.injEq] at e
    exact .inl ⟨e.1, h0, e.2.2⟩
  · simp only [Value.slice.injEq] at e
    obtain ⟨rfl, -, rfl⟩ := e
    exact .inr ⟨g, rfl, h2, lt_of_heap h3, h4⟩
set_option maxRecDepth 100000 in
set_option maxHeartbeats 8000000 in
theorem walk (u : ByteArray) (b f m : Int) (z : Int) (w : World) (hk : AskOk u b f m) (hz : -9223372036854775808 ≤ z ∧ z ≤ 9223372036854775807) :
    Calls Try.prog 5 #[askV u b f m, .int .i64 z] w fun r w' => r = .returned (.bool true) ∧ Below w.heap.size w w' := by
  have CF := fun w => fixed10_any w
  have hu : u.size ≤ 140737488355328 := by have := hk.size; omega
  have hb := hk.blocks
  have hf := hk.place
  have hm := hk.many
  unfold IntOk at hb hf hm
  unfold askV
  obtain ⟨w0, hw0⟩ : ∃ w0, w.alloc (.cells #[.string u, .int .i64 b, .int .i64 f, .int .i64 m] 23) = w0 := ⟨_, rfl⟩
  have HA := Lib.hid (show AskAt w.heap.size u b f m w0 by rw [← hw0]; exact AskAt.new _ _ _ _ _)
  have HB0 := Lib.hid (show Below w.heap.size w w0 by rw [← hw0]; exact (Below.refl _ w).alloc (Nat.le_refl _) _)
  obtain ⟨c0, c1, c2, c3⟩ := HA.out.cells
  clear hk
  by_cases h1 : 300 < b
  · go_enter Try.func5, Try.ntmps5
    go_wp2_with fail
    refine (CF _).mono ?_
    rintro e w5 ⟨rfl, hB5⟩
    have HB5 := Lib.hid (HB0.out.trans (hB5.mono HB0.out.size))
    clear hB5
    go_wp2
    go_ret
    exact ⟨rfl, HB5.out⟩
  · by_cases h2 : m < 0
    · go_enter Try.func5, Try.ntmps5
      go_wp2_with fail
      refine (CF _).mono ?_
      rintro e w5 ⟨rfl, hB5⟩
      have HB5 := Lib.hid (HB0.out.trans (hB5.mono HB0.out.size))
      clear hB5
      go_wp2
      go_ret
      exact ⟨rfl, HB5.out⟩
    · cases h3 : badA b f with
      | true =>
        have CP := fun w => apick_bad u b f m h3 w
        go_enter Try.func5, Try.ntmps5
        go_wp2_with fail
        refine (CP _).mono ?_
        rintro e w4 ⟨rfl, rfl⟩
        go_wp2_with fail
        refine (CF _).mono ?_
        rintro e w5 ⟨rfl, hB5⟩
        have HB5 := Lib.hid (HB0.out.trans (hB5.mono HB0.out.size))
        clear hB5
        go_wp2
        go_ret
        exact ⟨rfl, HB5.out⟩
      | false =>
        obtain ⟨n, g, rfl, rfl, k1, k2, k3, k4⟩ := badA_no h3
        have hl := length_frees u.data.toList n
        rw [← length_ord _ _ g] at hl
        by_cases h4 : ((ord u.data.toList n g).length : Int) < m
        · have CP := fun w => apick_full u n g hu k1 k2 k3 k4 m h4 w
          clear h4 hl k1 k2 k3 k4 h3
          go_enter Try.func5, Try.ntmps5
          go_wp2_with fail
          refine (CP _).mono ?_
          rintro e w4 ⟨rfl, hB4⟩
          have HB4 := Lib.hid (HB0.out.trans (hB4.mono HB0.out.size))
          clear hB4
          go_wp2_with fail
          refine (CF _).mono ?_
          rintro e w5 ⟨rfl, hB5⟩
          have HB5 := Lib.hid (HB4.out.trans (hB5.mono HB4.out.size))
          clear hB5
          go_wp2
          go_ret
          exact ⟨rfl, HB5.out⟩
        · obtain ⟨K, rfl⟩ : ∃ K : Nat, m = (K : Int) := ⟨m.toNat, by omega⟩
          have hK : K ≤ (ord u.data.toList n g).length := by omega
          obtain ⟨y, hy1, hy2⟩ := and_to 65535 (by omega) z
          obtain ⟨N, hN⟩ : ∃ N, y % (K + 1) = N := ⟨_, rfl⟩
          have hNK : N ≤ K := by have := Nat.mod_lt y (show K + 1 > 0 by omega); omega
          have r1 : (y : Int) % ((K : Int) + 1) = (N : Int) := by rw [← hN]; simp
          have r2 : (y : Int).tmod ((K : Int) + 1) = (N : Int) := by rw [Int.tmod_eq_emod_of_nonneg (by omega)]; exact r1
          have hNl : N ≤ (ord u.data.toList n g).length := by omega
          have CP := fun w => apick_yes u n g hu k1 k2 k3 k4 K hK w
          have CQ := fun w => apick_yes u n g hu k1 k2 k3 k4 N hNl w
          unfold PickP at CP CQ
          have hsm : ∀ k (h : k < (ord u.data.toList n g).length), (ord u.data.toList n g)[k] < n := fun k h => (ord_in h).2.1
          have hPs : ∀ k (h : k < (ord u.data.toList n g).length), placeAt (ord u.data.toList n g) g (k + 1) = (ord u.data.toList n g)[k] + 1 := fun k h => placeAt_succ h
          have hPz := placeAt_zero (ord u.data.toList n g) g
          generalize ord u.data.toList n g = L at *
          have hy1' : bits .and .i64 z 65535 = (y : Int) := hy1
          have hK5 : (K : Int) ≤ 4096 := by omega
          have hN5 : (N : Int) ≤ 4096 := by omega
          have hy5 : (y : Int) ≤ 65535 := by omega
          have hkz : ((K : Int) + 1 == 0) = false := by simp; omega
          have HK := Lib.hid (And.intro hK (And.intro hNK hNl))
          have HSm := Lib.hid hsm
          obtain ⟨P, hP⟩ : ∃ P, placeAt L g N = P := ⟨_, rfl⟩
          obtain ⟨P0, hP0⟩ : ∃ P0, placeAt L g K = P0 := ⟨_, rfl⟩
          rw [hP0] at CP
          rw [hP] at CQ
          have HPs := Lib.hid hPs
          have HPz := Lib.hid hPz
          have HP := Lib.hid hP
          have HLen := Lib.hid (show (L.take N).length = N ∧ (L.take K).length = K by constructor <;> rw [List.length_take] <;> omega)
          have hg5 : (g : Int) ≤ 4096 := by omega
          have CS := fun v v' W (h : IntsAt W v (intsN (L.take N))) (h' : IntsAt W v' (intsN (L.take N))) => same_any v v' (intsN (L.take N)) (intsN (L.take N)) (by rw [length_intsN, HLen.out.1]; omega) (by rw [length_intsN, HLen.out.1]; omega) W h h'
          simp only [decide_true] at CS
          clear hK hNK hNl hsm hP hP0 hPs hPz h4 hl hy1 hy2 hN k1 k2 k3 k4 h3 hz hm hb hf
          go_enter Try.func5, Try.ntmps5
          go_wp2_with fail
          refine (CP _).mono ?_
          rintro e w1 ⟨a, cap, rfl, ho1, hB1⟩
          have HA1 := Lib.hid (HA.out.later hB1)
          have HB1 := Lib.hid (HB0.out.trans (hB1.mono HB0.out.size))
          have HO1 := Lib.hid ho1
          obtain ⟨d0, d1, d2, d3⟩ := HA1.out.cells
          have hor := row_or ho1
          clear ho1 hB1 CP c0 c1 c2 c3 HB0 HA hw0
          go_wp2_with fail
          refine (CQ _).mono ?_
          rintro e w2 ⟨a2, cap2, rfl, ho2, hB2⟩
          have HA2 := Lib.hid (HA1.out.later hB2)
          have HB2 := Lib.hid (HB1.out.trans (hB2.mono HB1.out.size))
          have HI2 := Lib.hid (owns_ints (l := L.take N) (by rw [HLen.out.1]; exact ho2))
          have HO2 := Lib.hid (owns_keep HO1.out (fun j hj => hB2.block j (HO1.out.lt j hj).2))
          have HZ := Lib.hid hB2.size
          clear ho2 hB2 CQ d0 d1 d2 d3 HO1
          go_wp2_with fail
          refine (CF _).mono ?_
          rintro e w3 ⟨rfl, hB3⟩
          have HA3 := Lib.hid (HA2.out.later hB3)
          have HB3 := Lib.hid (HB2.out.trans (hB3.mono HB2.out.size))
          have HI3 := Lib.hid (HI2.out.later hB3)
          have HO3 := Lib.hid (owns_keep HO2.out (fun j hj => hB3.block j (HO2.out.lt j hj).2))
          have HZ3 := Lib.hid (Nat.le_trans HZ.out hB3.size)
          clear hB3 CF HO2 HI2 HA1 HA2 HZ
          rcases hor with ⟨rfl, rfl, rfl⟩ | ⟨gr, rfl, hBg, hgl, hKc⟩
          · obtain rfl : N = 0 := by have := HK.out.2.1; omega
            obtain rfl : g = P := by rw [← HP.out]; exact HPz.out.symm
            have HI4 := Lib.hid (show IntsAt w3 (.slice none 0 0) (intsN (L.take 0)) from .inl ⟨rfl, rfl⟩)
            have C := CS _ _ _ HI3.out HI4.out
            clear CS r1 r2
            go_wp2_with fail
            refine C.mono ?_
            rintro e w4 ⟨rfl, hB4⟩
            have HA4 := Lib.hid (HA3.out.later hB4)
            have HB4 := Lib.hid (HB3.out.trans (hB4.mono HB3.out.size))
            obtain ⟨d0, d1, d2, d3⟩ := HA4.out.cells
            clear hB4
            go_wp2
            go_ret
            exact ⟨rfl, HB4.out⟩
          · have hNc : (N : Int) ≤ (cap : Int) := by have := HK.out.2.1; omega
            have HCell := Lib.hid (show ∀ j (h : j < K), w3.cell? ⟨gr, j, none⟩ = some (.int .i64 (L[j]'(by have := HK.out.1; omega) : Nat)) from fun j h => by
              have hjL : j < L.length := by have := HK.out.1; omega
              rw [HO3.out.cellAt (g := gr) (cap := cap) j (by omega)]
              simp [ints, List.getElem?_take, h, hjL])
            have HI4 := Lib.hid (show IntsAt w3 (.slice (some ⟨gr, 0, none⟩) N cap) (intsN (L.take N)) from .inr ⟨gr, 0, cap, by rw [length_intsN, HLen.out.1], by have := HZ3.out; omega, fun j hj => by
              have hj2 : j < N := by rw [length_intsN, HLen.out.1] at hj; exact hj
              rw [Nat.zero_add, HCell.out j (by have := HK.out.2.1; omega)]
              simp [intsN]⟩)
            have C := CS _ _ _ HI3.out HI4.out
            clear CS r1 r2
            by_cases h0 : N = 0
            · subst h0
              obtain rfl : g = P := by rw [← HP.out]; exact HPz.out.symm
              go_wp2_with fail
              refine C.mono ?_
              rintro e w4 ⟨rfl, hB4⟩
              have HA4 := Lib.hid (HA3.out.later hB4)
              have HB4 := Lib.hid (HB3.out.trans (hB4.mono HB3.out.size))
              obtain ⟨d0, d1, d2, d3⟩ := HA4.out.cells
              clear hB4
              go_wp2
              go_ret
              exact ⟨rfl, HB4.out⟩
            · obtain ⟨j, hj⟩ : ∃ j, N = j + 1 := ⟨N - 1, by omega⟩
              have hjL : j < L.length := by have := HK.out.2.2; omega
              have hjK : j < K := by have := HK.out.2.1; omega
              obtain ⟨x, hx⟩ : ∃ x : Nat, L[j]'hjL = x := ⟨_, rfl⟩
              have hPx : P = x + 1 := by rw [← HP.out, hj, HPs.out j hjL, hx]
              have hcx := HCell.out j hjK
              rw [hx] at hcx
              have hx5 : (x : Int) ≤ 4096 := by have := HSm.out j hjL; rw [hx] at this; omega
              have hN1 : (N : Int) - 1 = (j : Int) := by omega
              have hN0 : ((N : Int) == 0) = false := by simp; exact h0
              have hNp : (0 : Int) < (N : Int) := by omega
              have hPi : (P : Int) = (x : Int) + 1 := by omega
              have hjK2 : (j : Int) < (K : Int) := by omega
              have hj0 : (0 : Int) ≤ (j : Int) := by omega
              clear hx hPx hj h0
              go_wp2_with fail
              refine C.mono ?_
              rintro e w4 ⟨rfl, hB4⟩
              have HA4 := Lib.hid (HA3.out.later hB4)
              have HB4 := Lib.hid (HB3.out.trans (hB4.mono HB3.out.size))
              obtain ⟨d0, d1, d2, d3⟩ := HA4.out.cells
              have hcx4 : w4.cell? ⟨gr, j, none⟩ = some (.int .i64 (x : Int)) := (hB4.cell (p := ⟨gr, j, none⟩) (by have := HZ3.out; show gr < _; omega)).trans hcx
              have hq : ((x : Int) + 1 == (x : Int) + 1) = true := by simp
              clear hB4 hcx
              go_wp2
              go_ret
              exact ⟨rfl, HB4.out⟩
set_option maxRecDepth 100000 in
/-- WHAT THE WALK GIVES, for every argument that can be read. -/
theorem contract (H : Type) (enc : TypeId × Value → H) (W : World) (base : Nat) (args : Array Value) (ds gs : List (DataW H)) (before : List MemPlace)
    (hval : ∀ (j : Nat) t v, Try.f5.params[j]? = some t → args[j]? = some v → Value.okWide Try.prog W .any base t v)
    (hW : DataW.Whole enc Try.prog Try.f5.params.toList Rows.allocLessSpec.vars false W args.toList ds gs before)
    (hreach : (DataW.weightsEach Try.prog (Try.f5.params.toList) ds).all (· ≤ reachBytes) = true) :
    Calls Try.prog 5 args W fun e W' => ∃ v, e = .returned v ∧ Rows.allocLessSpec.post enc Try.prog Try.f5 false true false false W args v W' := by
  have hW' := hW
  obtain ⟨p, q, hA0, hV, rfl, hfz, hnd⟩ := hW
  have hA : DataW.TrodAll enc Try.prog W 0 (fun _ => true) true Try.f5.params.toList args.toList ds p := hA0
  rw [Try.params5] at hA hval hreach
  obtain ⟨v0, v1, d0, d1, p0, p1, rfl, rfl, rfl, h0, h1⟩ := trodAll_two hA
  obtain ⟨rfl, rfl⟩ := trodVars_none hV
  obtain ⟨n1, rfl, rfl, rfl, wn1⟩ := open_int Try.underlying3 (hval 1 3 v1 rfl rfl) h1
  have r1 := int_range wn1
  obtain ⟨u0, b0, f0, m0, rfl, r0, rfl, sh0⟩ := ask_open (hval 0 23 v0 rfl rfl) h0 hreach (j := 0) rfl rfl
  clear hA0 hval
  simp only [List.append_nil] at hW'
  refine (walk u0 b0 f0 m0 n1 W r0 r1).mono fun e W' ⟨he, hB⟩ => ?_
  subst he
  exact ⟨_, rfl, post_of_below (pa := [] ++ ([])) (pv := []) hW' (fun _ _ _ => trodAll_mk1 (shut_bool Try.underlying4 _)) (fun sp hsp => trodAll_mk2 (sh0 _ _) (shut_int Try.underlying3 wn1)) (fun _ _ => rfl) (by simp) hB (ok_one (by kernel_rfl) rfl (okWide_bool_mk Try.underlying4 _))⟩

theorem reads (os : Os) {H : Type} (enc : TypeId × Value → H) : ∃ places, DataW.whole enc Try.prog ((laidWorld os).forCall (fun _ _ => 0) ⟨#[], #[.agg #[.string ⟨#[]⟩, .int .i64 0, .int .i64 0, .int .i64 0], .int .i64 0], []⟩).memory Try.f5.params.toList Rows.allocLessSpec.vars false (#[.agg #[.string ⟨#[]⟩, .int .i64 0, .int .i64 0, .int .i64 0], .int .i64 0] : Array Value).toList 8 = some ([.agg [.lit (.string []), .lit (.int .i64 0), .lit (.int .i64 0), .lit (.int .i64 0)], .lit (.int .i64 0)], [], places) :=
  ⟨[], by kernel_rfl⟩

set_option maxRecDepth 100000 in
theorem lifted (os : Os) (started : os.Started) (H : Type) (enc : TypeId × Value → H) (F : Stop.Interp) :
    ReturnsInHanded {} Try.checked os 5 .any ((OpenSpec.ofChange Rows.allocLessSpec).preRow enc Try.prog Try.f5 Rows.allocLessRow.domain false Rows.allocLessRow.laid) (((OpenSpec.ofChange Rows.allocLessSpec).at F).post enc Try.prog Try.f5 false true false false) := by
  obtain ⟨places, hx⟩ := reads os enc
  refine returnsInHanded_of_row (C := Try.checked) (s := OpenSpec.ofChange Rows.allocLessSpec) own started (by kernel_rfl) Try.func5
    (witness_row_at (enc := enc) (C := Try.checked) false (laidWorld os) #[.agg #[.string ⟨#[]⟩, .int .i64 0, .int .i64 0, .int .i64 0], .int .i64 0] rfl (by kernel_rfl) (by kernel_rfl) (by kernel_rfl)
      (OpenSpec.preRow_of_cond 8 hx (by kernel_rfl) (fun k hk => by cases hk) (by kernel_rfl) (laid_met os _))) ?_
  intro W base args ds gs before hval hW _ hcond hreach hL _ _
  obtain ⟨p, q, hA0, hV, hpq, hfz, hnd⟩ := id hW
  obtain ⟨rfl, _⟩ := trodVars_none hV
  rw [List.append_nil] at hreach
  exact contract H enc W base args ds [] before hval hW hreach

theorem said : Rows.AllocLessSaid :=
  OpenClaim.holds_of_cond 5 Try.f5 rfl rfl rfl rfl rfl rfl rfl ⟨rfl, rfl, rfl, rfl, rfl⟩ rfl rfl rfl rfl rfl (by kernel_rfl) Try.func5 (by kernel_rfl)
    (of_decide_eq_true (by kernel_rfl)) (by unfold Func.isWrapper; first | (rw [if_pos (by decide +kernel)]; kernel_rfl) | (rw [if_neg (by decide +kernel)]; exact ⟨rfl, rfl⟩))
    (fun os started H enc _ F => by rw [OpenClaim.pre_eq_preRow]; exact lifted os started H enc F)



end Go.Proofs.Ytknfakaklmpboaa.less

