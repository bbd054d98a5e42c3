/-
  Behind its Close a pipe takes nothing in, by any way; what it has is still taken, in order: for every list of numbers, of which the first fifty are sent.
  Conditions: none besides the row's own.
-/
import Derived.Test.YtmlemgifejefiaaPipF
import Derived.Test.YtmlemgifejefiaaKitI
import Derived.OwnWalk
namespace Go.Proofs.Ytmlemgifejefiaa.closes
open Go.ChangeShapes Go.WideShapes Go.ChangeAt Go.RowKit Go

theorem cut50 (n : Nat) : ∃ k : Nat, k ≤ n ∧ k ≤ 50 ∧ (if (50 : Int) < (n : Int) then (50 : Int) else (n : Int)) = (k : Int) ∧ min (n : Int) 50 = (k : Int) := by
  by_cases h : (50 : Int) < (n : Int)
  · exact ⟨50, by omega, by omega, by rw [if_pos h]; rfl, by omega⟩
  · exact ⟨n, by omega, by omega, by rw [if_neg h], by omega⟩

set_option maxRecDepth 100000 in
set_option maxHeartbeats 2000000 in
theorem walk (v : Value) (zs : List Int) (w : World) (hO : IntsAt w v zs) (hz : zs.length ≤ 140737488351232 ∧ ∀ z ∈ zs, IntOk z) :
    Calls Try.prog 6 #[v] w fun r w' => r = .returned (.bool true) ∧ Below w.heap.size w w' := by
  obtain ⟨a, cap, rfl, ha⟩ := hO
  have HA := Lib.hid ha
  have hz1 := hz.1
  obtain ⟨N, hN1, hN2, hm1, hm2⟩ := cut50 zs.length
  clear ha hz
  go_enter Try.func6, Try.ntmps6
  go_wp2_with fail
  refine (PI.new_any 50 (by omega) (by omega) _).mono ?_
  rintro e w1 ⟨p, c, rfl, hp, lp, lc, B1⟩
  go_wp2_with fail
  refine (PI.new_any 50 (by omega) (by omega) _).mono ?_
  rintro e w2 ⟨q, d, rfl, hq, lq, ld, B2⟩
  have hn : PI.Two p c q d := ⟨by have := hp.lt_p; omega, by have := hp.lt_c; omega⟩
  have P2 := Lib.hid (hp.later B2)
  have lq2 : w.heap.size ≤ q := Nat.le_trans B1.size lq
  have ld2 : w.heap.size ≤ d := Nat.le_trans B1.size ld
  have B3 := Lib.hid (B1.trans (B2.mono B1.size))
  have Q2 := Lib.hid hq
  have HN := Lib.hid hn
  clear hp hq B1 B2 lq ld hn
  go_wp2_with fail
  clear hm1 hm2
  go_loopw [8] (fun i wr => ∃ j : Nat, j ≤ N ∧ i = .int .i64 j ∧ PI.PipeAt p c 50 false (zs.take j) wr ∧ PI.PipeAt q d 50 false [] wr ∧ Below w.heap.size w wr) (fun i _ => N - (intOf i).toNat)
  case atStart => exact ⟨0, Nat.zero_le _, rfl, P2.out, Q2.out, B3.out⟩
  case round =>
    clear P2 Q2 B3
    obtain ⟨j, hj, rfl, hp, hq, hB⟩ := hrel
    by_cases hlt : j < N
    · obtain ⟨b, off, rfl, hb, hbc⟩ := HA.out (by intro e; rw [e] at hN1; simp at hN1; omega)
      have hcell := (hB.cell (p := ⟨b, off + j, none⟩) hb).trans (hbc j (by omega))
      have HX := Lib.hid (show zs.take (j + 1) = zs.take j ++ [zs[j]] by rw [List.take_succ_eq_append_getElem (by omega)])
      have hji : (j : Int) < (N : Int) := by omega
      have hjl : (j : Int) < (zs.length : Int) := by omega
      have hroom : (zs.take j).length < 50 := by simp; omega
      have P3 := Lib.hid hp
      have Q3 := Lib.hid hq
      have B3 := Lib.hid hB
      have HR := Lib.hid hroom
      generalize zs[j] = x at *
      clear hp hq hB hroom hbc
      go_wp2_with fail
      refine (PI.send_room P3.out HR.out x).mono ?_
      rintro e w3 ⟨rfl, h, hs⟩
      have P4 := Lib.hid h
      have Q4 := Lib.hid (Q3.out.other P3.out HN.out.symm hs)
      have B4 := Lib.hid (below_turn B3.out lp lc hs)
      clear h hs P3 Q3 B3
      go_wp2_with fail
      go_roundw
      case rel => exact ⟨j + 1, hlt, by go_num, by rw [HX.out]; exact P4.out, Q4.out, B4.out⟩
      case measure => simp [intOf]; omega
    · obtain rfl : j = N := by omega
      obtain ⟨ys, hys⟩ : ∃ ys, zs.take j = ys := ⟨_, rfl⟩
      rw [hys] at hp
      have P3 := Lib.hid hp
      have Q3 := Lib.hid hq
      have B3 := Lib.hid hB
      have HY := Lib.hid hys
      clear hp hq hB hlt hys
      go_wp2_with fail
      refine (PI.send_room Q3.out (by decide) 7).mono ?_
      rintro e w3 ⟨rfl, h, hs⟩
      have Q4 := Lib.hid h
      have P4 := Lib.hid (P3.out.other Q3.out HN.out hs)
      have B4 := Lib.hid (below_turn B3.out lq2 ld2 hs)
      clear h hs P3 Q3 B3
      go_wp2_with fail
      refine (PI.close_any P4.out).mono ?_
      rintro e w4 ⟨rfl, h, hs⟩
      have P5 := Lib.hid h
      have Q5 := Lib.hid (Q4.out.other P4.out HN.out.symm hs)
      have B5 := Lib.hid (below_turn B4.out lp lc hs)
      clear h hs P4 Q4 B4
      go_wp2_with fail
      refine (PI.close_any P5.out).mono ?_
      rintro e w5 ⟨rfl, h, hs⟩
      have P6 := Lib.hid h
      have Q6 := Lib.hid (Q5.out.other P5.out HN.out.symm hs)
      have B6 := Lib.hid (below_turn B5.out lp lc hs)
      clear h hs P5 Q5 B5
      go_wp2_with fail
      refine (PI.send_shut P6.out 1).mono ?_
      rintro e w6 ⟨rfl, hB⟩
      have P7 := Lib.hid (P6.out.later hB)
      have Q7 := Lib.hid (Q6.out.later hB)
      have B7 := Lib.hid (B6.out.trans (hB.mono B6.out.size))
      clear hB P6 Q6 B6
      go_wp2_with fail
      refine (PI.move_any Q7.out P7.out HN.out.symm).mono ?_
      rintro e w7 ⟨rfl, hq, hp, hs⟩
      rw [show PI.mvN true 50 ([] ++ [7]) ys = 0 from rfl] at hq hp ⊢
      rw [List.take_zero, List.append_nil] at hp
      rw [List.drop_zero, List.nil_append] at hq
      have P8 := Lib.hid hp
      have Q8 := Lib.hid hq
      have B8 := Lib.hid (below_turn2 B7.out lq2 ld2 lp lc hs)
      clear hp hq hs P7 Q7 B7
      go_wp2_with fail
      refine (PI.len_any Q8.out).mono ?_
      rintro e w' ⟨rfl, rfl⟩
      go_wp2_with fail
      refine (PI.len_any P8.out).mono ?_
      rintro e w' ⟨rfl, rfl⟩
      have hyl : ys.length = j := by rw [← HY.out]; simp; omega
      rw [hyl]
      go_wp2_with fail
      go_loopw [9] (fun i wr => ∃ t : Nat, t ≤ j ∧ i = .int .i64 t ∧ PI.PipeAt p c 50 true (ys.drop t) wr ∧ Below w.heap.size w wr) (fun i _ => j - (intOf i).toNat)
      case atStart => exact ⟨0, Nat.zero_le _, rfl, P8.out, B8.out⟩
      case round =>
        clear P8 Q8 B8
        obtain ⟨t, ht, rfl, hp, hB⟩ := hrel
        by_cases hlt : t < j
        · obtain ⟨b, off, rfl, hb, hbc⟩ := HA.out (by intro e; rw [e] at hN1; simp at hN1; omega)
          have hb2 := hB.cell (p := ⟨b, off + t, none⟩) hb
          have hcell := hbc t (by omega)
          have hx : ys[t] = zs[t] := by
            have := HY.out
            subst this
            rw [List.getElem_take]
          rw [List.drop_eq_getElem_cons (by omega : t < ys.length), hx] at hp
          have hti : (t : Int) < (j : Int) := by omega
          have htl : (t : Int) < (zs.length : Int) := by omega
          have P3 := Lib.hid hp
          have B3 := Lib.hid hB
          have HC := Lib.hid hcell
          have HBB := Lib.hid hbc
          have HB := Lib.hid hb
          clear hp hB hb2 hbc hcell hx
          generalize zs[t] = x at *
          go_wp2_with fail
          refine (PI.take_some P3.out).mono ?_
          rintro e w9 ⟨rfl, h, hs⟩
          have B4 := below_turn B3.out lp lc hs
          have hc2 := (B4.cell (p := ⟨b, off + t, none⟩) HB.out).trans HC.out
          have P4 := Lib.hid h
          have B5 := Lib.hid B4
          clear h hs P3 B3 B4
          go_wp2_with fail
          go_roundw
          case rel => exact ⟨t + 1, hlt, by go_num, P4.out, B5.out⟩
          case measure => simp [intOf]; omega
        · obtain rfl : t = j := by omega
          rw [List.drop_eq_nil_of_le (by omega)] at hp
          have P3 := Lib.hid hp
          have B3 := Lib.hid hB
          clear hp hB hlt
          go_wp2_with fail
          refine (PI.take_none P3.out).mono ?_
          rintro e w' ⟨rfl, rfl⟩
          go_wp2_with fail
          refine (PI.len_any P3.out).mono ?_
          rintro e w' ⟨rfl, rfl⟩
          go_wp2_with fail
          refine (fixed_any _).mono ?_
          rintro e w9 ⟨rfl, hB⟩
          have B4 := Lib.hid (B3.out.trans (hB.mono B3.out.size))
          clear hB
          go_wp2_with fail
          go_ret
          exact ⟨rfl, B4.out⟩

set_option maxRecDepth 100000 in
/-- WHAT THE WALK GIVES, for every argument that can be read. -/
theorem contract (H : Type) (enc : TypeId × Value → H) (W : World) (base : Nat) (args : Array Value) (ds gs : List (DataW H)) (before : List MemPlace)
    (hval : ∀ (j : Nat) t v, Try.f6.params[j]? = some t → args[j]? = some v → Value.okWide Try.prog W .any base t v)
    (hW : DataW.Whole enc Try.prog Try.f6.params.toList Rows.pipeClosesSpec.vars false W args.toList ds gs before)
    (hreach : (DataW.weightsEach Try.prog (Try.f6.params.toList) ds).all (· ≤ reachBytes) = true) :
    Calls Try.prog 6 args W fun e W' => ∃ v, e = .returned v ∧ Rows.pipeClosesSpec.post enc Try.prog Try.f6 false true false false W args v W' := by
  have hW' := hW
  obtain ⟨p, q, hA0, hV, rfl, hfz, hnd⟩ := hW
  have hA : DataW.TrodAll enc Try.prog W 0 (fun _ => true) true Try.f6.params.toList args.toList ds p := hA0
  rw [Try.params6] at hA hval hreach
  obtain ⟨v0, d0, rfl, rfl, h0⟩ := trodAll_one hA
  obtain ⟨rfl, rfl⟩ := trodVars_none hV
  have lt0 : ∀ x ∈ p, x.block < W.heap.size := fun x hx => hW'.lt x (by simp [hx])
  obtain ⟨l0, k0, r0⟩ := ints_open (hval 0 29 v0 rfl rfl) h0 lt0 hreach (j := 0) rfl rfl
  clear hA0 hval
  simp only [List.append_nil] at hW'
  refine (walk v0 l0 W k0 r0).mono fun e W' ⟨he, hB⟩ => ?_
  subst he
  exact ⟨_, rfl, post_of_below (pa := p) (pv := []) hW' (fun _ _ _ => trodAll_mk1 (shut_bool Try.underlying4 _)) (fun sp hsp => trodAll_mk1 (WideElems.Trod_stays laidOut (by kernel_rfl) (of_decide_eq_true (by kernel_rfl)) h0 (fun x hx => hB.same (lt0 x hx)) (fun x hx => hsp x (by simp [hx])))) (fun _ _ => rfl) (by simp) hB (ok_one (by kernel_rfl) rfl (okWide_bool_mk Try.underlying4 _))⟩

theorem reads (os : Os) {H : Type} (enc : TypeId × Value → H) : ∃ places, DataW.whole enc Try.prog ((laidWorld os).forCall (fun _ _ => 0) ⟨#[], #[.slice none 0 0], []⟩).memory Try.f6.params.toList Rows.pipeClosesSpec.vars false (#[.slice none 0 0] : Array Value).toList 8 = some ([.nil], [], places) :=
  ⟨[], by kernel_rfl⟩

set_option maxRecDepth 100000 in
theorem lifted (os : Os) (started : os.Started) (H : Type) (enc : TypeId × Value → H) (F : Stop.Interp) :
    ReturnsInHanded {} Try.checked os 6 .any ((OpenSpec.ofChange Rows.pipeClosesSpec).preRow enc Try.prog Try.f6 Rows.pipeClosesRow.domain false Rows.pipeClosesRow.laid) (((OpenSpec.ofChange Rows.pipeClosesSpec).at F).post enc Try.prog Try.f6 false true false false) := by
  obtain ⟨places, hx⟩ := reads os enc
  refine returnsInHanded_of_row (C := Try.checked) (s := OpenSpec.ofChange Rows.pipeClosesSpec) own started (by kernel_rfl) Try.func6
    (witness_row_at (enc := enc) (C := Try.checked) false (laidWorld os) #[.slice none 0 0] rfl (by kernel_rfl) (by kernel_rfl) (by kernel_rfl)
      (OpenSpec.preRow_of_cond 8 hx (by kernel_rfl) (fun k hk => by cases hk) (by kernel_rfl) (laid_met os _))) ?_
  intro W base args ds gs before hval hW _ hcond hreach hL _ _
  obtain ⟨p, q, hA0, hV, hpq, hfz, hnd⟩ := id hW
  obtain ⟨rfl, _⟩ := trodVars_none hV
  rw [List.append_nil] at hreach
  exact contract H enc W base args ds [] before hval hW hreach

theorem said : Rows.PipeClosesSaid :=
  OpenClaim.holds_of_cond 6 Try.f6 rfl rfl rfl rfl rfl rfl rfl ⟨rfl, rfl, rfl, rfl, rfl⟩ rfl rfl rfl rfl rfl (by kernel_rfl) Try.func6 (by kernel_rfl)
    (of_decide_eq_true (by kernel_rfl)) (by unfold Func.isWrapper; first | (rw [if_pos (by decide +kernel)]; kernel_rfl) | (rw [if_neg (by decide +kernel)]; exact ⟨rfl, rfl⟩))
    (fun os started H enc _ F => by rw [OpenClaim.pre_eq_preRow]; exact lifted os started H enc F)



end Go.Proofs.Ytmlemgifejefiaa.closes
