/-
  Which blocks are picked, or why none, is as the reference says; what is told may be turned by its owner: for every text, number of blocks, place and number of blocks wanted.
  Conditions: none besides the row's own.
-/
import Derived.Test.YtknfakaklmpboaaAlcG
namespace Go.Proofs.Ytknfakaklmpboaa.picks
open Go.ChangeShapes Go.WideShapes Go.ChangeAt Go.RowKit Go.Shelf Go SM PL AL

set_option maxRecDepth 100000 in
set_option maxHeartbeats 8000000 in
theorem walk (u : ByteArray) (b f m : Int) (w : World) (hk : AskOk u b f m) :
    Calls Try.prog 3 #[askV u b f m] w fun r w' => r = .returned (.bool true) ∧ Below w.heap.size w w' := by
  obtain ⟨l, P, E, hl, CR, CA⟩ := both u b f m (by have := hk.size; omega)
  have CF := fun w => fixed10_any w
  have q1 : (P != P) = false := by simp
  have q2 : (E != E) = false := by simp
  have hb := hk.blocks
  have hf := hk.place
  have hm := hk.many
  unfold IntOk at hb hf hm
  unfold askV
  obtain ⟨w0, hw0⟩ : ∃ w0, w.alloc (.cells #[.string u, .int .i64 b, .int .i64 f, .int .i64 m] 23) = w0 := ⟨_, rfl⟩
  have HA := Lib.hid (show AskAt w.heap.size u b f m w0 by rw [← hw0]; exact AskAt.new _ _ _ _ _)
  have HB0 := Lib.hid (show Below w.heap.size w w0 by rw [← hw0]; exact (Below.refl _ w).alloc (Nat.le_refl _) _)
  obtain ⟨c0, c1, c2, c3⟩ := HA.out.cells
  have hll := length_toInts l
  obtain ⟨n, hn⟩ : ∃ n, l.length = n := ⟨_, rfl⟩
  rw [hn] at CR CA hl hll
  have HN := Lib.hid hn
  have CS := fun v v' W (h : IntsAt W v (intsN l)) (h' : IntsAt W v' (intsN l)) => same_any v v' (intsN l) (intsN l) (by rw [length_intsN]; omega) (by rw [length_intsN]; omega) W h h'
  simp only [decide_true] at CS
  clear hn hll hk
  go_enter Try.func3, Try.ntmps3
  go_wp2_with fail
  refine (CR _).mono ?_
  rintro e w1 ⟨a, cap, rfl, hi1, hB1⟩
  have HI1 := Lib.hid hi1
  have HA1 := Lib.hid (HA.out.later hB1)
  have HB1 := Lib.hid (HB0.out.trans (hB1.mono HB0.out.size))
  clear hi1 hB1 CR HA HB0 c0 c1 c2 c3 hw0
  go_wp2_with fail
  go_loopw [6] (fun i wr => ∃ t : Nat, t ≤ 2 ∧ i = .int .i64 t ∧ Hid (IntsAt wr (.slice a n cap) (intsN l)) ∧ Hid (AskAt w.heap.size u b f m wr) ∧ Hid (Below w.heap.size w wr)) (fun i _ => 2 - (intOf i).toNat)
  case atStart => exact ⟨0, by omega, rfl, HI1, HA1, HB1⟩
  case round =>
    clear HI1 HA1 HB1
    obtain ⟨t, ht, rfl, HI, HA, HB⟩ := hrel
    by_cases hlt : t < 2
    · have hti : (t : Int) < 2 := by omega
      obtain ⟨wt, rfl⟩ : ∃ wt, wt = wr := ⟨_, rfl⟩
      obtain ⟨c0, c1, c2, c3⟩ := HA.out.cells
      go_wp2_with fail
      refine (CA _).mono ?_
      rintro e w2 ⟨a2, cap2, rfl, ho2, hB2⟩
      have HI2 := Lib.hid (HI.out.later hB2)
      have HA2 := Lib.hid (HA.out.later hB2)
      have HO2 := Lib.hid ho2
      have hi2 := owns_ints (l := l) (by rw [HN.out]; exact ho2)
      have HB2 := Lib.hid hB2
      have C := CS _ _ _ hi2 HI2.out
      clear ho2 hB2 hi2 c0 c1 c2 c3 CA
      go_wp2_with fail
      refine C.mono ?_
      rintro e w3 ⟨rfl, hB3⟩
      have HB3 := Lib.hid (HB2.out.trans (hB3.mono HB2.out.size))
      have HO3 := Lib.hid (owns_keep HO2.out (fun j hj => hB3.block j (HO2.out.lt j hj).2))
      clear hB3 C CS HO2
      by_cases hn0 : n = 0
      · subst hn0
        go_wp2_with fail
        go_loopw [10] (fun i wi => i = .int .i64 0 ∧ wi = w3) (fun _ _ => 0)
        case atStart => exact ⟨rfl, rfl⟩
        case round =>
          obtain ⟨rfl, rfl⟩ := hrel
          go_wp2_with fail
          go_roundw
          case rel => exact ⟨t + 1, by omega, by go_num, Lib.hid (HI.out.later HB3.out), Lib.hid (HA.out.later HB3.out), Lib.hid (HB.out.trans (HB3.out.mono HB.out.size))⟩
          case measure => simp [intOf]; omega
      · obtain ⟨g, cp, C, e9, hgl, hcp, hC, hCs⟩ := irow_blk HO3.out (by omega)
        simp only [Value.slice.injEq] at e9
        obtain ⟨rfl, -, rfl⟩ := e9
        have HC := Lib.hid (show ∃ C, w3.heap[g]? = some (.cells C 3 (0, 0)) ∧ n ≤ C.size from ⟨C, hC, hCs⟩)
        have hcpi : (n : Int) ≤ (cap2 : Int) := by omega
        have hni : (n : Int) ≤ 4096 := by omega
        clear hC hCs HO3
        go_wp2_with fail
        go_loopw [10] (fun i wi => ∃ j : Nat, j ≤ n ∧ i = .int .i64 j ∧ Hid (∃ C, wi.heap[g]? = some (.cells C 3 (0, 0)) ∧ n ≤ C.size) ∧ Hid (Below wt.heap.size wt wi)) (fun i _ => n - (intOf i).toNat)
        case atStart => exact ⟨0, Nat.zero_le _, rfl, HC, HB3⟩
        case round =>
          clear HC HB3
          obtain ⟨j, hj, rfl, HC, HB4⟩ := hrel
          by_cases hlj : j < n
          · have hji : (j : Int) < (n : Int) := by omega
            obtain ⟨C, hC, hCs⟩ := HC.out
            have cc : wr.cell? ⟨g, j, none⟩ = some (C[j]'(by omega)) := by simp [World.cell?, hC, show j < C.size by omega]
            have cf : wr.frozen? ⟨g, j, none⟩ = false := by simp [World.frozen?, hC]
            clear hC
            generalize C[j]'(by omega) = ci at cc
            go_wp2_with fail
            go_roundw
            case rel => exact ⟨j + 1, by omega, by go_num, Lib.hid (iblk_set HC.out), Lib.hid (HB4.out.setCell (p := ⟨g, j, none⟩) hgl _)⟩
            case measure => simp [intOf]; omega
          · have hji : ¬ (j : Int) < (n : Int) := by omega
            go_wp2_with fail
            go_roundw
            case rel => exact ⟨t + 1, by omega, by go_num, Lib.hid (HI.out.later HB4.out), Lib.hid (HA.out.later HB4.out), Lib.hid (HB.out.trans (HB4.out.mono HB.out.size))⟩
            case measure => simp [intOf]; omega
    · have hti : ¬ (t : Int) < 2 := by omega
      go_wp2_with fail
      refine (CF _).mono ?_
      rintro e w5 ⟨rfl, hB5⟩
      have HB5 := Lib.hid (HB.out.trans (hB5.mono HB.out.size))
      clear hB5
      go_wp2
      go_ret
      exact ⟨rfl, HB5.out⟩
set_option maxRecDepth 100000 in
/-- WHAT THE WALK GIVES, for every argument that can be read. -/
theorem contract (H : Type) (enc : TypeId × Value → H) (W : World) (base : Nat) (args : Array Value) (ds gs : List (DataW H)) (before : List MemPlace)
    (hval : ∀ (j : Nat) t v, Try.f3.params[j]? = some t → args[j]? = some v → Value.okWide Try.prog W .any base t v)
    (hW : DataW.Whole enc Try.prog Try.f3.params.toList Rows.allocPicksSpec.vars false W args.toList ds gs before)
    (hreach : (DataW.weightsEach Try.prog (Try.f3.params.toList) ds).all (· ≤ reachBytes) = true) :
    Calls Try.prog 3 args W fun e W' => ∃ v, e = .returned v ∧ Rows.allocPicksSpec.post enc Try.prog Try.f3 false true false false W args v W' := by
  have hW' := hW
  obtain ⟨p, q, hA0, hV, rfl, hfz, hnd⟩ := hW
  have hA : DataW.TrodAll enc Try.prog W 0 (fun _ => true) true Try.f3.params.toList args.toList ds p := hA0
  rw [Try.params3] at hA hval hreach
  obtain ⟨v0, d0, rfl, rfl, h0⟩ := trodAll_one hA
  obtain ⟨rfl, rfl⟩ := trodVars_none hV
  obtain ⟨u0, b0, f0, m0, rfl, r0, rfl, sh0⟩ := ask_open (hval 0 23 v0 rfl rfl) h0 hreach (j := 0) rfl rfl
  clear hA0 hval
  simp only [List.append_nil] at hW'
  refine (walk u0 b0 f0 m0 W r0).mono fun e W' ⟨he, hB⟩ => ?_
  subst he
  exact ⟨_, rfl, post_of_below (pa := []) (pv := []) hW' (fun _ _ _ => trodAll_mk1 (shut_bool Try.underlying4 _)) (fun sp hsp => trodAll_mk1 (sh0 _ _)) (fun _ _ => rfl) (by simp) hB (ok_one (by kernel_rfl) rfl (okWide_bool_mk Try.underlying4 _))⟩

theorem reads (os : Os) {H : Type} (enc : TypeId × Value → H) : ∃ places, DataW.whole enc Try.prog ((laidWorld os).forCall (fun _ _ => 0) ⟨#[], #[.agg #[.string ⟨#[]⟩, .int .i64 0, .int .i64 0, .int .i64 0]], []⟩).memory Try.f3.params.toList Rows.allocPicksSpec.vars false (#[.agg #[.string ⟨#[]⟩, .int .i64 0, .int .i64 0, .int .i64 0]] : Array Value).toList 8 = some ([.agg [.lit (.string []), .lit (.int .i64 0), .lit (.int .i64 0), .lit (.int .i64 0)]], [], places) :=
  ⟨[], by kernel_rfl⟩

set_option maxRecDepth 100000 in
theorem lifted (os : Os) (started : os.Started) (H : Type) (enc : TypeId × Value → H) (F : Stop.Interp) :
    ReturnsInHanded {} Try.checked os 3 .any ((OpenSpec.ofChange Rows.allocPicksSpec).preRow enc Try.prog Try.f3 Rows.allocPicksRow.domain false Rows.allocPicksRow.laid) (((OpenSpec.ofChange Rows.allocPicksSpec).at F).post enc Try.prog Try.f3 false true false false) := by
  obtain ⟨places, hx⟩ := reads os enc
  refine returnsInHanded_of_row (C := Try.checked) (s := OpenSpec.ofChange Rows.allocPicksSpec) own started (by kernel_rfl) Try.func3
    (witness_row_at (enc := enc) (C := Try.checked) false (laidWorld os) #[.agg #[.string ⟨#[]⟩, .int .i64 0, .int .i64 0, .int .i64 0]] rfl (by kernel_rfl) (by kernel_rfl) (by kernel_rfl)
      (OpenSpec.preRow_of_cond 8 hx (by kernel_rfl) (fun k hk => by cases hk) (by kernel_rfl) (laid_met os _))) ?_
  intro W base args ds gs before hval hW _ hcond hreach hL _ _
  obtain ⟨p, q, hA0, hV, hpq, hfz, hnd⟩ := id hW
  obtain ⟨rfl, _⟩ := trodVars_none hV
  rw [List.append_nil] at hreach
  exact contract H enc W base args ds [] before hval hW hreach

theorem said : Rows.AllocPicksSaid :=
  OpenClaim.holds_of_cond 3 Try.f3 rfl rfl rfl rfl rfl rfl rfl ⟨rfl, rfl, rfl, rfl, rfl⟩ rfl rfl rfl rfl rfl (by kernel_rfl) Try.func3 (by kernel_rfl)
    (of_decide_eq_true (by kernel_rfl)) (by unfold Func.isWrapper; first | (rw [if_pos (by decide +kernel)]; kernel_rfl) | (rw [if_neg (by decide +kernel)]; exact ⟨rfl, rfl⟩))
    (fun os started H enc _ F => by rw [OpenClaim.pre_eq_preRow]; exact lifted os started H enc F)



end Go.Proofs.Ytknfakaklmpboaa.picks

