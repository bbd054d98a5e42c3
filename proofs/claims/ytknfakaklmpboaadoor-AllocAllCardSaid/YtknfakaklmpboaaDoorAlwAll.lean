/-
  Whatever place is begun at, all that are free are the same blocks, those from 1 on that are not used: for every text, number of blocks, place, and number (of which the low bits say another place); of at most 300 blocks.
  Conditions: none besides the row's own.
-/
import Derived.Test.YtknfakaklmpboaaDoorAlcH
import Derived.Deep.RegionHeld3
namespace Go.Proofs.YtknfakaklmpboaaDoor.all
open Go.ChangeShapes Go.WideShapes Go.ChangeAt Go.RowKit Go.Shelf Go SM PL AL

set_option maxRecDepth 100000 in
set_option maxHeartbeats 16000000 in
theorem walk (u : ByteArray) (b f m : Int) (z : Int) (w : World) (hk : AskOk u b f m) (hz : -9223372036854775808 ≤ z ∧ z ≤ 9223372036854775807) :
    Calls Tryd.prog 4 #[askV u b f m, .int .i64 z] w fun r w' => r = .returned (.bool true) ∧ Below w.heap.size w w' := by
  have CF := fun w => fixed10_any w
  have hu : u.size ≤ 140737488355328 := by have := hk.size; omega
  have hb := hk.blocks
  have hf := hk.place
  unfold IntOk at hb hf
  unfold askV
  obtain ⟨w0, hw0⟩ : ∃ w0, w.alloc (.cells #[.string u, .int .i64 b, .int .i64 f, .int .i64 m] 23) = w0 := ⟨_, rfl⟩
  have HA := Lib.hid (show AskAt w.heap.size u b f m w0 by rw [← hw0]; exact AskAt.new _ _ _ _ _)
  have HB0 := Lib.hid (show Below w.heap.size w w0 by rw [← hw0]; exact (Below.refl _ w).alloc (Nat.le_refl _) _)
  obtain ⟨c0, c1, c2, c3⟩ := HA.out.cells
  clear hk
  cases h3 : badA b f with
  | true =>
    have CN := fun w => anew_no u b f h3 w
    clear h3
    go_enter Tryd.func4, Tryd.ntmps4
    go_wp2_with fail
    refine (CN _).mono ?_
    rintro e w4 ⟨rfl, rfl⟩
    go_wp2_with fail
    refine (CF _).mono ?_
    rintro e w5 ⟨rfl, hB5⟩
    have HB5 := Lib.hid (HB0.out.trans (hB5.mono HB0.out.size))
    clear hB5
    go_wp2
    go_ret
    exact ⟨rfl, HB5.out⟩
  | false =>
    obtain ⟨n, g, rfl, rfl, k1, k2, k3, k4⟩ := badA_no h3
    have CN := fun w => anew_yes u n g hu k1 k2 k3 k4 w
    by_cases h1 : (300 : Int) < (n : Int)
    · clear k1 k2 k3 k4 h3
      go_enter Tryd.func4, Tryd.ntmps4
      go_wp2_with fail
      refine (CN _).mono ?_
      rintro e w1 ⟨p, rfl, -, hB1⟩
      have HB1 := Lib.hid (HB0.out.trans (hB1.mono HB0.out.size))
      obtain ⟨d0, d1, d2, d3⟩ := (HA.out.later hB1).cells
      clear hB1 CN c0 c1 c2 c3
      go_wp2_with fail
      refine (CF _).mono ?_
      rintro e w5 ⟨rfl, hB5⟩
      have HB5 := Lib.hid (HB1.out.trans (hB5.mono HB1.out.size))
      clear hB5
      go_wp2
      go_ret
      exact ⟨rfl, HB5.out⟩
    · obtain ⟨y, hy1, hy2⟩ := and_to 65535 (by omega) z
      have hy1' : bits .and .i64 z 65535 = (y : Int) := hy1
      obtain ⟨Y, hY⟩ : ∃ Y, y % n = Y := ⟨_, rfl⟩
      have hYn : Y < n := by have := Nat.mod_lt y (show n > 0 by omega); omega
      have r1 : (y : Int) % (n : Int) = (Y : Int) := by rw [← hY]; simp
      have r2 : (y : Int).tmod (n : Int) = (Y : Int) := by rw [Int.tmod_eq_emod_of_nonneg (by omega)]; exact r1
      have r3 : ((n : Int) == 0) = false := by simp; omega
      have r7 : ¬ (n : Int) = 0 := by omega
      have r8 : ¬ n = 0 := by omega
      have r4 : IntKind.i64.wrap (Y : Int) = (Y : Int) := wrapI _ (by omega) (by omega)
      have r5 : (1 : Int) + (Y : Int) = ((1 + Y : Nat) : Int) := by omega
      have r6 : IntKind.i64.wrap ((1 + Y : Nat) : Int) = ((1 + Y : Nat) : Int) := wrapI _ (by omega) (by omega)
      have hlen : ∀ q, (ord u.data.toList n q).length = (frees u.data.toList n).length := fun q => length_ord _ _ q
      have hL3 := length_frees u.data.toList n
      have CP := fun w => apick_yes u n g hu k1 k2 k3 k4 (frees u.data.toList n).length (by rw [hlen]; exact Nat.le_refl _) w
      have CQ := fun w => apick_yes u n (1 + Y) hu k1 k2 (by omega) (by omega) (frees u.data.toList n).length (by rw [hlen]; exact Nat.le_refl _) w
      unfold PickP at CP CQ
      have ht : ∀ q, (ord u.data.toList n q).take (frees u.data.toList n).length = ord u.data.toList n q := fun q => List.take_of_length_le (by rw [hlen]; exact Nat.le_refl _)
      simp only [ht] at CP CQ
      have CL := fun B F p w (h : PoolAt B F p u.data.toList n g 0 w) => left_any h
      simp only [hlen, Nat.sub_zero] at CL
      have CV := fun q v W (h : IntsAt W v (intsN (ord u.data.toList n q))) => of_any v _ (by rw [length_intsN, hlen]; omega) W h
      have hsm : ∀ q, ∀ m ∈ ord u.data.toList n q, m ≤ 65535 := fun q m hm => by have := (mem_frees.1 (mem_ord.1 hm)).1; omega
      simp only [ofV_nats (hsm _), ofL_ord u.data.toList (show n ≤ 65536 by omega)] at CV
      have hTs : (bs (freeT u.data.toList n)).size ≤ 140737488355328 := by
        have := length_freeT (u := u.data.toList) (n := n) (by omega)
        rw [bs_size]; omega
      have CA := fun w => and_b (bs (freeT u.data.toList n)) u w hTs hu
      rw [freeT_and u (show n ≤ 65536 by omega), show bs [] = (⟨#[]⟩ : ByteArray) from rfl] at CA
      have qE : ((⟨#[]⟩ : ByteArray).toList != (⟨#[]⟩ : ByteArray).toList) = false := by simp
      have CC := fun w => cnt_b (bs (freeT u.data.toList n)) w hTs
      rw [show cntB (bs (freeT u.data.toList n)) = (frees u.data.toList n).length by unfold cntB; rw [bs_list]; exact cnt_freeT (by omega)] at CC
      have HLn := Lib.hid hlen
      have hbit := Lib.hid (fun (k : Nat) (h1 : 1 ≤ k) (h2 : k < n) => show bitI (bs (freeT u.data.toList n)).data.toList (k : Int) = !bitI u.data.toList (k : Int) by
        rw [bitI_n, bitI_n, bs_list]; exact bit_freeT_in _ (by omega) h1 h2)
      have HOr := Lib.hid (fun q (W : World) B v (h : W.ownsRow B 3 1 v (frees u.data.toList n).length (ints (ord u.data.toList n q))) => show IntsAt W v (intsN (ord u.data.toList n q)) from owns_ints (by rw [hlen]; exact h))
      obtain ⟨T, hT⟩ : ∃ T, bs (freeT u.data.toList n) = T := ⟨_, rfl⟩
      obtain ⟨L, hL⟩ : ∃ L, (frees u.data.toList n).length = L := ⟨_, rfl⟩
      simp only [hT] at CV CA CC hbit hTs
      simp only [hL] at CP CQ CL CC HOr hL3
      have qT : (T.toList != T.toList) = false := by simp
      have qL : ((L : Int) != (L : Int)) = false := by simp
      have hn3 : (n : Int) ≤ 300 := by omega
      have hL5 : (L : Int) ≤ 300 := by omega
      have hn0 : 1 ≤ n := by omega
      have hG : ((1 + Y : Nat) : Int) ≤ 4096 := by omega
      obtain ⟨G, hGe⟩ : ∃ G, 1 + Y = G := ⟨_, rfl⟩
      simp only [hGe] at CQ r5 r6 hG
      clear hlen ht hsm hL hT hL3 k1 k2 k3 k4 h3 hz hb hf hy1 hy2 hY hYn hGe HLn
      go_enter Tryd.func4, Tryd.ntmps4
      go_wp2_with fail
      refine (CN _).mono ?_
      rintro e w1 ⟨p, rfl, ⟨F, hp⟩, hB1⟩
      have HP1 := Lib.hid hp
      have HA1 := Lib.hid (HA.out.later hB1)
      have HB1 := Lib.hid (HB0.out.trans (hB1.mono HB0.out.size))
      obtain ⟨d0, d1, d2, d3⟩ := HA1.out.cells
      clear hp hB1 CN c0 c1 c2 c3 HB0 HA hw0
      go_wp2_with fail
      refine (CL _ _ _ _ HP1.out).mono ?_
      rintro e w' ⟨rfl, rfl⟩
      clear CL HP1
      go_wp2_with fail
      refine (CP _).mono ?_
      rintro e w2 ⟨a2, cap2, rfl, ho2, hB2⟩
      have hB2d := hB2.trans ((Below.refl _ w2).drew.mono hB2.size)
      have HA2 := Lib.hid (HA1.out.later hB2d)
      have HB2 := Lib.hid (HB1.out.trans (hB2d.mono HB1.out.size))
      have HI2 := Lib.hid ((HOr.out _ _ _ _ ho2).later ((Below.refl _ w2).drew))
      obtain ⟨e0, e1, e2, e3⟩ := HA2.out.cells
      clear ho2 hB2 hB2d CP d0 d1 d2 d3 HA1
      go_wp2
      go_region_held3 (fun w' => w'.cell? ⟨w.heap.size, 0, none⟩ = some (.string u) ∧ w'.cell? ⟨w.heap.size, 1, none⟩ = some (.int .i64 (n : Int)))
        (first | exact ⟨e0, e1⟩ | exact ⟨f0, f1⟩)
        (first
          | (go_at_call 6; refine (CQ _).mono ?_; rintro e w3 ⟨a3, cap3, rfl, ho3, hB⟩; have HA3 := Lib.hid (HA2.out.later hB); have HB3 := Lib.hid (HB2.out.trans (hB.mono HB2.out.size)); have HI3 := Lib.hid (HI2.out.later hB); have HJ3 := Lib.hid (HOr.out _ _ _ _ ho3); obtain ⟨f0, f1, f2, f3⟩ := HA3.out.cells; clear ho3 hB))
      all_goals (
        clear CQ e0 e1 e2 e3 f0 f1 f2 f3 r1 r2 r3 r4 r5 r6 r7 r8 HA2 HI2 HB2 HB1
        have C4 := CV _ _ _ HI3.out
        go_wp2_with fail
        refine C4.mono ?_
        rintro e w4 ⟨rfl, hB4⟩
        have HA4 := Lib.hid (HA3.out.later hB4)
        have HB4 := Lib.hid (HB3.out.trans (hB4.mono HB3.out.size))
        have HJ4 := Lib.hid (HJ3.out.later hB4)
        clear hB4 C4 HA3 HB3 HI3 HJ3
        have C5 := CV _ _ _ HJ4.out
        go_wp2_with fail
        refine C5.mono ?_
        rintro e w5 ⟨rfl, hB5⟩
        have HA5 := Lib.hid (HA4.out.later hB5)
        have HB5 := Lib.hid (HB4.out.trans (hB5.mono HB4.out.size))
        obtain ⟨d0, d1, d2, d3⟩ := HA5.out.cells
        clear hB5 C5 HA4 HB4 HJ4 CV
        go_wp2_with fail
        refine (CA _).mono ?_
        rintro e w6 ⟨rfl, hB6⟩
        have HA6 := Lib.hid (HA5.out.later hB6)
        have HB6 := Lib.hid (HB5.out.trans (hB6.mono HB5.out.size))
        clear hB6 HA5 HB5 CA d0 d1 d2 d3
        go_wp2_with fail
        refine (CC _).mono ?_
        rintro e w' ⟨rfl, rfl⟩
        clear CC
        go_wp2_with fail
        go_loopw [18] (fun i wr => ∃ k : Nat, 1 ≤ k ∧ k ≤ n ∧ i = .int .i64 k ∧ Hid (AskAt w.heap.size u n g m wr) ∧ Hid (Below w.heap.size w wr)) (fun i _ => n - (intOf i).toNat)
        case atStart => exact ⟨1, Nat.le_refl _, hn0, rfl, HA6, HB6⟩
        case round =>
          clear HA6 HB6
          obtain ⟨k, hk1, hkn, rfl, HA, HB⟩ := hrel
          obtain ⟨c0, c1, c2, c3⟩ := HA.out.cells
          by_cases hlt : k < n
          · have hki : (k : Int) < (n : Int) := by omega
            have hb1 := hbit.out k hk1 hlt
            have HAd := Lib.hid (HA.out.later ((Below.refl _ _).drew))
            have HBd := Lib.hid (HB.out.trans ((Below.refl _ _).drew.mono HB.out.size))
            obtain ⟨d0, d1, d2, d3⟩ := HAd.out.cells
            have CH := fun (U : ByteArray) (h : U = T ∨ U = u) (w : World) => show Calls Tryd.prog 14 #[.string U, .int .i64 k] w (fun e w' => e = .returned (.bool (bitI U.data.toList (k : Int))) ∧ w = w') from has_any U (k : Int) w (by rcases h with rfl | rfl; exact hTs; exact hu) (by omega) (by omega)
            cases hbu : bitI u.data.toList (k : Int)
            all_goals (
              rw [hbu] at hb1
              simp only [Bool.not_true, Bool.not_false] at hb1
              go_wp2
              go_region_held3 (fun w' => w'.cell? ⟨w.heap.size, 0, none⟩ = some (.string u)) (first | exact d0)
                (first
                  | (go_at_call 14; refine (CH _ (by first | exact .inl rfl | exact .inr rfl) _).mono ?_; rintro e w' ⟨rfl, rfl⟩; first | rw [hb1] | rw [hbu]))
              all_goals (
                clear CH hb1 hbu d0 d1 d2 d3 c0 c1 c2 c3
                go_wp2
                go_roundw
                case rel => exact ⟨k + 1, by omega, by omega, by go_num, HAd, HBd⟩
                case measure => simp [intOf]; omega))
          · have hki : ¬ (k : Int) < (n : Int) := by omega
            go_wp2_with fail
            refine (CF _).mono ?_
            rintro e w5 ⟨rfl, hB5⟩
            have HB5 := Lib.hid (HB.out.trans (hB5.mono HB.out.size))
            clear hB5
            go_wp2
            go_ret
            exact ⟨rfl, HB5.out⟩)
set_option maxRecDepth 100000 in
/-- WHAT THE WALK GIVES, for every argument that can be read. -/
theorem contract (H : Type) (enc : TypeId × Value → H) (W : World) (base : Nat) (args : Array Value) (ds gs : List (DataW H)) (before : List MemPlace)
    (hval : ∀ (j : Nat) t v, Tryd.f4.params[j]? = some t → args[j]? = some v → Value.okWide Tryd.prog W .any base t v)
    (hW : DataW.Whole enc Tryd.prog Tryd.f4.params.toList Rows.allocAllSpec.vars false W args.toList ds gs before)
    (hreach : (DataW.weightsEach Tryd.prog (Tryd.f4.params.toList) ds).all (· ≤ reachBytes) = true) :
    Calls Tryd.prog 4 args W fun e W' => ∃ v, e = .returned v ∧ Rows.allocAllSpec.post enc Tryd.prog Tryd.f4 false true false false W args v W' := by
  have hW' := hW
  obtain ⟨p, q, hA0, hV, rfl, hfz, hnd⟩ := hW
  have hA : DataW.TrodAll enc Tryd.prog W 0 (fun _ => true) true Tryd.f4.params.toList args.toList ds p := hA0
  rw [Tryd.params4] at hA hval hreach
  obtain ⟨v0, v1, d0, d1, p0, p1, rfl, rfl, rfl, h0, h1⟩ := trodAll_two hA
  obtain ⟨rfl, rfl⟩ := trodVars_none hV
  obtain ⟨n1, rfl, rfl, rfl, wn1⟩ := open_int Tryd.underlying3 (hval 1 3 v1 rfl rfl) h1
  have r1 := int_range wn1
  obtain ⟨u0, b0, f0, m0, rfl, r0, rfl, sh0⟩ := ask_open (hval 0 23 v0 rfl rfl) h0 hreach (j := 0) rfl rfl
  clear hA0 hval
  simp only [List.append_nil] at hW'
  refine (walk u0 b0 f0 m0 n1 W r0 r1).mono fun e W' ⟨he, hB⟩ => ?_
  subst he
  exact ⟨_, rfl, post_of_below (pa := [] ++ ([])) (pv := []) hW' (fun _ _ _ => trodAll_mk1 (shut_bool Tryd.underlying4 _)) (fun sp hsp => trodAll_mk2 (sh0 _ _) (shut_int Tryd.underlying3 wn1)) (fun _ _ => rfl) (by simp) hB (ok_one (by kernel_rfl) rfl (okWide_bool_mk Tryd.underlying4 _))⟩

theorem reads (os : Os) {H : Type} (enc : TypeId × Value → H) : ∃ places, DataW.whole enc Tryd.prog ((laidWorld os).forCall (fun _ _ => 0) ⟨#[], #[.agg #[.string ⟨#[]⟩, .int .i64 0, .int .i64 0, .int .i64 0], .int .i64 0], []⟩).memory Tryd.f4.params.toList Rows.allocAllSpec.vars false (#[.agg #[.string ⟨#[]⟩, .int .i64 0, .int .i64 0, .int .i64 0], .int .i64 0] : Array Value).toList 8 = some ([.agg [.lit (.string []), .lit (.int .i64 0), .lit (.int .i64 0), .lit (.int .i64 0)], .lit (.int .i64 0)], [], places) :=
  ⟨[], by kernel_rfl⟩

set_option maxRecDepth 100000 in
theorem lifted (os : Os) (started : os.Started) (H : Type) (enc : TypeId × Value → H) (F : Stop.Interp) :
    ReturnsInHanded {} Tryd.checked os 4 .any ((OpenSpec.ofChange Rows.allocAllSpec).preRow enc Tryd.prog Tryd.f4 Rows.allocAllRow.domain false Rows.allocAllRow.laid) (((OpenSpec.ofChange Rows.allocAllSpec).at F).post enc Tryd.prog Tryd.f4 false true false false) := by
  obtain ⟨places, hx⟩ := reads os enc
  refine returnsInHanded_of_row (C := Tryd.checked) (s := OpenSpec.ofChange Rows.allocAllSpec) own started (by kernel_rfl) Tryd.func4
    (witness_row_at (enc := enc) (C := Tryd.checked) false (laidWorld os) #[.agg #[.string ⟨#[]⟩, .int .i64 0, .int .i64 0, .int .i64 0], .int .i64 0] rfl (by kernel_rfl) (by kernel_rfl) (by kernel_rfl)
      (OpenSpec.preRow_of_cond 8 hx (by kernel_rfl) (fun k hk => by cases hk) (by kernel_rfl) (laid_met os _))) ?_
  intro W base args ds gs before hval hW _ hcond hreach hL _ _
  obtain ⟨p, q, hA0, hV, hpq, hfz, hnd⟩ := id hW
  obtain ⟨rfl, _⟩ := trodVars_none hV
  rw [List.append_nil] at hreach
  exact contract H enc W base args ds [] before hval hW hreach

theorem said : Rows.AllocAllSaid :=
  OpenClaim.holds_of_cond 4 Tryd.f4 rfl rfl rfl rfl rfl rfl rfl ⟨rfl, rfl, rfl, rfl, rfl⟩ rfl rfl rfl rfl rfl (by kernel_rfl) Tryd.func4 (by kernel_rfl)
    (of_decide_eq_true (by kernel_rfl)) (by unfold Func.isWrapper; first | (rw [if_pos (by decide +kernel)]; kernel_rfl) | (rw [if_neg (by decide +kernel)]; exact ⟨rfl, rfl⟩))
    (fun os started H enc _ F => by rw [OpenClaim.pre_eq_preRow]; exact lifted os started H enc F)

theorem plain (f : FuncId) (fn : Func) (hf : Tryd.pinned.checked.prog.funcNamed "stillage/stillagelaw10.AllocAll" = some f) (hfn : Tryd.pinned.checked.prog.funcs[f]? = some fn) :
    false = Tryd.pinned.checked.prog.looks [] ∧ ∀ (j : Nat) t, fn.params[j]? = some t → Tryd.pinned.checked.prog.wantsStandIn t = false := by
  obtain rfl : f = 4 := Option.some.inj ((show Tryd.prog.funcNamed "stillage/stillagelaw10.AllocAll" = some 4 by kernel_rfl).symm.trans hf) |>.symm
  obtain rfl : fn = Tryd.f4 := (Option.some.inj (Tryd.func4.symm.trans hfn)).symm
  refine ⟨by kernel_rfl, fun j t ht => ?_⟩
  rw [Tryd.params4] at ht
  have hm : t ∈ [23, 3] := by simpa using Array.mem_of_getElem? ht
  have hall : ([23, 3].all fun u => !Tryd.prog.wantsStandIn u) = true := by kernel_rfl
  exact (show Tryd.prog.wantsStandIn t = false by simpa using List.all_eq_true.1 hall t hm)

/-- THE CARD -/
theorem card : Rows.AllocAllCardSaid :=
  Claim7.holds_tied_plain_at .later [] _ _ _ _ said (fun _ h => by cases h) (by kernel_rfl) (fun _ h => by cases h) allocAll_row_tie rfl ⟨rfl, rfl⟩ (by kernel_rfl) rfl plain (by kernel_rfl)


end Go.Proofs.YtknfakaklmpboaaDoor.all

