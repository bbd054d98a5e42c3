/-
  The reference: digits of numbers and of bytes; is a text a path?
-/
import Derived.Test.YtfokdmijkniomaaGreatDoorC4
import Derived.RegionTactic
import Derived.BigQuiet
import Derived.Deep.RegionWith
import Derived.Laws.Rows
namespace Go.Proofs.YtfokdmijkniomaaGreatDoor
open Go.RowKit Go

theorem conv_one (W : World) (b : Nat) (x : UInt8) (t : TypeId) (f : Nat × Nat) (h : W.heap[b]? = some (.cells #[.int .u8 (x.toNat : Int)] t f)) :
    (convert 130 9 (.slice (some ⟨b, 0, none⟩) 1 1)).run Tryz.prog W = .ok (.string (bs [x])) W := by
  refine run_convert_bytes_back W 130 9 5 ⟨b, 0, none⟩ 1 [x] Tryz.underlying130 Tryz.underlying5 Tryz.underlying9 (fun j hj => ?_)
  obtain rfl : j = 0 := by simpa using hj
  rw [Addr.add_lit, Nat.zero_add]
  simp [World.cell?, h]
theorem conv_new (W : World) (x : UInt8) : (convert 130 9 (.slice (some ⟨W.heap.size, 0, none⟩) 1 1)).run Tryz.prog (W.alloc (.cells #[.int .u8 (x.toNat : Int)] 5)) = .ok (.string (bs [x])) (W.alloc (.cells #[.int .u8 (x.toNat : Int)] 5)) :=
  conv_one _ _ _ _ _ (heap_alloc_new _ _)
theorem dig_byte {d : Nat} (h : d < 10) : IntKind.u8.wrap (48 + (d : Int)) = ((UInt8.ofNat (48 + d)).toNat : Int) := by
  rw [dig_nat h]
  simp [IntKind.wrap, IntKind.bits, IntKind.signed]; omega
set_option maxRecDepth 100000 in
set_option maxHeartbeats 2000000 in
theorem rnum_any (n : Nat) : n ≤ 100000 → ∀ w : World,
    Calls Tryz.prog 61 #[.int .i64 n] w fun e w' => e = .returned (.string (bs (Lib.decDigits n))) ∧ Below w.heap.size w w' := by
  induction n using Nat.strongRecOn with
  | _ n ih =>
  intro hn w
  by_cases hlow : n < 10
  · rw [Lib.decDigits_one hlow]
    have hbl := dig_byte hlow
    have hbl2 : (48 + (n : Int)) = ((UInt8.ofNat (48 + n)).toNat : Int) := by rw [dig_nat hlow]; omega
    generalize UInt8.ofNat (48 + n) = x at hbl hbl2 ⊢
    have hl1 : (n : Int) < 10 := by omega
    have X1 := conv_new w x
    have hxn := x.toNat_lt
    have hww : IntKind.u8.wrap (x.toNat : Int) = (x.toNat : Int) := by simp [IntKind.wrap, IntKind.bits, IntKind.signed]; omega
    clear ih hn hlow hbl
    go_enter Tryz.func61, Tryz.ntmps61
    go_wp2
    go_ret
    exact ⟨rfl, (Below.refl _ w).alloc (Nat.le_refl _) _⟩
  · rw [dec_step hlow]
    have hd10 : n % 10 < 10 := by omega
    have hq1 : (n : Int).tdiv 10 = ((n / 10 : Nat) : Int) := by rw [Int.tdiv_eq_ediv_of_nonneg (by omega)]; omega
    have hq2 : (n : Int) / 10 = ((n / 10 : Nat) : Int) := by omega
    have hr1 : (n : Int).tmod 10 = ((n % 10 : Nat) : Int) := by rw [Int.tmod_eq_emod_of_nonneg (by omega)]; omega
    have hr2 : (n : Int) % 10 = ((n % 10 : Nat) : Int) := by omega
    have C := ih (n / 10) (by omega) (by omega)
    have hby := dig_byte hd10
    have HE := Lib.hid (show bs (Lib.decDigits (n / 10) ++ [UInt8.ofNat (48 + n % 10)]) = bs (Lib.decDigits (n / 10)) ++ bs [UInt8.ofNat (48 + n % 10)] by rw [← bs_append])
    have hz1 : (bs [UInt8.ofNat (48 + n % 10)]).size = 1 := rfl
    have hz2 : (bs (Lib.decDigits (n / 10))).size ≤ 6 := by rw [bs_size]; exact dec_len (by omega)
    have nsum : ¬ 9223372036854775807 < (bs (Lib.decDigits (n / 10))).size + (bs [UInt8.ofNat (48 + n % 10)]).size := by omega
    have hr48 : (48 : Int) + ((n % 10 : Nat) : Int) = ((UInt8.ofNat (48 + n % 10)).toNat : Int) := by rw [dig_nat hd10]; omega
    generalize UInt8.ofNat (48 + n % 10) = x at *
    generalize n % 10 = r at *
    generalize Lib.decDigits (n / 10) = d at *
    generalize n / 10 = q at *
    have hw1 : IntKind.i64.wrap (x.toNat : Int) = (x.toNat : Int) := by have := x.toNat_lt; exact wrapI _ (by omega) (by omega)
    have hw2 : IntKind.u8.wrap (x.toNat : Int) = (x.toNat : Int) := by have := x.toNat_lt; simp [IntKind.wrap, IntKind.bits, IntKind.signed]; omega
    have hw3 : IntKind.i64.wrap (q : Int) = (q : Int) := wrapI _ (by omega) (by omega)
    have hl1 : ¬ (n : Int) < 10 := by omega
    generalize hX : bs [x] = X at *
    generalize bs d = D at *
    have X1 : (convert 130 9 (.slice (some ⟨w.heap.size, 0, none⟩) 1 1)).run Tryz.prog ((w.alloc (.cells #[.int .u8 (x.toNat : Int)] 5)).drew) = .ok (.string X) ((w.alloc (.cells #[.int .u8 (x.toNat : Int)] 5)).drew) := by rw [← hX]; exact conv_new w.drew x
    have X2 : ∀ W : World, (convert 130 9 (.slice (some ⟨W.heap.size, 0, none⟩) 1 1)).run Tryz.prog (W.alloc (.cells #[.int .u8 (x.toNat : Int)] 5)) = .ok (.string X) (W.alloc (.cells #[.int .u8 (x.toNat : Int)] 5)) := by intro W; rw [← hX]; exact conv_new W x
    clear ih hn hlow hz1 hz2 hby hd10
    go_enter Tryz.func61, Tryz.ntmps61
    go_wp2_with fail
    go_region_with (go_at_call 61; refine (C _).mono ?_; rintro e w' ⟨rfl, hB⟩; (try (have X3 : (convert 130 9 (.slice (some ⟨w.heap.size, 0, none⟩) 1 1)).run Tryz.prog w' = .ok (.string X) w' := by rw [← hX]; exact conv_one _ _ _ _ _ ((hB.block w.heap.size (by show w.heap.size < (w.alloc _).heap.size; simp)).trans (heap_alloc_new w _)))))
    all_goals (
      go_wp2_with fail
      go_ret
      refine ⟨by rw [HE.out]; rfl, ?_⟩
      first
        | exact ((Below.refl _ w).alloc (Nat.le_refl _) _).drew.trans (hB.mono (by show w.heap.size ≤ (w.alloc _).heap.size; simp))
        | exact (Below.refl _ w).drew.trans (hB.alloc hB.size _))
set_option maxRecDepth 100000 in
theorem rdigit_any (n : Nat) (hn : n < 16) (w : World) : Calls Tryz.prog 88 #[.int .u8 n] w fun e w' => e = .returned (.int .u8 ((hexD n).toNat : Int)) ∧ w = w' := by
  by_cases h : n < 10
  · have hv : ((hexD n).toNat : Int) = 48 + (n : Int) := by unfold hexD; rw [if_pos h, dig_nat h]; omega
    rw [hv]
    have hl : (n : Int) < 10 := by omega
    have hw : IntKind.u8.wrap (48 + (n : Int)) = 48 + (n : Int) := by simp [IntKind.wrap, IntKind.bits, IntKind.signed]; omega
    go_enter Tryz.func88, Tryz.ntmps88
    go_wp2
    go_ret
    exact ⟨rfl, rfl⟩
  · have hv : ((hexD n).toNat : Int) = 87 + (n : Int) := by
      have : ∀ k : Fin 16, ¬ k.val < 10 → ((hexD k.val).toNat : Int) = 87 + (k.val : Int) := by decide +kernel
      exact this ⟨n, hn⟩ h
    rw [hv]
    have hl : ¬ (n : Int) < 10 := by omega
    have hw : IntKind.u8.wrap (97 + (n : Int)) = 97 + (n : Int) := by simp [IntKind.wrap, IntKind.bits, IntKind.signed]; omega
    have hs : 97 + (n : Int) - 10 = 87 + (n : Int) := by omega
    have hw2 : IntKind.u8.wrap (87 + (n : Int)) = 87 + (n : Int) := by simp [IntKind.wrap, IntKind.bits, IntKind.signed]; omega
    go_enter Tryz.func88, Tryz.ntmps88
    go_wp2
    go_ret
    exact ⟨rfl, rfl⟩
noncomputable def pathB (s : ByteArray) : Bool := by classical exact decide (PathOk s)
theorem pathB_yes {s : ByteArray} (h : PathOk s) : pathB s = true := by unfold pathB; simp [h]
theorem pathB_no {s : ByteArray} (h : ¬ PathOk s) : pathB s = false := by unfold pathB; simp [h]
theorem ris_any (s : ByteArray) (hs : s.size ≤ 281474976710656) (w : World) : Calls Tryz.prog 59 #[.string s] w fun e w' => e = .returned (.bool (pathB s)) ∧ Below w.heap.size w w' := by
  have C := rpath_any s hs w
  obtain ⟨z, hz⟩ : ∃ z, pathB s = z := ⟨_, rfl⟩
  rw [hz]
  have HZ := Lib.hid hz
  clear hz
  go_enter Tryz.func59, Tryz.ntmps59
  go_wp2_with fail
  refine C.mono ?_
  rintro e w1 ⟨h, hB⟩
  have HB := Lib.hid hB
  clear hB C
  rcases h with ⟨l, v, hl, rfl, _⟩ | ⟨hn, rfl⟩
  · have HE := Lib.hid (show z = true by rw [← HZ.out]; exact pathB_yes ⟨l, hl⟩)
    clear hl
    go_wp2
    go_ret
    exact ⟨by rw [HE.out]; rfl, HB.out⟩
  · have HE := Lib.hid (show z = false by rw [← HZ.out]; exact pathB_no (fun ⟨l, h⟩ => hn l h))
    clear hn
    go_wp2
    go_ret
    exact ⟨by rw [HE.out]; rfl, HB.out⟩
set_option maxRecDepth 100000 in
set_option maxHeartbeats 4000000 in
theorem rhex_any (s : ByteArray) (hs : s.size ≤ 1048576) (w : World) :
    Calls Tryz.prog 62 #[.string s] w fun e w' => e = .returned (.string (bs (hexW s.data.toList))) ∧ Below w.heap.size w w' := by
  by_cases h0 : s.size = 0
  · obtain rfl : s = ⟨#[]⟩ := ByteArray.ext (Array.eq_empty_of_size_eq_zero h0)
    clear h0
    go_enter Tryz.func62, Tryz.ntmps62
    go_wp2
    go_ret
    exact ⟨rfl, Below.refl _ _⟩
  · have hne : s.data.toList ≠ [] := fun e => h0 (by rw [← len_of, e]; rfl)
    have b0 : s.toList.isEmpty = false := by rw [toList_eq]; cases h : s.data.toList with | nil => exact absurd h hne | cons _ _ => rfl
    have HW := Lib.hid (show hexW s.data.toList = s.data.toList.flatMap hexB by simp [hexW, hne])
    obtain ⟨i0, hi, hz0, hz1, hz2⟩ := info_parts info5
    obtain ⟨w1, hw1⟩ : ∃ w1, w.alloc (.cells #[] 5) = w1 := ⟨_, rfl⟩
    have hB1 : Below w.heap.size w w1 := by rw [← hw1]; exact (Below.refl _ w).alloc (Nat.le_refl _) _
    have hr1 : w1.ownsRow w.heap.size 5 1 (.slice (some ⟨w.heap.size, 0, none⟩) 0 0) (2 * 0) (u8s ((s.data.toList.take 0).flatMap hexB)) := by rw [← hw1]; exact owns_none w (Nat.le_refl _) _
    have HB1 := Lib.hid hB1
    have HR1 := Lib.hid hr1
    clear hne hB1 hr1
    go_enter Tryz.func62, Tryz.ntmps62
    go_wp2
    clear hw1
    go_loopw [3, 4] (fun v i wr => ∃ j : Nat, j ≤ s.size ∧ i = .int .i64 j ∧ Hid (wr.ownsRow w.heap.size 5 1 v (2 * j) (u8s ((s.data.toList.take j).flatMap hexB))) ∧ Hid (Below w.heap.size w wr)) (fun _ i _ => s.size - (intOf i).toNat)
    case atStart => exact ⟨0, Nat.zero_le _, rfl, HR1, HB1⟩
    case round =>
      obtain ⟨j, hj, rfl, HR, HB⟩ := hrel
      by_cases hlt : j < s.size
      · have hji : (j : Int) < (s.size : Int) := by omega
        have HT := Lib.hid (take_hex hlt)
        have hb := s[j].toNat_lt
        obtain ⟨q, hq⟩ : ∃ q, s[j].toNat / 16 = q := ⟨_, rfl⟩
        obtain ⟨r, hr⟩ : ∃ r, s[j].toNat % 16 = r := ⟨_, rfl⟩
        have e1 : ((s[j].toNat : Nat) : Int) / 16 = (q : Int) := by omega
        have e2 : ((s[j].toNat : Nat) : Int) % 16 = (r : Int) := by omega
        have hq1 : (q : Int) < 16 := by omega
        have hr1 : (r : Int) < 16 := by omega
        have HX := Lib.hid (show hexB s[j] = [hexD q, hexD r] by unfold hexB; rw [hq, hr])
        have w1 : IntKind.u8.wrap (q : Int) = (q : Int) := by simp [IntKind.wrap, IntKind.bits, IntKind.signed]; omega
        have w2 : IntKind.u8.wrap (r : Int) = (r : Int) := by simp [IntKind.wrap, IntKind.bits, IntKind.signed]; omega
        have t1 : ((s[j].toNat : Nat) : Int).tdiv 16 = (q : Int) := by rw [Int.tdiv_eq_ediv_of_nonneg (by omega)]; exact e1
        have t2 : ((s[j].toNat : Nat) : Int).tmod 16 = (r : Int) := by rw [Int.tmod_eq_emod_of_nonneg (by omega)]; exact e2
        have C1 := fun w => rdigit_any q (by omega) w
        have C2 := fun w => rdigit_any r (by omega) w
        clear hq hr
        have hrow := HR.out
        have hB := HB.out
        have hrd : wr.drew.ownsRow w.heap.size 5 1 u3 (2 * j) (u8s ((s.data.toList.take j).flatMap hexB)) := hrow
        have hsz := hB.size
        go_upto_region 7 with fail
        refine wp_region_any (by kernel_rfl) ?_
        change wpAny _ _ _ _ _ _ _ (World.drew _)
        refine take_one 14 (i := 0) (v := u3) rfl rfl (by kernel_rfl) (by kernel_rfl) (by kernel_rfl) (fun _ _ _ h => h) (Or.inl ⟨by kernel_rfl, fun w => by (go_simp)⟩) ?_
        simp only [Act.put, List.setIfInBounds_toArray, List.set_cons_zero, List.set_cons_succ]
        refine take_one 15 (i := 1) (v := .string s) rfl rfl (by kernel_rfl) (by kernel_rfl) (by kernel_rfl) (fun _ _ _ h => h) (Or.inl ⟨by kernel_rfl, fun w => by (go_simp)⟩) ?_
        simp only [Act.put, List.setIfInBounds_toArray, List.set_cons_zero, List.set_cons_succ]
        refine take_one 16 (i := 2) (v := .int .i64 j) rfl rfl (by kernel_rfl) (by kernel_rfl) (by kernel_rfl) (fun _ _ _ h => h) (Or.inl ⟨by kernel_rfl, fun w => by (go_simp)⟩) ?_
        simp only [Act.put, List.setIfInBounds_toArray, List.set_cons_zero, List.set_cons_succ]
        refine take_one 17 (i := 3) (v := .int .u8 (s[j].toNat : Int)) rfl rfl (by kernel_rfl) (by kernel_rfl) (by kernel_rfl) (fun _ _ _ h => h) (Or.inl ⟨by kernel_rfl, fun w => by (go_simp)⟩) ?_
        simp only [Act.put, List.setIfInBounds_toArray, List.set_cons_zero, List.set_cons_succ]
        refine take_one 18 (i := 4) (v := .int .u8 (q : Int)) rfl rfl (by kernel_rfl) (by kernel_rfl) (by kernel_rfl) (fun _ _ _ h => h) (Or.inl ⟨by kernel_rfl, fun w => by (go_simp)⟩) ?_
        simp only [Act.put, List.setIfInBounds_toArray, List.set_cons_zero, List.set_cons_succ]
        refine take_one 20 (i := 6) (v := .string s) rfl rfl (by kernel_rfl) (by kernel_rfl) (by kernel_rfl) (fun _ _ _ h => h) (Or.inl ⟨by kernel_rfl, fun w => by (go_simp)⟩) ?_
        simp only [Act.put, List.setIfInBounds_toArray, List.set_cons_zero, List.set_cons_succ]
        refine take_one 21 (i := 7) (v := .int .i64 j) rfl rfl (by kernel_rfl) (by kernel_rfl) (by kernel_rfl) (fun _ _ _ h => h) (Or.inl ⟨by kernel_rfl, fun w => by (go_simp)⟩) ?_
        simp only [Act.put, List.setIfInBounds_toArray, List.set_cons_zero, List.set_cons_succ]
        refine take_one 22 (i := 8) (v := .int .u8 (s[j].toNat : Int)) rfl rfl (by kernel_rfl) (by kernel_rfl) (by kernel_rfl) (fun _ _ _ h => h) (Or.inl ⟨by kernel_rfl, fun w => by (go_simp)⟩) ?_
        simp only [Act.put, List.setIfInBounds_toArray, List.set_cons_zero, List.set_cons_succ]
        refine take_one 23 (i := 9) (v := .int .u8 (r : Int)) rfl rfl (by kernel_rfl) (by kernel_rfl) (by kernel_rfl) (fun _ _ _ h => h) (Or.inl ⟨by kernel_rfl, fun w => by (go_simp)⟩) ?_
        simp only [Act.put, List.setIfInBounds_toArray, List.set_cons_zero, List.set_cons_succ]
        refine wpAny_ready (rs := [5]) (by kernel_rfl) (by simp) ?_
        refine AllReady.cons rfl (fun K hK => ?_) (AllReady.nil)
        go_simp
        go_at_call 88
        refine (C1 _).mono ?_
        rintro e w' ⟨rfl, rfl⟩
        go_wp2_with fail
        refine wpAny_ready (rs := [10]) (by kernel_rfl) (by simp) ?_
        refine AllReady.cons rfl (fun K hK => ?_) (AllReady.nil)
        go_simp
        go_at_call 88
        refine (C2 _).mono ?_
        rintro e w' ⟨rfl, rfl⟩
        go_wp2_with fail
        refine wpAny_ready (rs := [11]) (by kernel_rfl) (by simp) ?_
        refine AllReady.cons rfl (fun K hK => ?_) (AllReady.nil)
        go_simp
        refine hK _ _ ?_
        clear hK K
        refine wpAny_ready (rs := [12]) (by kernel_rfl) (by simp) ?_
        refine AllReady.cons rfl (fun K hK => ?_) (AllReady.nil)
        refine step_append_own _ (by rfl) (.tmp 14) (.tmp 25) _ (by rfl) w.heap.size 5 i0 (.int .u8 0) 1 1 Tryz.underlying130 hi hz0 hz1 hz2 rfl (by decide) _ (2 * j) _ (by rfl) (hrd.alloc _) ⟨wr.heap.size, 0, none⟩ 2 2 [.int .u8 ((hexD q).toNat : Int), .int .u8 ((hexD r).toNat : Int)] (by rfl) rfl (cell_two_new _ _ _ _) (by simp [Value.oneCell']) (by unfold maxLen; omega) (by omega) (Nat.le_trans hsz (by simp)) ?_
        intro v' w3 hown' hgrow _ _
        have HB4 := Lib.hid (hB.drew.trans (((Below.refl _ wr.drew).alloc hsz _).grown hgrow (by simp; omega) (fun j ej => (hrow.lt j ej).1)))
        have HO := Lib.hid hown'
        clear hown' hgrow
        go_simp
        refine hK _ _ ?_
        clear hK K
        refine take_one 3 (i := 13) (v := v') rfl rfl (by kernel_rfl) (by kernel_rfl) (by kernel_rfl) (fun _ _ _ h => h) (Or.inl ⟨by kernel_rfl, fun w => by (go_simp)⟩) ?_
        simp only [Act.put, List.setIfInBounds_toArray, List.set_cons_zero, List.set_cons_succ]
        refine wpAny_done (by kernel_rfl) ?_ _
        go_wp2
        go_roundw
        case rel => exact ⟨j + 1, hlt, by go_num, Lib.hid (by rw [HT.out, HX.out, u8s_app]; exact HO.out), HB4⟩
        case measure => simp [intOf]; omega
      · obtain rfl : j = s.size := by omega
        have HE := Lib.hid (show (s.data.toList.take s.size).flatMap hexB = hexW s.data.toList by rw [HW.out, List.take_of_length_le (by simp)])
        have hl : (hexW s.data.toList).length = 2 * s.size := by rw [HW.out, flat_hex_len]; simp
        have hrow := HR.out
        rw [HE.out, ← hl] at hrow
        have hcv := conv_own wr w.heap.size _ _ hrow
        clear hrow hl
        go_wp2
        go_ret
        exact ⟨rfl, HB.out⟩
end Go.Proofs.YtfokdmijkniomaaGreatDoor

