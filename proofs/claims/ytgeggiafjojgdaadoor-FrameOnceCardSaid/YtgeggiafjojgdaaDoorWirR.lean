/-
  The reference: its bytes of numbers and texts.
-/
import Derived.Test.YtgeggiafjojgdaaDoorWirG
import Derived.RegionTactic
import Derived.BigQuiet
import Derived.Deep.RegionWith
import Derived.Laws.Rows
namespace Go.Proofs.YtgeggiafjojgdaaDoor
open Go.RowKit Go

theorem conv_one (W : World) (b : Nat) (x : UInt8) (t : TypeId) (f : Nat × Nat) (h : W.heap[b]? = some (.cells #[.int .u8 (x.toNat : Int)] t f)) :
    (convert 33 9 (.slice (some ⟨b, 0, none⟩) 1 1)).run Tryd.prog W = .ok (.string (bs [x])) W := by
  refine run_convert_bytes_back W 33 9 5 ⟨b, 0, none⟩ 1 [x] Tryd.underlying33 Tryd.underlying5 Tryd.underlying9 (fun j hj => ?_)
  obtain rfl : j = 0 := by simpa using hj
  rw [Addr.add_lit, Nat.zero_add]
  simp [World.cell?, h]
theorem conv_new (W : World) (x : UInt8) : (convert 33 9 (.slice (some ⟨W.heap.size, 0, none⟩) 1 1)).run Tryd.prog (W.alloc (.cells #[.int .u8 (x.toNat : Int)] 5)) = .ok (.string (bs [x])) (W.alloc (.cells #[.int .u8 (x.toNat : Int)] 5)) :=
  conv_one _ _ _ _ _ (heap_alloc_new _ _)

set_option maxRecDepth 100000 in
set_option maxHeartbeats 2000000 in
theorem rdigits_any (n : Nat) : n ≤ 9223372036854775807 → ∀ w : World,
    Calls Tryd.prog 27 #[.int .i64 n] w fun e w' => e = .returned (.string (bs (dg n))) ∧ Below w.heap.size w w' := by
  induction n using Nat.strongRecOn with
  | _ n ih =>
  intro hn w
  by_cases hlow : n < 128
  · rw [dg_lt hlow]
    have hbl := byte_low n hlow
    generalize UInt8.ofNat n = x at hbl ⊢
    have hl1 : (n : Int) < 128 := by omega
    have X1 := conv_new w x
    clear ih hn hlow
    go_enter Tryd.func27, Tryd.ntmps27
    go_wp2
    go_ret
    exact ⟨rfl, (Below.refl _ w).alloc (Nat.le_refl _) _⟩
  · rw [dg_ge hlow]
    have hbh := byte_high n
    have hb2 : IntKind.u8.wrap (128 + (n : Int).tmod 128) = ((UInt8.ofNat (n % 128 + 128)).toNat : Int) := by rw [Int.add_comm]; exact hbh
    have hb1 : IntKind.u8.wrap (128 + (n : Int) % 128) = ((UInt8.ofNat (n % 128 + 128)).toNat : Int) := by rw [← Int.tmod_eq_emod_of_nonneg (by omega)]; exact hb2
    have hq1 : (n : Int).tdiv 128 = ((n / 128 : Nat) : Int) := by rw [Int.tdiv_eq_ediv_of_nonneg (by omega)]; omega
    have hq2 : (n : Int) / 128 = ((n / 128 : Nat) : Int) := by omega
    have C := ih (n / 128) (by omega) (by omega)
    have hw1 : IntKind.i64.wrap (128 + (n : Int).tmod 128) = 128 + (n : Int).tmod 128 := by
      have := Int.tmod_eq_emod_of_nonneg (a := (n : Int)) (b := 128) (by omega)
      exact wrap64 _ (by omega) (by omega)
    have hw3 : IntKind.u8.wrap (IntKind.i64.wrap (128 + (n : Int).tmod 128)) = ((UInt8.ofNat (n % 128 + 128)).toNat : Int) := by rw [hw1]; exact hb2
    have hw2 : IntKind.i64.wrap ((n / 128 : Nat) : Int) = ((n / 128 : Nat) : Int) := wrap64 _ (by omega) (by omega)
    have HE := Lib.hid (show bs (UInt8.ofNat (n % 128 + 128) :: dg (n / 128)) = bs [UInt8.ofNat (n % 128 + 128)] ++ bs (dg (n / 128)) by rw [← bs_append]; rfl)
    have hz1 : (bs [UInt8.ofNat (n % 128 + 128)]).size = 1 := rfl
    have hd := dg_9 (n := n / 128) (by omega)
    have hz2 : (bs (dg (n / 128))).size ≤ 9 := by rw [bs_size]; exact hd
    have nsum : ¬ 9223372036854775807 < (bs [UInt8.ofNat (n % 128 + 128)]).size + (bs (dg (n / 128))).size := by omega
    generalize UInt8.ofNat (n % 128 + 128) = x at *
    generalize dg (n / 128) = d at *
    generalize n / 128 = q at *
    have hl1 : ¬ (n : Int) < 128 := by omega
    generalize hX : bs [x] = X at *
    generalize bs d = D at *
    have X1 : (convert 33 9 (.slice (some ⟨w.heap.size, 0, none⟩) 1 1)).run Tryd.prog ((w.alloc (.cells #[.int .u8 (x.toNat : Int)] 5)).drew) = .ok (.string X) ((w.alloc (.cells #[.int .u8 (x.toNat : Int)] 5)).drew) := by rw [← hX]; exact conv_new w.drew x
    have X2 : ∀ W : World, (convert 33 9 (.slice (some ⟨W.heap.size, 0, none⟩) 1 1)).run Tryd.prog (W.alloc (.cells #[.int .u8 (x.toNat : Int)] 5)) = .ok (.string X) (W.alloc (.cells #[.int .u8 (x.toNat : Int)] 5)) := by intro W; rw [← hX]; exact conv_new W x
    clear ih hn hlow hd hz1 hz2 hbh
    go_enter Tryd.func27, Tryd.ntmps27
    go_wp2_with fail
    go_region_with (go_at_call 27; refine (C _).mono ?_; rintro e w' ⟨rfl, hB⟩; (try (have X3 : (convert 33 9 (.slice (some ⟨w.heap.size, 0, none⟩) 1 1)).run Tryd.prog w' = .ok (.string X) w' := by rw [← hX]; exact conv_one _ _ _ _ _ ((hB.block w.heap.size (by show w.heap.size < (w.alloc _).heap.size; simp)).trans (heap_alloc_new w _)))))
    all_goals (
      go_wp2_with fail
      go_ret
      refine ⟨by rw [HE.out]; rfl, ?_⟩
      first
        | exact ((Below.refl _ w).alloc (Nat.le_refl _) _).drew.trans (hB.mono (by show w.heap.size ≤ (w.alloc _).heap.size; simp))
        | exact (Below.refl _ w).drew.trans (hB.alloc hB.size _))

set_option maxRecDepth 100000 in
theorem refnum_any (n : Int) (w : World) :
    Calls Tryd.prog 16 #[.int .i64 n] w fun e w' => e = .returned (numW n) ∧ Below w.heap.size w w' := by
  by_cases h0 : n < 0
  · have HX := Lib.hid (show numW n = .tuple #[.string ⟨#[]⟩, .int .i64 31] by unfold numW bad; simp [h0])
    go_enter Tryd.func16, Tryd.ntmps16
    go_wp2
    go_ret2
    exact ⟨by rw [HX.out]; rfl, Below.refl _ _⟩
  · by_cases h1 : 4611686018427387903 < n
    · have HX := Lib.hid (show numW n = .tuple #[.string ⟨#[]⟩, .int .i64 31] by unfold numW bad; simp [h1])
      go_enter Tryd.func16, Tryd.ntmps16
      go_wp2
      go_ret2
      exact ⟨by rw [HX.out]; rfl, Below.refl _ _⟩
    · have HX := Lib.hid (show numW n = .tuple #[.string (bs (dg n.toNat)), .int .i64 0] by unfold numW bad; simp [h0, h1])
      obtain ⟨m, rfl⟩ := Int.eq_ofNat_of_zero_le (show 0 ≤ n by omega)
      have C := fun w => rdigits_any m (by omega) w
      have g1 : (0 : Int) ≤ (m : Int) := by omega
      have g2 : (m : Int) ≤ 4611686018427387903 := by omega
      clear h0 h1
      go_enter Tryd.func16, Tryd.ntmps16
      go_wp2_with fail
      refine (C _).mono ?_
      rintro e w' ⟨rfl, hB⟩
      go_wp2
      go_ret2
      exact ⟨by rw [HX.out]; rfl, hB⟩

set_option maxRecDepth 100000 in
theorem reftext_any (s : ByteArray) (hs : s.size ≤ 281474976710656) (w : World) :
    Calls Tryd.prog 17 #[.string s] w fun e w' => e = .returned (textW s.data.toList) ∧ Below w.heap.size w w' := by
  unfold textW
  have hl : s.data.toList.length = s.size := by simp
  rw [hl]
  clear hl
  by_cases h : s.size ≤ 65536
  · rw [if_pos h]
    have h1 : (s.size : Int) ≤ 65536 := by omega
    have C2 := fun w => rdigits_any s.size (by omega) w
    have HE := Lib.hid (show bs (dg s.size ++ s.data.toList) = bs (dg s.size) ++ s by rw [bs_append]; rfl)
    have hd := dg_9 (n := s.size) (by omega)
    have hbz : (bs (dg s.size)).size ≤ 9 := by rw [bs_size]; exact hd
    generalize dg s.size = d at *
    have nsum : ¬ 9223372036854775807 < (bs d).size + s.size := by omega
    clear hd
    generalize bs d = D at *
    go_enter Tryd.func17, Tryd.ntmps17
    go_wp2_with fail
    refine (C2 _).mono ?_
    rintro e w' ⟨rfl, hB⟩
    go_wp2
    go_ret2
    exact ⟨by rw [HE.out]; rfl, hB⟩
  · rw [if_neg h]
    have h1 : (65536 : Int) < (s.size : Int) := by omega
    clear h
    go_enter Tryd.func17, Tryd.ntmps17
    go_wp2
    go_ret2
    exact ⟨rfl, Below.refl _ _⟩

end Go.Proofs.YtgeggiafjojgdaaDoor

