/-
  WirR / TabS / TabL / TabU / WirQ / WirU / WirV / WirX / TabV.
-/
import Derived.Test.YtfokdmijkniomaaGreatDoorT1
import Derived.RegionTactic
import Derived.BigQuiet
import Derived.Deep.RegionWith
import Derived.Laws.Rows
import Derived.Test.YtfokdmijkniomaaGreatDoorT2
import Derived.Test.YtfokdmijkniomaaGreatDoorTN
import Derived.Test.YtfokdmijkniomaaGreatDoorM1
import Derived.Test.YtfokdmijkniomaaGreatDoorTabH
import Derived.Laws.Cover1
import Derived.Deep.QuietTactic
import Derived.BigRegion
import Derived.Test.YtfokdmijkniomaaGreatDoorT3
namespace Go.Proofs.YtfokdmijkniomaaGreatDoor.WT
open Go.RowKit Go

theorem conv_one (W : World) (b : Nat) (x : UInt8) (t : TypeId) (f : Nat × Nat) (h : W.heap[b]? = some (.cells #[.int .u8 (x.toNat : Int)] t f)) :
    (convert 130 9 (.slice (some ⟨b, 0, none⟩) 1 1)).run Tryz.prog W = .ok (.string (bs [x])) W := by
  refine run_convert_bytes_back W 130 9 5 ⟨b, 0, none⟩ 1 [x] Tryz.underlying130 Tryz.underlying5 Tryz.underlying9 (fun j hj => ?_)
  obtain rfl : j = 0 := by simpa using hj
  rw [Addr.add_lit, Nat.zero_add]
  simp [World.cell?, h]
theorem conv_new (W : World) (x : UInt8) : (convert 130 9 (.slice (some ⟨W.heap.size, 0, none⟩) 1 1)).run Tryz.prog (W.alloc (.cells #[.int .u8 (x.toNat : Int)] 5)) = .ok (.string (bs [x])) (W.alloc (.cells #[.int .u8 (x.toNat : Int)] 5)) :=
  conv_one _ _ _ _ _ (heap_alloc_new _ _)

set_option maxRecDepth 100000 in
set_option maxHeartbeats 2000000 in
theorem rdigits_any (n : Nat) : n ≤ 9223372036854775807 → ∀ w : World,
    Calls Tryz.prog 113 #[.int .i64 n] w fun e w' => e = .returned (.string (bs (dg n))) ∧ Below w.heap.size w w' := by
  induction n using Nat.strongRecOn with
  | _ n ih =>
  intro hn w
  by_cases hlow : n < 128
  · rw [dg_lt hlow]
    have hbl := byte_low n hlow
    generalize UInt8.ofNat n = x at hbl ⊢
    have hl1 : (n : Int) < 128 := by omega
    have X1 := conv_new w x
    clear ih hn hlow
    go_enter Tryz.func113, Tryz.ntmps113
    go_wp2
    go_ret
    exact ⟨rfl, (Below.refl _ w).alloc (Nat.le_refl _) _⟩
  · rw [dg_ge hlow]
    have hbh := byte_high n
    have hb2 : IntKind.u8.wrap (128 + (n : Int).tmod 128) = ((UInt8.ofNat (n % 128 + 128)).toNat : Int) := by rw [Int.add_comm]; exact hbh
    have hb1 : IntKind.u8.wrap (128 + (n : Int) % 128) = ((UInt8.ofNat (n % 128 + 128)).toNat : Int) := by rw [← Int.tmod_eq_emod_of_nonneg (by omega)]; exact hb2
    have hq1 : (n : Int).tdiv 128 = ((n / 128 : Nat) : Int) := by rw [Int.tdiv_eq_ediv_of_nonneg (by omega)]; omega
    have hq2 : (n : Int) / 128 = ((n / 128 : Nat) : Int) := by omega
    have C := ih (n / 128) (by omega) (by omega)
    have hw1 : IntKind.i64.wrap (128 + (n : Int).tmod 128) = 128 + (n : Int).tmod 128 := by
      have := Int.tmod_eq_emod_of_nonneg (a := (n : Int)) (b := 128) (by omega)
      exact wrap64 _ (by omega) (by omega)
    have hw3 : IntKind.u8.wrap (IntKind.i64.wrap (128 + (n : Int).tmod 128)) = ((UInt8.ofNat (n % 128 + 128)).toNat : Int) := by rw [hw1]; exact hb2
    have hw2 : IntKind.i64.wrap ((n / 128 : Nat) : Int) = ((n / 128 : Nat) : Int) := wrap64 _ (by omega) (by omega)
    have HE := Lib.hid (show bs (UInt8.ofNat (n % 128 + 128) :: dg (n / 128)) = bs [UInt8.ofNat (n % 128 + 128)] ++ bs (dg (n / 128)) by rw [← bs_append]; rfl)
    have hz1 : (bs [UInt8.ofNat (n % 128 + 128)]).size = 1 := rfl
    have hd := dg_9 (n := n / 128) (by omega)
    have hz2 : (bs (dg (n / 128))).size ≤ 9 := by rw [bs_size]; exact hd
    have nsum : ¬ 9223372036854775807 < (bs [UInt8.ofNat (n % 128 + 128)]).size + (bs (dg (n / 128))).size := by omega
    generalize UInt8.ofNat (n % 128 + 128) = x at *
    generalize dg (n / 128) = d at *
    generalize n / 128 = q at *
    have hl1 : ¬ (n : Int) < 128 := by omega
    generalize hX : bs [x] = X at *
    generalize bs d = D at *
    have X1 : (convert 130 9 (.slice (some ⟨w.heap.size, 0, none⟩) 1 1)).run Tryz.prog ((w.alloc (.cells #[.int .u8 (x.toNat : Int)] 5)).drew) = .ok (.string X) ((w.alloc (.cells #[.int .u8 (x.toNat : Int)] 5)).drew) := by rw [← hX]; exact conv_new w.drew x
    have X2 : ∀ W : World, (convert 130 9 (.slice (some ⟨W.heap.size, 0, none⟩) 1 1)).run Tryz.prog (W.alloc (.cells #[.int .u8 (x.toNat : Int)] 5)) = .ok (.string X) (W.alloc (.cells #[.int .u8 (x.toNat : Int)] 5)) := by intro W; rw [← hX]; exact conv_new W x
    clear ih hn hlow hd hz1 hz2 hbh
    go_enter Tryz.func113, Tryz.ntmps113
    go_wp2_with fail
    go_region_with (go_at_call 113; refine (C _).mono ?_; rintro e w' ⟨rfl, hB⟩; (try (have X3 : (convert 130 9 (.slice (some ⟨w.heap.size, 0, none⟩) 1 1)).run Tryz.prog w' = .ok (.string X) w' := by rw [← hX]; exact conv_one _ _ _ _ _ ((hB.block w.heap.size (by show w.heap.size < (w.alloc _).heap.size; simp)).trans (heap_alloc_new w _)))))
    all_goals (
      go_wp2_with fail
      go_ret
      refine ⟨by rw [HE.out]; rfl, ?_⟩
      first
        | exact ((Below.refl _ w).alloc (Nat.le_refl _) _).drew.trans (hB.mono (by show w.heap.size ≤ (w.alloc _).heap.size; simp))
        | exact (Below.refl _ w).drew.trans (hB.alloc hB.size _))

set_option maxRecDepth 100000 in
theorem refnum_any (n : Int) (w : World) :
    Calls Tryz.prog 112 #[.int .i64 n] w fun e w' => e = .returned (numW n) ∧ Below w.heap.size w w' := by
  by_cases h0 : n < 0
  · have HX := Lib.hid (show numW n = .tuple #[.string ⟨#[]⟩, .int .i64 31] by unfold numW bad; simp [h0])
    go_enter Tryz.func112, Tryz.ntmps112
    go_wp2
    go_ret2
    exact ⟨by rw [HX.out]; rfl, Below.refl _ _⟩
  · by_cases h1 : 4611686018427387903 < n
    · have HX := Lib.hid (show numW n = .tuple #[.string ⟨#[]⟩, .int .i64 31] by unfold numW bad; simp [h1])
      go_enter Tryz.func112, Tryz.ntmps112
      go_wp2
      go_ret2
      exact ⟨by rw [HX.out]; rfl, Below.refl _ _⟩
    · have HX := Lib.hid (show numW n = .tuple #[.string (bs (dg n.toNat)), .int .i64 0] by unfold numW bad; simp [h0, h1])
      obtain ⟨m, rfl⟩ := Int.eq_ofNat_of_zero_le (show 0 ≤ n by omega)
      have C := fun w => rdigits_any m (by omega) w
      have g1 : (0 : Int) ≤ (m : Int) := by omega
      have g2 : (m : Int) ≤ 4611686018427387903 := by omega
      clear h0 h1
      go_enter Tryz.func112, Tryz.ntmps112
      go_wp2_with fail
      refine (C _).mono ?_
      rintro e w' ⟨rfl, hB⟩
      go_wp2
      go_ret2
      exact ⟨by rw [HX.out]; rfl, hB⟩

set_option maxRecDepth 100000 in
theorem reftext_any (s : ByteArray) (hs : s.size ≤ 281474976710656) (w : World) :
    Calls Tryz.prog 90 #[.string s] w fun e w' => e = .returned (textW s.data.toList) ∧ Below w.heap.size w w' := by
  unfold textW
  have hl : s.data.toList.length = s.size := by simp
  rw [hl]
  clear hl
  by_cases h : s.size ≤ 65536
  · rw [if_pos h]
    have h1 : (s.size : Int) ≤ 65536 := by omega
    have C2 := fun w => rdigits_any s.size (by omega) w
    have HE := Lib.hid (show bs (dg s.size ++ s.data.toList) = bs (dg s.size) ++ s by rw [bs_append]; rfl)
    have hd := dg_9 (n := s.size) (by omega)
    have hbz : (bs (dg s.size)).size ≤ 9 := by rw [bs_size]; exact hd
    generalize dg s.size = d at *
    have nsum : ¬ 9223372036854775807 < (bs d).size + s.size := by omega
    clear hd
    generalize bs d = D at *
    go_enter Tryz.func90, Tryz.ntmps90
    go_wp2_with fail
    refine (C2 _).mono ?_
    rintro e w' ⟨rfl, hB⟩
    go_wp2
    go_ret2
    exact ⟨by rw [HE.out]; rfl, hB⟩
  · rw [if_neg h]
    have h1 : (65536 : Int) < (s.size : Int) := by omega
    clear h
    go_enter Tryz.func90, Tryz.ntmps90
    go_wp2
    go_ret2
    exact ⟨rfl, Below.refl _ _⟩

end Go.Proofs.YtfokdmijkniomaaGreatDoor.WT

namespace Go.Proofs.YtfokdmijkniomaaGreatDoor.WT
open Go.RowKit Go

set_option maxRecDepth 100000 in
set_option maxHeartbeats 2000000 in
theorem rnums_any (v : Value) (zs : List Int) (hz : zs.length ≤ 1000) (hg : ∀ z ∈ zs, good z) (w : World) (h : IntsAt w v zs) :
    Calls Tryz.prog 89 #[v] w fun e w' => e = .returned (.string (bs (layL (zs.map Int.toNat)))) ∧ Below w.heap.size w w' := by
  obtain ⟨a, cap, rfl, hc⟩ := h.split
  have HC := Lib.hid hc
  have HG := Lib.hid hg
  clear hc hg h
  obtain ⟨N, hN⟩ : ∃ N, zs.length = N := ⟨_, rfl⟩
  rw [hN] at hz ⊢
  have HN := Lib.hid hN
  clear hN
  go_enter Tryz.func89, Tryz.ntmps89
  go_wp2
  go_loopw [3, 4] (fun v i wr => ∃ (k : Nat) (S : ByteArray), k ≤ N ∧ i = .int .i64 k ∧ v = .string S ∧ S.size ≤ 9 * k ∧ S = bs (layL ((zs.take k).map Int.toNat)) ∧ Below w.heap.size w wr) (fun _ i _ => N - (intOf i).toNat)
  case atStart => exact ⟨0, ⟨#[]⟩, Nat.zero_le _, rfl, rfl, Nat.le_refl _, rfl, Below.refl _ _⟩
  case round =>
    obtain ⟨k, S, hk, rfl, rfl, hS, hfl, hB⟩ := hrel
    have HF := Lib.hid hfl
    have HB := Lib.hid hB
    clear hfl hB
    by_cases hlt : k < N
    · have hlt' : k < zs.length := by rw [HN.out]; exact hlt
      obtain ⟨b, off, rfl, hb, hcells⟩ := HC.out (by intro e; rw [e] at hlt'; simp at hlt')
      have hk1 : (k : Int) < (N : Int) := by omega
      have hcell : wr.cell? ⟨b, off + k, none⟩ = some (.int .i64 zs[k]) := by
        rw [World.cell?_of_block (w := w) (HB.out.block b hb)]; exact hcells k hlt'
      have HZ := Lib.hid (HG.out zs[k] (List.getElem_mem _))
      have HT := Lib.hid (show zs.take (k + 1) = zs.take k ++ [zs[k]] from List.take_succ_eq_append_getElem hlt')
      have C := fun w => refnum_any zs[k] w
      rw [numW_good HZ.out] at C
      have hd : (dg zs[k].toNat).length ≤ 9 := dg_9 (by have := HZ.out; unfold good at this; omega)
      generalize zs[k] = z at *
      obtain ⟨D, hD⟩ : ∃ D, bs (dg z.toNat) = D := ⟨_, rfl⟩
      have hDs : D.size ≤ 9 := by rw [← hD, bs_size]; exact hd
      rw [hD] at C
      have HD := Lib.hid hD
      have nsum : ¬ 9223372036854775807 < S.size + D.size := by omega
      have HSZ := Lib.hid (show (S ++ D).size ≤ 9 * (k + 1) by rw [ByteArray.size_append]; omega)
      clear hcells hd hD
      go_wp2_with fail
      refine (C _).mono ?_
      rintro e w2 ⟨rfl, hB2⟩
      have HB2 := Lib.hid (HB.out.trans (hB2.mono HB.out.size))
      clear hB2 C
      go_wp2_with fail
      go_roundw
      case rel => exact ⟨k + 1, S ++ D, by omega, by go_num, rfl, HSZ.out, by rw [HF.out, HT.out, List.map_append, layL_append, bs_append, ← HD.out]; simp [layL], HB2.out⟩
      case measure => simp [intOf]; omega
    · obtain rfl : k = N := by omega
      have hfull : zs.take k = zs := List.take_of_length_le (by rw [HN.out]; exact Nat.le_refl _)
      have HF2 := Lib.hid (show S = bs (layL (zs.map Int.toNat)) by rw [HF.out, hfull])
      clear hfull
      go_wp2_with fail
      go_ret
      exact ⟨by rw [← HF2.out]; rfl, HB.out⟩
end Go.Proofs.YtfokdmijkniomaaGreatDoor.WT

namespace Go.Proofs.YtfokdmijkniomaaGreatDoor
open Go.RowKit Go

theorem u8_lt_irrefl (a : UInt8) : ¬ a < a := by rw [UInt8.lt_iff_toNat_lt]; omega
theorem bl_irrefl : ∀ x : List UInt8, Op.bytesLess x x = false
  | [] => rfl
  | a :: x => by
    rw [Op.bytesLess, bl_irrefl x]
    simp
theorem bl_asymm : ∀ x y : List UInt8, Op.bytesLess x y = true → Op.bytesLess y x = false
  | [], [], h => by cases h
  | _ :: _, [], h => by cases h
  | [], _ :: _, _ => rfl
  | a :: x, b :: y, h => by
    rw [Op.bytesLess] at h ⊢
    simp only [Bool.or_eq_true, decide_eq_true_eq, Bool.and_eq_true, beq_iff_eq] at h
    rcases h with h | ⟨rfl, h⟩
    · have h1 : ¬ b < a := by rw [UInt8.lt_iff_toNat_lt] at h ⊢; omega
      have h2 : (b == a) = false := by
        rw [beq_eq_false_iff_ne]; rintro rfl; exact u8_lt_irrefl _ h
      simp [h1, h2]
    · rw [bl_asymm x y h]
      simp
theorem bl_total : ∀ x y : List UInt8, Op.bytesLess x y = false → (x == y) = false → Op.bytesLess y x = true
  | [], [], _, h => by cases h
  | _ :: _, [], _, _ => rfl
  | [], _ :: _, h, _ => by cases h
  | a :: x, b :: y, h, h2 => by
    rw [Op.bytesLess] at h ⊢
    simp only [Bool.or_eq_false_iff, decide_eq_false_iff_not, Bool.and_eq_false_iff] at h
    by_cases hab : a = b
    · subst hab
      have h3 : Op.bytesLess x y = false := by
        rcases h.2 with h | h
        · simp at h
        · exact h
      have h4 : (x == y) = false := by
        rw [beq_eq_false_iff_ne] at h2 ⊢
        intro e; exact h2 (by rw [e])
      rw [bl_total x y h3 h4]
      simp
    · have h1 : b < a := by
        have := h.1
        rw [UInt8.lt_iff_toNat_lt] at this ⊢
        have hne : a.toNat ≠ b.toNat := fun e => hab (UInt8.toNat_inj.1 e)
        omega
      simp [h1]
end Go.Proofs.YtfokdmijkniomaaGreatDoor

namespace Go.Proofs.YtfokdmijkniomaaGreatDoor.WT
open Go.RowKit Go

theorem rnums_new (zs : List Int) (hz : zs.length ≤ 1000) (hg : ∀ z ∈ zs, good z) (w : World) (t : TypeId) :
    Calls Tryz.prog 89 #[.slice (some ⟨w.heap.size, 0, none⟩) zs.length zs.length] (w.alloc (.cells (zs.map fun z => Value.int .i64 z).toArray t)) fun e w' => e = .returned (.string (bs (layL (zs.map Int.toNat)))) ∧ Below w.heap.size w w' := by
  refine (rnums_any _ zs hz hg _ (ints_new w zs t)).mono ?_
  rintro e w' ⟨rfl, hB⟩
  exact ⟨rfl, ((Below.refl _ w).alloc (Nat.le_refl _) _).trans (hB.mono (by simp))⟩
theorem textW_txt {s : ByteArray} (h : s.size ≤ 65536) : textW s.data.toList = .tuple #[.string (bs (txt s)), .int .i64 0] := by
  unfold textW; rw [len_of, if_pos h]; rfl
set_option maxRecDepth 100000 in
set_option maxHeartbeats 8000000 in
theorem entRLay_any (v : Value) (l : List Ent) (hn : l.length ≤ 9223372036854775807) (hs : ∀ x ∈ l, x.name.size ≤ 140737488355328) (w : World) (h : LstAt entC 2 w v l) :
    Calls Tryz.prog 66 #[v] w fun e w' => e = .returned (layV kE l) ∧ Below w.heap.size w w' := by
  obtain ⟨R, hR⟩ : ∃ R, layV kE l = R := ⟨_, rfl⟩
  rw [hR]
  have HNO := Lib.hid (show ¬ May kE l → R = .tuple #[.string ⟨#[]⟩, .int .i64 120] from fun h => by rw [← hR]; exact layV_no h)
  have HYES := Lib.hid (show May kE l → R = .tuple #[.string (bs (laidL kE l)), .int .i64 0] from fun h => by rw [← hR]; exact layV_yes h)
  clear hR
  obtain ⟨a, cap, rfl, hc⟩ := h
  obtain ⟨N, hN⟩ : ∃ N, l.length = N := ⟨_, rfl⟩
  rw [hN] at hn ⊢
  have HC := Lib.hid hc
  have HN := Lib.hid hN
  have HS := Lib.hid hs
  clear hc hN hs
  by_cases h4 : 4096 < N
  · have h4i : (4096 : Int) < (N : Int) := by omega
    have HF := Lib.hid (HNO.out (not_may_long (by rw [HN.out]; exact h4)))
    clear h4
    go_enter Tryz.func66, Tryz.ntmps66
    go_wp2
    go_ret2
    exact ⟨by rw [HF.out]; rfl, Below.refl _ _⟩
  · have h4i : (N : Int) ≤ 4096 := by omega
    have hN4 : N ≤ 4096 := by omega
    clear h4
    have CN := rnums_new [(N : Int)] (by simp) (by intro z hz; obtain rfl := List.mem_singleton.1 hz; constructor <;> omega)
    simp only [List.map_cons, List.map_nil, List.length_cons, List.length_nil, Nat.reduceAdd, Int.toNat_natCast, layL_one] at CN
    have hd2 : (bs (dg N)).size ≤ 2 := by rw [bs_size]; exact dg_2 (by omega)
    go_enter Tryz.func66, Tryz.ntmps66
    go_wp2_with fail
    refine (CN _ _).mono ?_
    rintro e w2 ⟨rfl, hB2⟩
    have HB2 := Lib.hid hB2
    clear hB2 CN
    go_wp2_with fail
    go_loopw [4, 5] (fun v i wr => ∃ (j : Nat) (S : ByteArray), j ≤ N ∧ i = .int .i64 j ∧ v = .string S ∧ S.size ≤ 2 + 20 * j ∧ S = bs (dg N ++ (l.take j).flatMap kE.enc) ∧ MayTo kE l j ∧ Below w.heap.size w wr) (fun _ i _ => N - (intOf i).toNat)
    case atStart => exact ⟨0, bs (dg N), Nat.zero_le _, rfl, rfl, hd2, by simp, MayTo.zero l, HB2.out⟩
    case round =>
      obtain ⟨j, S, hj, rfl, rfl, hsz, hS, hm, hB⟩ := hrel
      have HS4 := Lib.hid hS
      have HM := Lib.hid hm
      have HB := Lib.hid hB
      clear hS hm hB hd2
      by_cases hlt : j < N
      · have hl : j < l.length := by rw [HN.out]; exact hlt
        have hji : (j : Int) < (N : Int) := by omega
        obtain ⟨b, off, rfl, hb, hcells⟩ := HC.out (by intro e; rw [e] at hl; simp at hl)
        obtain ⟨y, hy⟩ : ∃ y, l[j] = y := ⟨_, rfl⟩
        have HCL := Lib.hid (fun (W : World) (hW : Below wr.heap.size wr W) => ent_load (W := W) (b := b) (off := off) (l := l) (fun j hj i hi => (World.cell?_of_block (w := w) ((HB.out.trans (hW.mono HB.out.size)).block b hb)).trans (hcells j hj i hi)))
        obtain ⟨c0, c1⟩ := HCL.out wr (Below.refl _ wr) j hl
        rw [hy] at c0 c1
        have HY := Lib.hid hy
        have HTK := Lib.hid (show l.take (j + 1) = l.take j ++ [y] by rw [← hy]; exact List.take_succ_eq_append_getElem hl)
        have hys : y.name.size ≤ 140737488355328 := by rw [← hy]; exact HS.out _ (List.getElem_mem hl)
        clear hcells hb hy
        obtain ⟨u0, hu0⟩ : ∃ u, wr.alloc (.cells #[.string ⟨#[]⟩, .int .i64 0] 88) = u := ⟨_, rfl⟩
        have hx0 : u0.heap[wr.heap.size]? = some (.cells #[.string ⟨#[]⟩, .int .i64 0] 88 (0, 0)) := by rw [← hu0]; exact heap_alloc_new wr _
        have z0 : u0.cell? ⟨wr.heap.size, 0, none⟩ = some (.string ⟨#[]⟩) := by simp [World.cell?, hx0]
        have z1 : u0.cell? ⟨wr.heap.size, 1, none⟩ = some (.int .i64 0) := by simp [World.cell?, hx0]
        have f0 : u0.frozen? ⟨wr.heap.size, 0, none⟩ = false := by simp [World.frozen?, hx0]
        have f1 : u0.frozen? ⟨wr.heap.size, 1, none⟩ = false := by simp [World.frozen?, hx0]
        have hu : Below wr.heap.size wr u0 := by rw [← hu0]; exact (Below.refl _ wr).alloc (Nat.le_refl _) _
        obtain ⟨u1, hu1⟩ : ∃ u, ((u0.setCell ⟨wr.heap.size, 0, none⟩ (.string y.name)).setCell ⟨wr.heap.size, 1, none⟩ (.int .i64 y.num)) = u := ⟨_, rfl⟩
        have HX := Lib.hid (show u1.heap[wr.heap.size]? = some (.cells #[.string y.name, .int .i64 y.num] 88 (0, 0)) by rw [← hu1]; exact (heap_set (heap_set hx0 (i := 0) (.string y.name)) (i := 1) (.int .i64 y.num)))
        have HU := Lib.hid (show Below wr.heap.size wr u1 by rw [← hu1]; exact ((hu.setCell (p := ⟨wr.heap.size, 0, none⟩) (Nat.le_refl _) (.string y.name)).setCell (p := ⟨wr.heap.size, 1, none⟩) (Nat.le_refl _) (.int .i64 y.num)))
        clear hx0 hu
        have hxx := HX.out
        have d0 : u1.cell? ⟨wr.heap.size, 0, none⟩ = some (.string y.name) := by simp [World.cell?, hxx]
        have d1 : u1.cell? ⟨wr.heap.size, 1, none⟩ = some (.int .i64 y.num) := by simp [World.cell?, hxx]
        clear hxx
        have HWB := Lib.hid (show Below wr.heap.size wr u1.drew from HU.out.drew)
        have CNM := fun w => rname_any y.name (by omega) w
        obtain ⟨p, hp⟩ : ∃ p, nameB y.name = p := ⟨_, rfl⟩
        rw [hp] at CNM
        have HQN := Lib.hid hp
        clear hp
        have HK := Lib.hid (show u1.drew.cell? ⟨wr.heap.size, 0, none⟩ = some (.string y.name) ∧ u1.drew.cell? ⟨wr.heap.size, 1, none⟩ = some (.int .i64 y.num) from ⟨d0, d1⟩)
        cases p with
        | false =>
          have HF := Lib.hid (HNO.out (not_may_ok hl (by rw [HY.out]; exact fun e => absurd ((nameB_iff _).2 e.1) (by rw [HQN.out]; decide))))
          go_wp2_with fail
          refine wp_region_held_drew (S := fun w' => w'.cell? ⟨wr.heap.size, 0, none⟩ = some (.string y.name) ∧ w'.cell? ⟨wr.heap.size, 1, none⟩ = some (.int .i64 y.num)) (by kernel_rfl) HK.out (fun hHeld => ?_)
          refine tkH 26 (i := 0) (v := .pointer (some ⟨wr.heap.size, 0, none⟩)) (h := ?_)
          simp only [Act.put, stA, st0, st1]
          refine tkH 27 (i := 1) (v := .string y.name) (h := ?_)
          simp only [Act.put, stA, st0, st1]
          refine wpAnyH_ready (rs := [2]) (by kernel_rfl) (by simp) ?_
          refine AllReadyH.cons rfl (fun K hK => ?_) (AllReadyH.nil)
          go_simp
          go_at_call 60
          refine (CNM _).mono ?_
          rintro e v1 ⟨rfl, rfl⟩
          go_wp2_with fail
          refine hK.out _ _ HK.out (fun hHeld => ?_)
          clear hK K
          try simp only [Act.put, stA, st0, st1]
          refine tkH 29 (i := 3) (v := .bool true) (h := ?_)
          simp only [Act.put, stA, st0, st1]
          refine tkH 30 (i := 4) (v := .bool true) (h := ?_)
          simp only [Act.put, stA, st0, st1]
          refine tkU 31 (i := 5) (v := undef) (h := ?_)
          simp only [Act.put, stA, st0, st1]
          refine tkU 32 (i := 6) (v := undef) (h := ?_)
          simp only [Act.put, stA, st0, st1]
          refine tkU 33 (i := 7) (v := undef) (h := ?_)
          simp only [Act.put, stA, st0, st1]
          refine tkU 34 (i := 8) (v := undef) (h := ?_)
          simp only [Act.put, stA, st0, st1]
          refine tkU 35 (i := 9) (v := undef) (h := ?_)
          simp only [Act.put, stA, st0, st1]
          refine tkU 36 (i := 10) (v := undef) (h := ?_)
          simp only [Act.put, stA, st0, st1]
          refine tkU 37 (i := 11) (v := undef) (h := ?_)
          simp only [Act.put, stA, st0, st1]
          refine tkU 38 (i := 12) (v := undef) (h := ?_)
          simp only [Act.put, stA, st0, st1]
          refine tkU 39 (i := 13) (v := undef) (h := ?_)
          simp only [Act.put, stA, st0, st1]
          refine tkU 40 (i := 14) (v := undef) (h := ?_)
          simp only [Act.put, stA, st0, st1]
          refine tkU 41 (i := 15) (v := undef) (h := ?_)
          simp only [Act.put, stA, st0, st1]
          refine tkU 42 (i := 16) (v := undef) (h := ?_)
          simp only [Act.put, stA, st0, st1]
          refine tkU 43 (i := 17) (v := undef) (h := ?_)
          simp only [Act.put, stA, st0, st1]
          refine tkH 44 (i := 18) (v := .bool true) (h := ?_)
          simp only [Act.put, stA, st0, st1]
          refine tkH 45 (i := 19) (v := .bool true) (h := ?_)
          simp only [Act.put, stA, st0, st1]
          refine tkU 46 (i := 20) (v := undef) (h := ?_)
          simp only [Act.put, stA, st0, st1]
          refine tkU 47 (i := 21) (v := undef) (h := ?_)
          simp only [Act.put, stA, st0, st1]
          refine tkU 48 (i := 22) (v := undef) (h := ?_)
          simp only [Act.put, stA, st0, st1]
          refine tkH 49 (i := 23) (v := .bool true) (h := ?_)
          simp only [Act.put, stA, st0, st1]
          refine tkH 50 (i := 24) (v := .bool true) (h := ?_)
          simp only [Act.put, stA, st0, st1]
          refine tkU 51 (i := 25) (v := undef) (h := ?_)
          simp only [Act.put, stA, st0, st1]
          refine tkU 52 (i := 26) (v := undef) (h := ?_)
          simp only [Act.put, stA, st0, st1]
          refine tkU 53 (i := 27) (v := undef) (h := ?_)
          simp only [Act.put, stA, st0, st1]
          refine tkH 54 (i := 28) (v := .bool true) (h := ?_)
          simp only [Act.put, stA, st0, st1]
          refine wpAnyH_done (by kernel_rfl) ?_ _
          clear CNM
          go_wp2_with fail
          go_ret2
          exact ⟨by rw [HF.out]; rfl, HB.out.trans (HWB.out.mono HB.out.size)⟩
        | true =>
          by_cases hj0 : j = 0
          · have hjn : ¬ (0 < j) := by omega
            clear hj0
            have HLT := Lib.hid (show ∀ (_ : 0 < j), kE.lt (l[j - 1]'(by omega)) l[j] from fun h => absurd h hjn)
            by_cases g : y.num < 1
            · have HF := Lib.hid (HNO.out (not_may_ok hl (by rw [HY.out]; exact fun e => absurd e.2.1 (by omega))))
              go_wp2_with fail
              refine wp_region_held_drew (S := fun w' => w'.cell? ⟨wr.heap.size, 0, none⟩ = some (.string y.name) ∧ w'.cell? ⟨wr.heap.size, 1, none⟩ = some (.int .i64 y.num)) (by kernel_rfl) HK.out (fun hHeld => ?_)
              refine tkH 26 (i := 0) (v := .pointer (some ⟨wr.heap.size, 0, none⟩)) (h := ?_)
              simp only [Act.put, stA, st0, st1]
              refine tkH 27 (i := 1) (v := .string y.name) (h := ?_)
              simp only [Act.put, stA, st0, st1]
              refine wpAnyH_ready (rs := [2]) (by kernel_rfl) (by simp) ?_
              refine AllReadyH.cons rfl (fun K hK => ?_) (AllReadyH.nil)
              go_simp
              go_at_call 60
              refine (CNM _).mono ?_
              rintro e v1 ⟨rfl, rfl⟩
              go_wp2_with fail
              refine hK.out _ _ HK.out (fun hHeld => ?_)
              clear hK K
              try simp only [Act.put, stA, st0, st1]
              refine tkH 29 (i := 3) (v := .bool false) (h := ?_)
              simp only [Act.put, stA, st0, st1]
              refine tkH 30 (i := 4) (v := .bool false) (h := ?_)
              simp only [Act.put, stA, st0, st1]
              refine tkH 31 (i := 5) (v := .int .i64 ((j : Nat) : Int)) (h := ?_)
              simp only [Act.put, stA, st0, st1]
              refine tkH 32 (i := 6) (v := .bool false) (h := ?_)
              simp only [Act.put, stA, st0, st1]
              refine tkH 33 (i := 7) (v := .bool false) (h := ?_)
              simp only [Act.put, stA, st0, st1]
              refine tkU 34 (i := 8) (v := undef) (h := ?_)
              simp only [Act.put, stA, st0, st1]
              refine tkU 35 (i := 9) (v := undef) (h := ?_)
              simp only [Act.put, stA, st0, st1]
              refine tkU 36 (i := 10) (v := undef) (h := ?_)
              simp only [Act.put, stA, st0, st1]
              refine tkU 37 (i := 11) (v := undef) (h := ?_)
              simp only [Act.put, stA, st0, st1]
              refine tkU 38 (i := 12) (v := undef) (h := ?_)
              simp only [Act.put, stA, st0, st1]
              refine tkU 39 (i := 13) (v := undef) (h := ?_)
              simp only [Act.put, stA, st0, st1]
              refine tkU 40 (i := 14) (v := undef) (h := ?_)
              simp only [Act.put, stA, st0, st1]
              refine tkU 41 (i := 15) (v := undef) (h := ?_)
              simp only [Act.put, stA, st0, st1]
              refine tkU 42 (i := 16) (v := undef) (h := ?_)
              simp only [Act.put, stA, st0, st1]
              refine tkH 43 (i := 17) (v := .bool false) (h := ?_)
              simp only [Act.put, stA, st0, st1]
              refine tkH 44 (i := 18) (v := .bool false) (h := ?_)
              simp only [Act.put, stA, st0, st1]
              refine tkH 45 (i := 19) (v := .bool false) (h := ?_)
              simp only [Act.put, stA, st0, st1]
              refine tkH 46 (i := 20) (v := .pointer (some ⟨wr.heap.size, 1, none⟩)) (h := ?_)
              simp only [Act.put, stA, st0, st1]
              refine tkH 47 (i := 21) (v := .int .i64 y.num) (h := ?_)
              simp only [Act.put, stA, st0, st1]
              refine tkH 48 (i := 22) (v := .bool true) (h := ?_)
              simp only [Act.put, stA, st0, st1]
              refine tkH 49 (i := 23) (v := .bool true) (h := ?_)
              simp only [Act.put, stA, st0, st1]
              refine tkH 50 (i := 24) (v := .bool true) (h := ?_)
              simp only [Act.put, stA, st0, st1]
              refine tkU 51 (i := 25) (v := undef) (h := ?_)
              simp only [Act.put, stA, st0, st1]
              refine tkU 52 (i := 26) (v := undef) (h := ?_)
              simp only [Act.put, stA, st0, st1]
              refine tkU 53 (i := 27) (v := undef) (h := ?_)
              simp only [Act.put, stA, st0, st1]
              refine tkH 54 (i := 28) (v := .bool true) (h := ?_)
              simp only [Act.put, stA, st0, st1]
              refine wpAnyH_done (by kernel_rfl) ?_ _
              clear CNM
              go_wp2_with fail
              go_ret2
              exact ⟨by rw [HF.out]; rfl, HB.out.trans (HWB.out.mono HB.out.size)⟩
            · have g0 : 1 ≤ y.num := by omega
              clear g
              by_cases g : 65535 < y.num
              · have HF := Lib.hid (HNO.out (not_may_ok hl (by rw [HY.out]; exact fun e => absurd e.2.2 (by omega))))
                go_wp2_with fail
                refine wp_region_held_drew (S := fun w' => w'.cell? ⟨wr.heap.size, 0, none⟩ = some (.string y.name) ∧ w'.cell? ⟨wr.heap.size, 1, none⟩ = some (.int .i64 y.num)) (by kernel_rfl) HK.out (fun hHeld => ?_)
                refine tkH 26 (i := 0) (v := .pointer (some ⟨wr.heap.size, 0, none⟩)) (h := ?_)
                simp only [Act.put, stA, st0, st1]
                refine tkH 27 (i := 1) (v := .string y.name) (h := ?_)
                simp only [Act.put, stA, st0, st1]
                refine wpAnyH_ready (rs := [2]) (by kernel_rfl) (by simp) ?_
                refine AllReadyH.cons rfl (fun K hK => ?_) (AllReadyH.nil)
                go_simp
                go_at_call 60
                refine (CNM _).mono ?_
                rintro e v1 ⟨rfl, rfl⟩
                go_wp2_with fail
                refine hK.out _ _ HK.out (fun hHeld => ?_)
                clear hK K
                try simp only [Act.put, stA, st0, st1]
                refine tkH 29 (i := 3) (v := .bool false) (h := ?_)
                simp only [Act.put, stA, st0, st1]
                refine tkH 30 (i := 4) (v := .bool false) (h := ?_)
                simp only [Act.put, stA, st0, st1]
                refine tkH 31 (i := 5) (v := .int .i64 ((j : Nat) : Int)) (h := ?_)
                simp only [Act.put, stA, st0, st1]
                refine tkH 32 (i := 6) (v := .bool false) (h := ?_)
                simp only [Act.put, stA, st0, st1]
                refine tkH 33 (i := 7) (v := .bool false) (h := ?_)
                simp only [Act.put, stA, st0, st1]
                refine tkU 34 (i := 8) (v := undef) (h := ?_)
                simp only [Act.put, stA, st0, st1]
                refine tkU 35 (i := 9) (v := undef) (h := ?_)
                simp only [Act.put, stA, st0, st1]
                refine tkU 36 (i := 10) (v := undef) (h := ?_)
                simp only [Act.put, stA, st0, st1]
                refine tkU 37 (i := 11) (v := undef) (h := ?_)
                simp only [Act.put, stA, st0, st1]
                refine tkU 38 (i := 12) (v := undef) (h := ?_)
                simp only [Act.put, stA, st0, st1]
                refine tkU 39 (i := 13) (v := undef) (h := ?_)
                simp only [Act.put, stA, st0, st1]
                refine tkU 40 (i := 14) (v := undef) (h := ?_)
                simp only [Act.put, stA, st0, st1]
                refine tkU 41 (i := 15) (v := undef) (h := ?_)
                simp only [Act.put, stA, st0, st1]
                refine tkU 42 (i := 16) (v := undef) (h := ?_)
                simp only [Act.put, stA, st0, st1]
                refine tkH 43 (i := 17) (v := .bool false) (h := ?_)
                simp only [Act.put, stA, st0, st1]
                refine tkH 44 (i := 18) (v := .bool false) (h := ?_)
                simp only [Act.put, stA, st0, st1]
                refine tkH 45 (i := 19) (v := .bool false) (h := ?_)
                simp only [Act.put, stA, st0, st1]
                refine tkH 46 (i := 20) (v := .pointer (some ⟨wr.heap.size, 1, none⟩)) (h := ?_)
                simp only [Act.put, stA, st0, st1]
                refine tkH 47 (i := 21) (v := .int .i64 y.num) (h := ?_)
                simp only [Act.put, stA, st0, st1]
                refine tkH 48 (i := 22) (v := .bool false) (h := ?_)
                simp only [Act.put, stA, st0, st1]
                refine tkH 49 (i := 23) (v := .bool false) (h := ?_)
                simp only [Act.put, stA, st0, st1]
                refine tkH 50 (i := 24) (v := .bool false) (h := ?_)
                simp only [Act.put, stA, st0, st1]
                refine tkH 51 (i := 25) (v := .pointer (some ⟨wr.heap.size, 1, none⟩)) (h := ?_)
                simp only [Act.put, stA, st0, st1]
                refine tkH 52 (i := 26) (v := .int .i64 y.num) (h := ?_)
                simp only [Act.put, stA, st0, st1]
                refine tkH 53 (i := 27) (v := .bool true) (h := ?_)
                simp only [Act.put, stA, st0, st1]
                refine tkH 54 (i := 28) (v := .bool true) (h := ?_)
                simp only [Act.put, stA, st0, st1]
                refine wpAnyH_done (by kernel_rfl) ?_ _
                clear CNM
                go_wp2_with fail
                go_ret2
                exact ⟨by rw [HF.out]; rfl, HB.out.trans (HWB.out.mono HB.out.size)⟩
              · have g1 : y.num ≤ 65535 := by omega
                clear g
                have HOK := Lib.hid (show kE.ok y from ⟨(nameB_iff _).1 HQN.out, g0, g1⟩)
                go_wp2_with fail
                refine wp_region_held_drew (S := fun w' => w'.cell? ⟨wr.heap.size, 0, none⟩ = some (.string y.name) ∧ w'.cell? ⟨wr.heap.size, 1, none⟩ = some (.int .i64 y.num)) (by kernel_rfl) HK.out (fun hHeld => ?_)
                refine tkH 26 (i := 0) (v := .pointer (some ⟨wr.heap.size, 0, none⟩)) (h := ?_)
                simp only [Act.put, stA, st0, st1]
                refine tkH 27 (i := 1) (v := .string y.name) (h := ?_)
                simp only [Act.put, stA, st0, st1]
                refine wpAnyH_ready (rs := [2]) (by kernel_rfl) (by simp) ?_
                refine AllReadyH.cons rfl (fun K hK => ?_) (AllReadyH.nil)
                go_simp
                go_at_call 60
                refine (CNM _).mono ?_
                rintro e v1 ⟨rfl, rfl⟩
                go_wp2_with fail
                refine hK.out _ _ HK.out (fun hHeld => ?_)
                clear hK K
                try simp only [Act.put, stA, st0, st1]
                refine tkH 29 (i := 3) (v := .bool false) (h := ?_)
                simp only [Act.put, stA, st0, st1]
                refine tkH 30 (i := 4) (v := .bool false) (h := ?_)
                simp only [Act.put, stA, st0, st1]
                refine tkH 31 (i := 5) (v := .int .i64 ((j : Nat) : Int)) (h := ?_)
                simp only [Act.put, stA, st0, st1]
                refine tkH 32 (i := 6) (v := .bool false) (h := ?_)
                simp only [Act.put, stA, st0, st1]
                refine tkH 33 (i := 7) (v := .bool false) (h := ?_)
                simp only [Act.put, stA, st0, st1]
                refine tkU 34 (i := 8) (v := undef) (h := ?_)
                simp only [Act.put, stA, st0, st1]
                refine tkU 35 (i := 9) (v := undef) (h := ?_)
                simp only [Act.put, stA, st0, st1]
                refine tkU 36 (i := 10) (v := undef) (h := ?_)
                simp only [Act.put, stA, st0, st1]
                refine tkU 37 (i := 11) (v := undef) (h := ?_)
                simp only [Act.put, stA, st0, st1]
                refine tkU 38 (i := 12) (v := undef) (h := ?_)
                simp only [Act.put, stA, st0, st1]
                refine tkU 39 (i := 13) (v := undef) (h := ?_)
                simp only [Act.put, stA, st0, st1]
                refine tkU 40 (i := 14) (v := undef) (h := ?_)
                simp only [Act.put, stA, st0, st1]
                refine tkU 41 (i := 15) (v := undef) (h := ?_)
                simp only [Act.put, stA, st0, st1]
                refine tkU 42 (i := 16) (v := undef) (h := ?_)
                simp only [Act.put, stA, st0, st1]
                refine tkH 43 (i := 17) (v := .bool false) (h := ?_)
                simp only [Act.put, stA, st0, st1]
                refine tkH 44 (i := 18) (v := .bool false) (h := ?_)
                simp only [Act.put, stA, st0, st1]
                refine tkH 45 (i := 19) (v := .bool false) (h := ?_)
                simp only [Act.put, stA, st0, st1]
                refine tkH 46 (i := 20) (v := .pointer (some ⟨wr.heap.size, 1, none⟩)) (h := ?_)
                simp only [Act.put, stA, st0, st1]
                refine tkH 47 (i := 21) (v := .int .i64 y.num) (h := ?_)
                simp only [Act.put, stA, st0, st1]
                refine tkH 48 (i := 22) (v := .bool false) (h := ?_)
                simp only [Act.put, stA, st0, st1]
                refine tkH 49 (i := 23) (v := .bool false) (h := ?_)
                simp only [Act.put, stA, st0, st1]
                refine tkH 50 (i := 24) (v := .bool false) (h := ?_)
                simp only [Act.put, stA, st0, st1]
                refine tkH 51 (i := 25) (v := .pointer (some ⟨wr.heap.size, 1, none⟩)) (h := ?_)
                simp only [Act.put, stA, st0, st1]
                refine tkH 52 (i := 26) (v := .int .i64 y.num) (h := ?_)
                simp only [Act.put, stA, st0, st1]
                refine tkH 53 (i := 27) (v := .bool false) (h := ?_)
                simp only [Act.put, stA, st0, st1]
                refine tkH 54 (i := 28) (v := .bool false) (h := ?_)
                simp only [Act.put, stA, st0, st1]
                refine wpAnyH_done (by kernel_rfl) ?_ _
                clear CNM
                have hok : kE.ok l[j] := by rw [HY.out]; exact HOK.out
                have HE := Lib.hid (HM.out.succ hl hok HLT.out)
                clear hok
                have HRR := Lib.hid (HB.out.trans (HWB.out.mono HB.out.size))
                have hg : ∀ z ∈ [y.num], good z := by
                  intro z hz
                  simp only [List.mem_cons, List.not_mem_nil, or_false] at hz
                  obtain ⟨q0, q1, q2⟩ := HOK.out
                  subst hz; constructor <;> omega
                have CQ := rnums_new [y.num] (by simp) hg
                have hn16 : y.name.size ≤ 16 := HOK.out.1.2.1
                have CT := fun w => reftext_any y.name (by omega) w
                rw [textW_txt (by omega)] at CT
                have hEz : (txt y.name ++ layL ([y.num].map Int.toNat)).length ≤ 20 := entEnc_len HOK.out
                have HEQ := Lib.hid (show bs (txt y.name) ++ bs (layL ([y.num].map Int.toNat)) = bs (entEnc y) by rw [← bs_append]; rfl)
                simp only [List.length_cons, List.length_nil, Nat.reduceAdd] at CQ
                have hz1 : (bs (txt y.name)).size + (bs (layL ([y.num].map Int.toNat))).size ≤ 20 := by rw [bs_size, bs_size, ← List.length_append]; exact hEz
                obtain ⟨D, hD⟩ : ∃ D, bs (txt y.name) = D := ⟨_, rfl⟩
                obtain ⟨E, hE⟩ : ∃ E, bs (layL ([y.num].map Int.toNat)) = E := ⟨_, rfl⟩
                rw [hD] at CT HEQ hz1
                rw [hE] at CQ HEQ hz1
                simp only [List.map_cons, List.map_nil] at CQ
                have nsum : ¬ 9223372036854775807 < D.size + E.size := by omega
                have nsum2 : ¬ 9223372036854775807 < S.size + (D ++ E).size := by rw [ByteArray.size_append]; omega
                have nsum3 : ¬ 9223372036854775807 < S.size + (D.size + E.size) := by omega
                have HSZ := Lib.hid (show (S ++ (D ++ E)).size ≤ 2 + 20 * (j + 1) by rw [ByteArray.size_append, ByteArray.size_append]; omega)
                have HCQ := Lib.hid CQ
                clear hg CQ hD hE hEz hn16 hys hz1
                go_wp2_with fail
                refine (CT _).mono ?_
                rintro e w4 ⟨rfl, hB4⟩
                have HB4 := Lib.hid (HRR.out.trans (hB4.mono HRR.out.size))
                have hxx := (hB4.block _ (lt_of_heap (show u1.drew.heap[wr.heap.size]? = _ from HX.out))).trans (show u1.drew.heap[wr.heap.size]? = _ from HX.out)
                have e0 : w4.cell? ⟨wr.heap.size, 0, none⟩ = some (.string y.name) := by simp [World.cell?, hxx]
                have e1 : w4.cell? ⟨wr.heap.size, 1, none⟩ = some (.int .i64 y.num) := by simp [World.cell?, hxx]
                clear hB4 CT hxx
                go_wp2_with fail
                refine (HCQ.out _ _).mono ?_
                rintro e w5 ⟨rfl, hB5⟩
                have HB5 := Lib.hid (HB4.out.trans (hB5.mono HB4.out.size))
                clear hB5
                go_wp2_with fail
                go_roundw
                case rel => exact ⟨j + 1, S ++ (D ++ E), by omega, by go_num, rfl, HSZ.out, by rw [HS4.out, HTK.out, List.flatMap_append, HEQ.out, ← bs_append]; simp [kE], HE.out, HB5.out⟩
                case measure => simp [intOf]; omega
          · have hji1 : (0 : Int) < (j : Int) := by omega
            have hj1 : j - 1 < l.length := by omega
            have ej : (j : Int) - 1 = ((j - 1 : Nat) : Int) := by omega
            have hjn : 0 < j := by omega
            have ew : IntKind.i64.wrap ((j - 1 : Nat) : Int) = ((j - 1 : Nat) : Int) := wrap64 _ (by omega) (by omega)
            have ej0 : (0 : Int) ≤ ((j - 1 : Nat) : Int) := by omega
            have ejN : ((j - 1 : Nat) : Int) < (N : Int) := by omega
            obtain ⟨z, hz⟩ : ∃ z, l[j - 1] = z := ⟨_, rfl⟩
            have HZ := Lib.hid hz
            have HKA := Lib.hid (show (u1.drew.cell? ⟨wr.heap.size, 0, none⟩ = some (.string y.name) ∧ u1.drew.cell? ⟨wr.heap.size, 1, none⟩ = some (.int .i64 y.num)) ∧ (u1.drew.cell? ⟨b, off + (j - 1) * 2, none⟩ = some (.string z.name) ∧ u1.drew.cell? ⟨b, off + (j - 1) * 2 + 1, none⟩ = some (.int .i64 z.num)) from by
              have h := HCL.out u1.drew HWB.out (j - 1) hj1
              rw [HZ.out] at h
              exact ⟨HK.out, h⟩)
            clear hz hj0
            cases hA : Op.bytesLess y.name.toList z.name.toList with
            | true =>
              have HF := Lib.hid (HNO.out (not_may_lt hl (by omega) (by rw [HY.out, HZ.out]; exact fun e => absurd (e.symm.trans (bl_asymm _ _ hA)) (by decide))))
              go_wp2_with fail
              refine wp_region_held_drew (S := fun w' => (w'.cell? ⟨wr.heap.size, 0, none⟩ = some (.string y.name) ∧ w'.cell? ⟨wr.heap.size, 1, none⟩ = some (.int .i64 y.num)) ∧ (w'.cell? ⟨b, off + (j - 1) * 2, none⟩ = some (.string z.name) ∧ w'.cell? ⟨b, off + (j - 1) * 2 + 1, none⟩ = some (.int .i64 z.num))) (by kernel_rfl) HKA.out (fun hHeld => ?_)
              refine tkH 26 (i := 0) (v := .pointer (some ⟨wr.heap.size, 0, none⟩)) (h := ?_)
              simp only [Act.put, stA, st0, st1]
              refine tkH 27 (i := 1) (v := .string y.name) (h := ?_)
              simp only [Act.put, stA, st0, st1]
              refine wpAnyH_ready (rs := [2]) (by kernel_rfl) (by simp) ?_
              refine AllReadyH.cons rfl (fun K hK => ?_) (AllReadyH.nil)
              go_simp
              go_at_call 60
              refine (CNM _).mono ?_
              rintro e v1 ⟨rfl, rfl⟩
              go_wp2_with fail
              refine hK.out _ _ HKA.out (fun hHeld => ?_)
              clear hK K
              try simp only [Act.put, stA, st0, st1]
              refine tkH 29 (i := 3) (v := .bool false) (h := ?_)
              simp only [Act.put, stA, st0, st1]
              refine tkH 30 (i := 4) (v := .bool false) (h := ?_)
              simp only [Act.put, stA, st0, st1]
              refine tkH 31 (i := 5) (v := .int .i64 ((j : Nat) : Int)) (h := ?_)
              simp only [Act.put, stA, st0, st1]
              refine tkH 32 (i := 6) (v := .bool true) (h := ?_)
              simp only [Act.put, stA, st0, st1]
              refine tkH 33 (i := 7) (v := .bool true) (h := ?_)
              simp only [Act.put, stA, st0, st1]
              refine tkH 34 (i := 8) (v := .pointer (some ⟨wr.heap.size, 0, none⟩)) (h := ?_)
              simp only [Act.put, stA, st0, st1]
              refine tkH 35 (i := 9) (v := .string y.name) (h := ?_)
              simp only [Act.put, stA, st0, st1]
              refine tkH 36 (i := 10) (v := .slice (some ⟨b, off, none⟩) N cap) (h := ?_)
              simp only [Act.put, stA, st0, st1]
              refine tkH 37 (i := 11) (v := .int .i64 ((j : Nat) : Int)) (h := ?_)
              simp only [Act.put, stA, st0, st1]
              refine tkH 38 (i := 12) (v := .int .i64 ((j - 1 : Nat) : Int)) (h := ?_)
              simp only [Act.put, stA, st0, st1]
              refine tkH 39 (i := 13) (v := .pointer (some ⟨b, off + (j - 1) * 2, none⟩)) (h := ?_)
              simp only [Act.put, stA, st0, st1]
              refine tkH 40 (i := 14) (v := .pointer (some ⟨b, off + (j - 1) * 2, none⟩)) (h := ?_)
              simp only [Act.put, stA, st0, st1]
              refine tkH 41 (i := 15) (v := .string z.name) (h := ?_)
              simp only [Act.put, stA, st0, st1]
              refine tkH 42 (i := 16) (v := .bool true) (h := ?_)
              simp only [Act.put, stA, st0, st1]
              refine tkH 43 (i := 17) (v := .bool true) (h := ?_)
              simp only [Act.put, stA, st0, st1]
              refine tkH 44 (i := 18) (v := .bool true) (h := ?_)
              simp only [Act.put, stA, st0, st1]
              refine tkH 45 (i := 19) (v := .bool true) (h := ?_)
              simp only [Act.put, stA, st0, st1]
              refine tkU 46 (i := 20) (v := undef) (h := ?_)
              simp only [Act.put, stA, st0, st1]
              refine tkU 47 (i := 21) (v := undef) (h := ?_)
              simp only [Act.put, stA, st0, st1]
              refine tkU 48 (i := 22) (v := undef) (h := ?_)
              simp only [Act.put, stA, st0, st1]
              refine tkH 49 (i := 23) (v := .bool true) (h := ?_)
              simp only [Act.put, stA, st0, st1]
              refine tkH 50 (i := 24) (v := .bool true) (h := ?_)
              simp only [Act.put, stA, st0, st1]
              refine tkU 51 (i := 25) (v := undef) (h := ?_)
              simp only [Act.put, stA, st0, st1]
              refine tkU 52 (i := 26) (v := undef) (h := ?_)
              simp only [Act.put, stA, st0, st1]
              refine tkU 53 (i := 27) (v := undef) (h := ?_)
              simp only [Act.put, stA, st0, st1]
              refine tkH 54 (i := 28) (v := .bool true) (h := ?_)
              simp only [Act.put, stA, st0, st1]
              refine wpAnyH_done (by kernel_rfl) ?_ _
              clear CNM
              go_wp2_with fail
              go_ret2
              exact ⟨by rw [HF.out]; rfl, HB.out.trans (HWB.out.mono HB.out.size)⟩
            | false =>
              cases hBq : (y.name.toList == z.name.toList) with
              | true =>
                have HF := Lib.hid (HNO.out (not_may_lt hl (by omega) (by rw [HY.out, HZ.out]; exact fun e => absurd (e.symm.trans (show Op.bytesLess z.name.toList y.name.toList = false by rw [eq_of_beq hBq]; exact bl_irrefl _)) (by decide))))
                go_wp2_with fail
                refine wp_region_held_drew (S := fun w' => (w'.cell? ⟨wr.heap.size, 0, none⟩ = some (.string y.name) ∧ w'.cell? ⟨wr.heap.size, 1, none⟩ = some (.int .i64 y.num)) ∧ (w'.cell? ⟨b, off + (j - 1) * 2, none⟩ = some (.string z.name) ∧ w'.cell? ⟨b, off + (j - 1) * 2 + 1, none⟩ = some (.int .i64 z.num))) (by kernel_rfl) HKA.out (fun hHeld => ?_)
                refine tkH 26 (i := 0) (v := .pointer (some ⟨wr.heap.size, 0, none⟩)) (h := ?_)
                simp only [Act.put, stA, st0, st1]
                refine tkH 27 (i := 1) (v := .string y.name) (h := ?_)
                simp only [Act.put, stA, st0, st1]
                refine wpAnyH_ready (rs := [2]) (by kernel_rfl) (by simp) ?_
                refine AllReadyH.cons rfl (fun K hK => ?_) (AllReadyH.nil)
                go_simp
                go_at_call 60
                refine (CNM _).mono ?_
                rintro e v1 ⟨rfl, rfl⟩
                go_wp2_with fail
                refine hK.out _ _ HKA.out (fun hHeld => ?_)
                clear hK K
                try simp only [Act.put, stA, st0, st1]
                refine tkH 29 (i := 3) (v := .bool false) (h := ?_)
                simp only [Act.put, stA, st0, st1]
                refine tkH 30 (i := 4) (v := .bool false) (h := ?_)
                simp only [Act.put, stA, st0, st1]
                refine tkH 31 (i := 5) (v := .int .i64 ((j : Nat) : Int)) (h := ?_)
                simp only [Act.put, stA, st0, st1]
                refine tkH 32 (i := 6) (v := .bool true) (h := ?_)
                simp only [Act.put, stA, st0, st1]
                refine tkH 33 (i := 7) (v := .bool true) (h := ?_)
                simp only [Act.put, stA, st0, st1]
                refine tkH 34 (i := 8) (v := .pointer (some ⟨wr.heap.size, 0, none⟩)) (h := ?_)
                simp only [Act.put, stA, st0, st1]
                refine tkH 35 (i := 9) (v := .string y.name) (h := ?_)
                simp only [Act.put, stA, st0, st1]
                refine tkH 36 (i := 10) (v := .slice (some ⟨b, off, none⟩) N cap) (h := ?_)
                simp only [Act.put, stA, st0, st1]
                refine tkH 37 (i := 11) (v := .int .i64 ((j : Nat) : Int)) (h := ?_)
                simp only [Act.put, stA, st0, st1]
                refine tkH 38 (i := 12) (v := .int .i64 ((j - 1 : Nat) : Int)) (h := ?_)
                simp only [Act.put, stA, st0, st1]
                refine tkH 39 (i := 13) (v := .pointer (some ⟨b, off + (j - 1) * 2, none⟩)) (h := ?_)
                simp only [Act.put, stA, st0, st1]
                refine tkH 40 (i := 14) (v := .pointer (some ⟨b, off + (j - 1) * 2, none⟩)) (h := ?_)
                simp only [Act.put, stA, st0, st1]
                refine tkH 41 (i := 15) (v := .string z.name) (h := ?_)
                simp only [Act.put, stA, st0, st1]
                refine tkH 42 (i := 16) (v := .bool true) (h := ?_)
                simp only [Act.put, stA, st0, st1]
                refine tkH 43 (i := 17) (v := .bool true) (h := ?_)
                simp only [Act.put, stA, st0, st1]
                refine tkH 44 (i := 18) (v := .bool true) (h := ?_)
                simp only [Act.put, stA, st0, st1]
                refine tkH 45 (i := 19) (v := .bool true) (h := ?_)
                simp only [Act.put, stA, st0, st1]
                refine tkU 46 (i := 20) (v := undef) (h := ?_)
                simp only [Act.put, stA, st0, st1]
                refine tkU 47 (i := 21) (v := undef) (h := ?_)
                simp only [Act.put, stA, st0, st1]
                refine tkU 48 (i := 22) (v := undef) (h := ?_)
                simp only [Act.put, stA, st0, st1]
                refine tkH 49 (i := 23) (v := .bool true) (h := ?_)
                simp only [Act.put, stA, st0, st1]
                refine tkH 50 (i := 24) (v := .bool true) (h := ?_)
                simp only [Act.put, stA, st0, st1]
                refine tkU 51 (i := 25) (v := undef) (h := ?_)
                simp only [Act.put, stA, st0, st1]
                refine tkU 52 (i := 26) (v := undef) (h := ?_)
                simp only [Act.put, stA, st0, st1]
                refine tkU 53 (i := 27) (v := undef) (h := ?_)
                simp only [Act.put, stA, st0, st1]
                refine tkH 54 (i := 28) (v := .bool true) (h := ?_)
                simp only [Act.put, stA, st0, st1]
                refine wpAnyH_done (by kernel_rfl) ?_ _
                clear CNM
                go_wp2_with fail
                go_ret2
                exact ⟨by rw [HF.out]; rfl, HB.out.trans (HWB.out.mono HB.out.size)⟩
              | false =>
                have HLT := Lib.hid (show ∀ (_ : 0 < j), kE.lt (l[j - 1]'(by omega)) l[j] from fun _ => by rw [HY.out, HZ.out]; exact bl_total _ _ hA hBq)
                by_cases g : y.num < 1
                · have HF := Lib.hid (HNO.out (not_may_ok hl (by rw [HY.out]; exact fun e => absurd e.2.1 (by omega))))
                  go_wp2_with fail
                  refine wp_region_held_drew (S := fun w' => (w'.cell? ⟨wr.heap.size, 0, none⟩ = some (.string y.name) ∧ w'.cell? ⟨wr.heap.size, 1, none⟩ = some (.int .i64 y.num)) ∧ (w'.cell? ⟨b, off + (j - 1) * 2, none⟩ = some (.string z.name) ∧ w'.cell? ⟨b, off + (j - 1) * 2 + 1, none⟩ = some (.int .i64 z.num))) (by kernel_rfl) HKA.out (fun hHeld => ?_)
                  refine tkH 26 (i := 0) (v := .pointer (some ⟨wr.heap.size, 0, none⟩)) (h := ?_)
                  simp only [Act.put, stA, st0, st1]
                  refine tkH 27 (i := 1) (v := .string y.name) (h := ?_)
                  simp only [Act.put, stA, st0, st1]
                  refine wpAnyH_ready (rs := [2]) (by kernel_rfl) (by simp) ?_
                  refine AllReadyH.cons rfl (fun K hK => ?_) (AllReadyH.nil)
                  go_simp
                  go_at_call 60
                  refine (CNM _).mono ?_
                  rintro e v1 ⟨rfl, rfl⟩
                  go_wp2_with fail
                  refine hK.out _ _ HKA.out (fun hHeld => ?_)
                  clear hK K
                  try simp only [Act.put, stA, st0, st1]
                  refine tkH 29 (i := 3) (v := .bool false) (h := ?_)
                  simp only [Act.put, stA, st0, st1]
                  refine tkH 30 (i := 4) (v := .bool false) (h := ?_)
                  simp only [Act.put, stA, st0, st1]
                  refine tkH 31 (i := 5) (v := .int .i64 ((j : Nat) : Int)) (h := ?_)
                  simp only [Act.put, stA, st0, st1]
                  refine tkH 32 (i := 6) (v := .bool true) (h := ?_)
                  simp only [Act.put, stA, st0, st1]
                  refine tkH 33 (i := 7) (v := .bool true) (h := ?_)
                  simp only [Act.put, stA, st0, st1]
                  refine tkH 34 (i := 8) (v := .pointer (some ⟨wr.heap.size, 0, none⟩)) (h := ?_)
                  simp only [Act.put, stA, st0, st1]
                  refine tkH 35 (i := 9) (v := .string y.name) (h := ?_)
                  simp only [Act.put, stA, st0, st1]
                  refine tkH 36 (i := 10) (v := .slice (some ⟨b, off, none⟩) N cap) (h := ?_)
                  simp only [Act.put, stA, st0, st1]
                  refine tkH 37 (i := 11) (v := .int .i64 ((j : Nat) : Int)) (h := ?_)
                  simp only [Act.put, stA, st0, st1]
                  refine tkH 38 (i := 12) (v := .int .i64 ((j - 1 : Nat) : Int)) (h := ?_)
                  simp only [Act.put, stA, st0, st1]
                  refine tkH 39 (i := 13) (v := .pointer (some ⟨b, off + (j - 1) * 2, none⟩)) (h := ?_)
                  simp only [Act.put, stA, st0, st1]
                  refine tkH 40 (i := 14) (v := .pointer (some ⟨b, off + (j - 1) * 2, none⟩)) (h := ?_)
                  simp only [Act.put, stA, st0, st1]
                  refine tkH 41 (i := 15) (v := .string z.name) (h := ?_)
                  simp only [Act.put, stA, st0, st1]
                  refine tkH 42 (i := 16) (v := .bool false) (h := ?_)
                  simp only [Act.put, stA, st0, st1]
                  refine tkH 43 (i := 17) (v := .bool false) (h := ?_)
                  simp only [Act.put, stA, st0, st1]
                  refine tkH 44 (i := 18) (v := .bool false) (h := ?_)
                  simp only [Act.put, stA, st0, st1]
                  refine tkH 45 (i := 19) (v := .bool false) (h := ?_)
                  simp only [Act.put, stA, st0, st1]
                  refine tkH 46 (i := 20) (v := .pointer (some ⟨wr.heap.size, 1, none⟩)) (h := ?_)
                  simp only [Act.put, stA, st0, st1]
                  refine tkH 47 (i := 21) (v := .int .i64 y.num) (h := ?_)
                  simp only [Act.put, stA, st0, st1]
                  refine tkH 48 (i := 22) (v := .bool true) (h := ?_)
                  simp only [Act.put, stA, st0, st1]
                  refine tkH 49 (i := 23) (v := .bool true) (h := ?_)
                  simp only [Act.put, stA, st0, st1]
                  refine tkH 50 (i := 24) (v := .bool true) (h := ?_)
                  simp only [Act.put, stA, st0, st1]
                  refine tkU 51 (i := 25) (v := undef) (h := ?_)
                  simp only [Act.put, stA, st0, st1]
                  refine tkU 52 (i := 26) (v := undef) (h := ?_)
                  simp only [Act.put, stA, st0, st1]
                  refine tkU 53 (i := 27) (v := undef) (h := ?_)
                  simp only [Act.put, stA, st0, st1]
                  refine tkH 54 (i := 28) (v := .bool true) (h := ?_)
                  simp only [Act.put, stA, st0, st1]
                  refine wpAnyH_done (by kernel_rfl) ?_ _
                  clear CNM
                  go_wp2_with fail
                  go_ret2
                  exact ⟨by rw [HF.out]; rfl, HB.out.trans (HWB.out.mono HB.out.size)⟩
                · have g0 : 1 ≤ y.num := by omega
                  clear g
                  by_cases g : 65535 < y.num
                  · have HF := Lib.hid (HNO.out (not_may_ok hl (by rw [HY.out]; exact fun e => absurd e.2.2 (by omega))))
                    go_wp2_with fail
                    refine wp_region_held_drew (S := fun w' => (w'.cell? ⟨wr.heap.size, 0, none⟩ = some (.string y.name) ∧ w'.cell? ⟨wr.heap.size, 1, none⟩ = some (.int .i64 y.num)) ∧ (w'.cell? ⟨b, off + (j - 1) * 2, none⟩ = some (.string z.name) ∧ w'.cell? ⟨b, off + (j - 1) * 2 + 1, none⟩ = some (.int .i64 z.num))) (by kernel_rfl) HKA.out (fun hHeld => ?_)
                    refine tkH 26 (i := 0) (v := .pointer (some ⟨wr.heap.size, 0, none⟩)) (h := ?_)
                    simp only [Act.put, stA, st0, st1]
                    refine tkH 27 (i := 1) (v := .string y.name) (h := ?_)
                    simp only [Act.put, stA, st0, st1]
                    refine wpAnyH_ready (rs := [2]) (by kernel_rfl) (by simp) ?_
                    refine AllReadyH.cons rfl (fun K hK => ?_) (AllReadyH.nil)
                    go_simp
                    go_at_call 60
                    refine (CNM _).mono ?_
                    rintro e v1 ⟨rfl, rfl⟩
                    go_wp2_with fail
                    refine hK.out _ _ HKA.out (fun hHeld => ?_)
                    clear hK K
                    try simp only [Act.put, stA, st0, st1]
                    refine tkH 29 (i := 3) (v := .bool false) (h := ?_)
                    simp only [Act.put, stA, st0, st1]
                    refine tkH 30 (i := 4) (v := .bool false) (h := ?_)
                    simp only [Act.put, stA, st0, st1]
                    refine tkH 31 (i := 5) (v := .int .i64 ((j : Nat) : Int)) (h := ?_)
                    simp only [Act.put, stA, st0, st1]
                    refine tkH 32 (i := 6) (v := .bool true) (h := ?_)
                    simp only [Act.put, stA, st0, st1]
                    refine tkH 33 (i := 7) (v := .bool true) (h := ?_)
                    simp only [Act.put, stA, st0, st1]
                    refine tkH 34 (i := 8) (v := .pointer (some ⟨wr.heap.size, 0, none⟩)) (h := ?_)
                    simp only [Act.put, stA, st0, st1]
                    refine tkH 35 (i := 9) (v := .string y.name) (h := ?_)
                    simp only [Act.put, stA, st0, st1]
                    refine tkH 36 (i := 10) (v := .slice (some ⟨b, off, none⟩) N cap) (h := ?_)
                    simp only [Act.put, stA, st0, st1]
                    refine tkH 37 (i := 11) (v := .int .i64 ((j : Nat) : Int)) (h := ?_)
                    simp only [Act.put, stA, st0, st1]
                    refine tkH 38 (i := 12) (v := .int .i64 ((j - 1 : Nat) : Int)) (h := ?_)
                    simp only [Act.put, stA, st0, st1]
                    refine tkH 39 (i := 13) (v := .pointer (some ⟨b, off + (j - 1) * 2, none⟩)) (h := ?_)
                    simp only [Act.put, stA, st0, st1]
                    refine tkH 40 (i := 14) (v := .pointer (some ⟨b, off + (j - 1) * 2, none⟩)) (h := ?_)
                    simp only [Act.put, stA, st0, st1]
                    refine tkH 41 (i := 15) (v := .string z.name) (h := ?_)
                    simp only [Act.put, stA, st0, st1]
                    refine tkH 42 (i := 16) (v := .bool false) (h := ?_)
                    simp only [Act.put, stA, st0, st1]
                    refine tkH 43 (i := 17) (v := .bool false) (h := ?_)
                    simp only [Act.put, stA, st0, st1]
                    refine tkH 44 (i := 18) (v := .bool false) (h := ?_)
                    simp only [Act.put, stA, st0, st1]
                    refine tkH 45 (i := 19) (v := .bool false) (h := ?_)
                    simp only [Act.put, stA, st0, st1]
                    refine tkH 46 (i := 20) (v := .pointer (some ⟨wr.heap.size, 1, none⟩)) (h := ?_)
                    simp only [Act.put, stA, st0, st1]
                    refine tkH 47 (i := 21) (v := .int .i64 y.num) (h := ?_)
                    simp only [Act.put, stA, st0, st1]
                    refine tkH 48 (i := 22) (v := .bool false) (h := ?_)
                    simp only [Act.put, stA, st0, st1]
                    refine tkH 49 (i := 23) (v := .bool false) (h := ?_)
                    simp only [Act.put, stA, st0, st1]
                    refine tkH 50 (i := 24) (v := .bool false) (h := ?_)
                    simp only [Act.put, stA, st0, st1]
                    refine tkH 51 (i := 25) (v := .pointer (some ⟨wr.heap.size, 1, none⟩)) (h := ?_)
                    simp only [Act.put, stA, st0, st1]
                    refine tkH 52 (i := 26) (v := .int .i64 y.num) (h := ?_)
                    simp only [Act.put, stA, st0, st1]
                    refine tkH 53 (i := 27) (v := .bool true) (h := ?_)
                    simp only [Act.put, stA, st0, st1]
                    refine tkH 54 (i := 28) (v := .bool true) (h := ?_)
                    simp only [Act.put, stA, st0, st1]
                    refine wpAnyH_done (by kernel_rfl) ?_ _
                    clear CNM
                    go_wp2_with fail
                    go_ret2
                    exact ⟨by rw [HF.out]; rfl, HB.out.trans (HWB.out.mono HB.out.size)⟩
                  · have g1 : y.num ≤ 65535 := by omega
                    clear g
                    have HOK := Lib.hid (show kE.ok y from ⟨(nameB_iff _).1 HQN.out, g0, g1⟩)
                    go_wp2_with fail
                    refine wp_region_held_drew (S := fun w' => (w'.cell? ⟨wr.heap.size, 0, none⟩ = some (.string y.name) ∧ w'.cell? ⟨wr.heap.size, 1, none⟩ = some (.int .i64 y.num)) ∧ (w'.cell? ⟨b, off + (j - 1) * 2, none⟩ = some (.string z.name) ∧ w'.cell? ⟨b, off + (j - 1) * 2 + 1, none⟩ = some (.int .i64 z.num))) (by kernel_rfl) HKA.out (fun hHeld => ?_)
                    refine tkH 26 (i := 0) (v := .pointer (some ⟨wr.heap.size, 0, none⟩)) (h := ?_)
                    simp only [Act.put, stA, st0, st1]
                    refine tkH 27 (i := 1) (v := .string y.name) (h := ?_)
                    simp only [Act.put, stA, st0, st1]
                    refine wpAnyH_ready (rs := [2]) (by kernel_rfl) (by simp) ?_
                    refine AllReadyH.cons rfl (fun K hK => ?_) (AllReadyH.nil)
                    go_simp
                    go_at_call 60
                    refine (CNM _).mono ?_
                    rintro e v1 ⟨rfl, rfl⟩
                    go_wp2_with fail
                    refine hK.out _ _ HKA.out (fun hHeld => ?_)
                    clear hK K
                    try simp only [Act.put, stA, st0, st1]
                    refine tkH 29 (i := 3) (v := .bool false) (h := ?_)
                    simp only [Act.put, stA, st0, st1]
                    refine tkH 30 (i := 4) (v := .bool false) (h := ?_)
                    simp only [Act.put, stA, st0, st1]
                    refine tkH 31 (i := 5) (v := .int .i64 ((j : Nat) : Int)) (h := ?_)
                    simp only [Act.put, stA, st0, st1]
                    refine tkH 32 (i := 6) (v := .bool true) (h := ?_)
                    simp only [Act.put, stA, st0, st1]
                    refine tkH 33 (i := 7) (v := .bool true) (h := ?_)
                    simp only [Act.put, stA, st0, st1]
                    refine tkH 34 (i := 8) (v := .pointer (some ⟨wr.heap.size, 0, none⟩)) (h := ?_)
                    simp only [Act.put, stA, st0, st1]
                    refine tkH 35 (i := 9) (v := .string y.name) (h := ?_)
                    simp only [Act.put, stA, st0, st1]
                    refine tkH 36 (i := 10) (v := .slice (some ⟨b, off, none⟩) N cap) (h := ?_)
                    simp only [Act.put, stA, st0, st1]
                    refine tkH 37 (i := 11) (v := .int .i64 ((j : Nat) : Int)) (h := ?_)
                    simp only [Act.put, stA, st0, st1]
                    refine tkH 38 (i := 12) (v := .int .i64 ((j - 1 : Nat) : Int)) (h := ?_)
                    simp only [Act.put, stA, st0, st1]
                    refine tkH 39 (i := 13) (v := .pointer (some ⟨b, off + (j - 1) * 2, none⟩)) (h := ?_)
                    simp only [Act.put, stA, st0, st1]
                    refine tkH 40 (i := 14) (v := .pointer (some ⟨b, off + (j - 1) * 2, none⟩)) (h := ?_)
                    simp only [Act.put, stA, st0, st1]
                    refine tkH 41 (i := 15) (v := .string z.name) (h := ?_)
                    simp only [Act.put, stA, st0, st1]
                    refine tkH 42 (i := 16) (v := .bool false) (h := ?_)
                    simp only [Act.put, stA, st0, st1]
                    refine tkH 43 (i := 17) (v := .bool false) (h := ?_)
                    simp only [Act.put, stA, st0, st1]
                    refine tkH 44 (i := 18) (v := .bool false) (h := ?_)
                    simp only [Act.put, stA, st0, st1]
                    refine tkH 45 (i := 19) (v := .bool false) (h := ?_)
                    simp only [Act.put, stA, st0, st1]
                    refine tkH 46 (i := 20) (v := .pointer (some ⟨wr.heap.size, 1, none⟩)) (h := ?_)
                    simp only [Act.put, stA, st0, st1]
                    refine tkH 47 (i := 21) (v := .int .i64 y.num) (h := ?_)
                    simp only [Act.put, stA, st0, st1]
                    refine tkH 48 (i := 22) (v := .bool false) (h := ?_)
                    simp only [Act.put, stA, st0, st1]
                    refine tkH 49 (i := 23) (v := .bool false) (h := ?_)
                    simp only [Act.put, stA, st0, st1]
                    refine tkH 50 (i := 24) (v := .bool false) (h := ?_)
                    simp only [Act.put, stA, st0, st1]
                    refine tkH 51 (i := 25) (v := .pointer (some ⟨wr.heap.size, 1, none⟩)) (h := ?_)
                    simp only [Act.put, stA, st0, st1]
                    refine tkH 52 (i := 26) (v := .int .i64 y.num) (h := ?_)
                    simp only [Act.put, stA, st0, st1]
                    refine tkH 53 (i := 27) (v := .bool false) (h := ?_)
                    simp only [Act.put, stA, st0, st1]
                    refine tkH 54 (i := 28) (v := .bool false) (h := ?_)
                    simp only [Act.put, stA, st0, st1]
                    refine wpAnyH_done (by kernel_rfl) ?_ _
                    clear CNM
                    have hok : kE.ok l[j] := by rw [HY.out]; exact HOK.out
                    have HE := Lib.hid (HM.out.succ hl hok HLT.out)
                    clear hok
                    have HRR := Lib.hid (HB.out.trans (HWB.out.mono HB.out.size))
                    have hg : ∀ z ∈ [y.num], good z := by
                      intro z hz
                      simp only [List.mem_cons, List.not_mem_nil, or_false] at hz
                      obtain ⟨q0, q1, q2⟩ := HOK.out
                      subst hz; constructor <;> omega
                    have CQ := rnums_new [y.num] (by simp) hg
                    have hn16 : y.name.size ≤ 16 := HOK.out.1.2.1
                    have CT := fun w => reftext_any y.name (by omega) w
                    rw [textW_txt (by omega)] at CT
                    have hEz : (txt y.name ++ layL ([y.num].map Int.toNat)).length ≤ 20 := entEnc_len HOK.out
                    have HEQ := Lib.hid (show bs (txt y.name) ++ bs (layL ([y.num].map Int.toNat)) = bs (entEnc y) by rw [← bs_append]; rfl)
                    simp only [List.length_cons, List.length_nil, Nat.reduceAdd] at CQ
                    have hz1 : (bs (txt y.name)).size + (bs (layL ([y.num].map Int.toNat))).size ≤ 20 := by rw [bs_size, bs_size, ← List.length_append]; exact hEz
                    obtain ⟨D, hD⟩ : ∃ D, bs (txt y.name) = D := ⟨_, rfl⟩
                    obtain ⟨E, hE⟩ : ∃ E, bs (layL ([y.num].map Int.toNat)) = E := ⟨_, rfl⟩
                    rw [hD] at CT HEQ hz1
                    rw [hE] at CQ HEQ hz1
                    simp only [List.map_cons, List.map_nil] at CQ
                    have nsum : ¬ 9223372036854775807 < D.size + E.size := by omega
                    have nsum2 : ¬ 9223372036854775807 < S.size + (D ++ E).size := by rw [ByteArray.size_append]; omega
                    have nsum3 : ¬ 9223372036854775807 < S.size + (D.size + E.size) := by omega
                    have HSZ := Lib.hid (show (S ++ (D ++ E)).size ≤ 2 + 20 * (j + 1) by rw [ByteArray.size_append, ByteArray.size_append]; omega)
                    have HCQ := Lib.hid CQ
                    clear hg CQ hD hE hEz hn16 hys hz1
                    go_wp2_with fail
                    refine (CT _).mono ?_
                    rintro e w4 ⟨rfl, hB4⟩
                    have HB4 := Lib.hid (HRR.out.trans (hB4.mono HRR.out.size))
                    have hxx := (hB4.block _ (lt_of_heap (show u1.drew.heap[wr.heap.size]? = _ from HX.out))).trans (show u1.drew.heap[wr.heap.size]? = _ from HX.out)
                    have e0 : w4.cell? ⟨wr.heap.size, 0, none⟩ = some (.string y.name) := by simp [World.cell?, hxx]
                    have e1 : w4.cell? ⟨wr.heap.size, 1, none⟩ = some (.int .i64 y.num) := by simp [World.cell?, hxx]
                    clear hB4 CT hxx
                    go_wp2_with fail
                    refine (HCQ.out _ _).mono ?_
                    rintro e w5 ⟨rfl, hB5⟩
                    have HB5 := Lib.hid (HB4.out.trans (hB5.mono HB4.out.size))
                    clear hB5
                    go_wp2_with fail
                    go_roundw
                    case rel => exact ⟨j + 1, S ++ (D ++ E), by omega, by go_num, rfl, HSZ.out, by rw [HS4.out, HTK.out, List.flatMap_append, HEQ.out, ← bs_append]; simp [kE], HE.out, HB5.out⟩
                    case measure => simp [intOf]; omega
      · obtain rfl : j = N := by omega
        have hmay : May kE l := ⟨by rw [HN.out]; omega, by rw [HN.out]; exact HM.out⟩
        have HF := Lib.hid (show R = .tuple #[.string S, .int .i64 0] by
          rw [HYES.out hmay, HS4.out, laidL, HN.out, List.take_of_length_le (by rw [HN.out]; exact Nat.le_refl _)])
        clear hmay
        go_wp2_with fail
        go_ret2
        exact ⟨by rw [HF.out]; rfl, HB.out⟩
end Go.Proofs.YtfokdmijkniomaaGreatDoor.WT

namespace Go.Proofs.YtfokdmijkniomaaGreatDoor.WT
open Go.RowKit Go

/-- the reference's reader, in memory: a text, how far it is read, what ended it -/
def QObj (s : ByteArray) (p : Nat) (e : Int) : Obj := .cells #[.string s, .int .i64 p, .int .i64 e] 153 (0, 0)
/-- it stands where a reader stands -/
structure Stands (s : ByteArray) (p : Nat) (e : Int) (r : Rd) : Prop where
  err : r.err = e
  le : e = 0 → p ≤ s.size
  rest : e = 0 → r.rest = s.data.toList.drop p
section
variable {w : World} {b : Nat} {s : ByteArray} {p : Nat} {e : Int}
theorem QObj.c0 (h : w.heap[b]? = some (QObj s p e)) : w.cell? ⟨b, 0, none⟩ = some (.string s) := by simp [World.cell?, h, QObj]
theorem QObj.c1 (h : w.heap[b]? = some (QObj s p e)) : w.cell? ⟨b, 1, none⟩ = some (.int .i64 p) := by simp [World.cell?, h, QObj]
theorem QObj.c2 (h : w.heap[b]? = some (QObj s p e)) : w.cell? ⟨b, 2, none⟩ = some (.int .i64 e) := by simp [World.cell?, h, QObj]
theorem QObj.fr (h : w.heap[b]? = some (QObj s p e)) (i : Nat) : w.frozen? ⟨b, i, none⟩ = false := by simp [World.frozen?, h, QObj]
theorem Moved.setAt {v : World} (h : Moved b (QObj s p e) w v) (x : Nat) : Moved b (QObj s x e) w (v.setCell ⟨b, 1, none⟩ (.int .i64 x)) := by
  have := Moved.set (i := 1) h (.int .i64 x); simpa [QObj] using this
theorem Moved.setE {v : World} (h : Moved b (QObj s p e) w v) (x : Int) : Moved b (QObj s p x) w (v.setCell ⟨b, 2, none⟩ (.int .i64 x)) := by
  have := Moved.set (i := 2) h (.int .i64 x); simpa [QObj] using this
end
/-- it fails -/
theorem fails_any (b : Nat) (s : ByteArray) (p : Nat) (e x : Int) (w : World) (hb : w.heap[b]? = some (QObj s p e)) :
    Calls Tryz.prog 146 #[.pointer (some ⟨b, 0, none⟩), .int .i64 x] w fun v w' => v = .returned (.int .i64 x) ∧ Moved b (QObj s p x) w w' := by
  have fr := QObj.fr hb
  have c2 := QObj.c2 hb
  have HM := Lib.hid ((Moved.refl hb).setE x)
  go_enter Tryz.func146, Tryz.ntmps146
  go_wp2
  go_ret
  exact ⟨rfl, HM.out⟩

theorem rend_any (b : Nat) (s : ByteArray) (p : Nat) (e : Int) (r : Rd) (hs : Stands s p e r) (w : World) (hb : w.heap[b]? = some (QObj s p e)) :
    Calls Tryz.prog 102 #[.pointer (some ⟨b, 0, none⟩)] w fun v w' => v = .returned (.int .i64 (endR r)) ∧ Below w.heap.size w w' := by
  have c0 := QObj.c0 hb
  have c1 := QObj.c1 hb
  have c2 := QObj.c2 hb
  by_cases he : e = 0
  · subst he
    have hle := hs.le rfl
    by_cases hr : r.rest = []
    · have HR := Lib.hid (show endR r = 0 by unfold endR; rw [if_pos hs.err, if_pos hr])
      have hp : s.size ≤ p := by
        have := hs.rest rfl
        rw [hr] at this
        have := congrArg List.length this
        simp at this; omega
      have hp1 : ¬ (p : Int) < (s.size : Int) := by omega
      clear hr hp hs
      go_enter Tryz.func102, Tryz.ntmps102
      go_wp2_with fail
      go_quiet (fail)
      go_wp2_with fail
      go_ret
      exact ⟨by rw [HR.out]; rfl, ⟨rfl, rfl, rfl, Nat.le_refl _, fun _ _ => rfl⟩⟩
    · have HR := Lib.hid (show endR r = 32 by unfold endR; rw [if_pos hs.err, if_neg hr])
      have hp1 : (p : Int) < (s.size : Int) := by
        have h1 := hs.rest rfl
        have h2 : 0 < r.rest.length := List.length_pos_iff.2 hr
        rw [h1] at h2
        simp at h2; omega
      clear hr hs
      go_enter Tryz.func102, Tryz.ntmps102
      go_wp2_with fail
      go_quiet (fail)
      go_wp2_with fail
      go_ret
      exact ⟨by rw [HR.out]; rfl, ⟨rfl, rfl, rfl, Nat.le_refl _, fun _ _ => rfl⟩⟩
  · have HR := Lib.hid (show endR r = e by unfold endR; rw [if_neg (by rw [hs.err]; exact he)]; exact hs.err)
    have hne : (e != 0) = true := bne_iff_ne.2 he
    clear hs
    go_enter Tryz.func102, Tryz.ntmps102
    go_wp2
    go_ret
    exact ⟨by rw [HR.out]; rfl, Below.refl _ _⟩
end Go.Proofs.YtfokdmijkniomaaGreatDoor.WT

namespace Go.Proofs.YtfokdmijkniomaaGreatDoor.WT
open Go.RowKit Go

theorem Moved.same {b : Nat} {o : Obj} {w v : World} (h : w.heap[b]? = some o) (k : Moved b o w v) : Below w.heap.size w v :=
  ⟨k.os, k.tape, k.output, k.size, fun i hi => by
    by_cases e : i = b
    · subst e; rw [k.here, h]
    · exact k.block i hi e⟩

set_option maxRecDepth 100000 in
set_option maxHeartbeats 4000000 in
theorem mnum_any (b : Nat) (s : ByteArray) (p : Nat) (e : Int) (r : Rd) (most : Int) (hs : s.size ≤ 281474976710656) (hst : Stands s p e r) (w : World) (hb : w.heap[b]? = some (QObj s p e)) :
    Calls Tryz.prog 100 #[.pointer (some ⟨b, 0, none⟩), .int .i64 most] w fun v w' => ∃ (p' : Nat) (e' : Int), v = .returned (.tuple #[.int .i64 (numR r most).1, .int .i64 (numR r most).2.err]) ∧ Stands s p' e' (numR r most).2 ∧ Moved b (QObj s p' e') w w' := by
  have c2 := QObj.c2 hb
  have HM := Moved.refl hb
  by_cases he : e = 0
  · subst he
    have hpl := hst.le rfl
    obtain ⟨re, rr⟩ := r
    obtain rfl : rr = 0 := hst.err
    obtain rfl : re = s.data.toList.drop p := hst.rest rfl
    clear hst
    go_enter Tryz.func100, Tryz.ntmps100
    go_wp2_with fail
    go_loopw [6, 7, 8] (fun n t i wr => ∃ k m q : Nat, p + k ≤ s.size ∧ k ≤ 9 ∧ i = .int .i64 k ∧ n = .int .i64 m ∧ t = .int .i64 q ∧ q = 128 ^ (min k 8) ∧ m < 128 ^ k ∧ scan (s.data.toList.drop p) = scanAt k m (s.data.toList.drop (p + k)) ∧ Moved b (QObj s p 0) w wr) (fun _ _ i _ => 10 - (intOf i).toNat)
    case atStart => exact ⟨0, 0, 1, by omega, by omega, rfl, rfl, rfl, rfl, by decide, rfl, HM⟩
    case round =>
      clear HM c2
      obtain ⟨k, m, q, hk, hk9, rfl, rfl, rfl, hq, hm, hsc, hM⟩ := hrel
      have HS := Lib.hid hsc
      have HMv := Lib.hid hM
      have HQ := Lib.hid hq
      have HLT := Lib.hid hm
      have c0 := QObj.c0 hM.here
      have c1 := QObj.c1 hM.here
      have fr := QObj.fr hM.here
      have hk10 : (k : Int) < 10 := by omega
      have hpk : (p : Int) + (k : Int) ≤ (s.size : Int) := by omega
      clear hsc hM hq hm
      by_cases hlt : p + k < s.size
      · have hl : p + k < s.data.toList.length := by simpa using hlt
        have HD := Lib.hid (show s.data.toList.drop (p + k) = s[p + k] :: s.data.toList.drop (p + k + 1) from List.drop_eq_getElem_cons hl)
        have hlt1 : (p : Int) + (k : Int) < (s.size : Int) := by omega
        have hp0 : (0 : Int) ≤ (p : Int) + (k : Int) := by omega
        have hpn : ((p : Int) + (k : Int)).toNat = p + k := by omega
        have HC := Lib.hid (show scanAt k m (s.data.toList.drop (p + k)) = if k = 9 ∨ k > 0 ∧ s[p + k] = 0 then .form else if s[p + k].toNat < 128 then .num (m + s[p + k].toNat * 128 ^ k) (k + 1) else scanAt (k + 1) (m + (s[p + k].toNat % 128) * 128 ^ k) (s.data.toList.drop (p + k + 1)) by rw [HD.out]; rfl)
        --BEGIN
        have hwx : RowKit.wrap64 (s[p + k].toNat : Int) = (s[p + k].toNat : Int) := by
          have := s[p + k].toNat_lt
          unfold RowKit.wrap64; omega
        by_cases h9 : k = 9
        · have HF := Lib.hid (show scan (s.data.toList.drop p) = .form by rw [HS.out, HC.out, if_pos (Or.inl h9)])
          have HR := Lib.hid (numR_form (r := ⟨s.data.toList.drop p, 0⟩) (m := most) rfl HF.out)
          have e9 : ((k : Int) == 9) = true := beq_iff_eq.2 (by omega)
          clear HC HD h9
          go_wp2_with fail
          go_quiet (fail)
          go_wp2_with fail
          go_quiet (fail)
          go_wp2_with fail
          refine (fails_any b s p 0 30 _ (HMv.out.drewN).here).mono ?_
          rintro e w3 ⟨rfl, K⟩
          go_wp2_with fail
          go_ret2
          exact ⟨p, 30, by rw [HR.out]; rfl, by rw [HR.out]; exact ⟨rfl, fun e => absurd e (by decide), fun e => absurd e (by decide)⟩, (HMv.out.drewN).trans K⟩
        · have e9 : ((k : Int) == 9) = false := beq_eq_false_iff_ne.2 (by omega)
          have hk8 : k ≤ 8 := by omega
          rcases (Classical.em (k > 0 ∧ s[p + k] = 0)) with hg | hg
          · have HF := Lib.hid (show scan (s.data.toList.drop p) = .form by rw [HS.out, HC.out, if_pos (Or.inr hg)])
            have HR := Lib.hid (numR_form (r := ⟨s.data.toList.drop p, 0⟩) (m := most) rfl HF.out)
            have k0 : (0 : Int) < (k : Int) := by omega
            have x0 : ((s[p + k].toNat : Int) == 0) = true := by rw [hg.2]; rfl
            clear HC HD hg h9
            go_wp2_with fail
            go_quiet (fail)
            go_wp2_with fail
            go_quiet (fail)
            go_wp2_with fail
            refine (fails_any b s p 0 30 _ (HMv.out.drewN).here).mono ?_
            rintro e w3 ⟨rfl, K⟩
            go_wp2_with fail
            go_ret2
            exact ⟨p, 30, by rw [HR.out]; rfl, by rw [HR.out]; exact ⟨rfl, fun e => absurd e (by decide), fun e => absurd e (by decide)⟩, (HMv.out.drewN).trans K⟩
          · have hn : ¬ (k = 9 ∨ k > 0 ∧ s[p + k] = 0) := fun h => h.elim h9 hg
            have hc2 := HC.out
            rw [if_neg hn] at hc2
            have HC2 := Lib.hid hc2
            have hxl := s[p + k].toNat_lt
            have hcut : (¬ (0 : Int) < (k : Int)) ∨ ((0 : Int) < (k : Int) ∧ (((s[p + k].toNat : Int) == 0) = false)) := by
              by_cases h0 : k = 0
              · exact Or.inl (by omega)
              · refine Or.inr ⟨by omega, ?_⟩
                have h1 : s[p + k].toNat ≠ 0 := fun e => hg ⟨by omega, by rw [← ofNat_self s[p + k], e]; rfl⟩
                exact beq_eq_false_iff_ne.2 (by omega)
            have hqk : q = 128 ^ k := by rw [HQ.out, Nat.min_eq_left hk8]
            have hp7 := pow7_le k hk8
            obtain ⟨d, hd⟩ : ∃ d, s[p + k].toNat % 128 = d := ⟨_, rfl⟩
            have hd128 : d < 128 := by rw [← hd]; exact Nat.mod_lt _ (by decide)
            obtain ⟨z, hz⟩ : ∃ z, d * q = z := ⟨_, rfl⟩
            have hzq : z ≤ 127 * q := by rw [← hz]; exact Nat.mul_le_mul_right _ (by omega)
            obtain ⟨m2, hm2⟩ : ∃ m2, m + z = m2 := ⟨_, rfl⟩
            have hd1 : (s[p + k].toNat : Int) % 128 = (d : Int) := by rw [← hd]; omega
            have hd2 : (s[p + k].toNat : Int).tmod 128 = (d : Int) := by rw [Int.tmod_eq_emod_of_nonneg (by omega)]; exact hd1
            have hmul : (d : Int) * (q : Int) = (z : Int) := by rw [← hz]; simp
            have hadd : (m : Int) + (z : Int) = (m2 : Int) := by rw [← hm2]; simp
            have hmlt := HLT.out
            have hzb : (z : Int) ≤ 9223372036854775807 := by omega
            have hmb : (m2 : Int) ≤ 9223372036854775807 := by omega
            have hwz : IntKind.i64.wrap (z : Int) = (z : Int) := wrap64 _ (by omega) (by omega)
            have hwm : IntKind.i64.wrap (m2 : Int) = (m2 : Int) := wrap64 _ (by omega) (by omega)
            have HM2 := Lib.hid (show m + s[p + k].toNat % 128 * 128 ^ k = m2 by rw [hd, ← hqk, hz, hm2])
            by_cases hx : s[p + k].toNat < 128
            · have HF := Lib.hid (show scan (s.data.toList.drop p) = .num m2 (k + 1) by rw [HS.out, HC2.out, if_pos hx, ← HM2.out, Nat.mod_eq_of_lt hx])
              have hxi : (s[p + k].toNat : Int) < 128 := by omega
              obtain ⟨u, hu⟩ : ∃ u, p + (k + 1) = u := ⟨_, rfl⟩
              have hui : (p : Int) + ((k : Int) + 1) = (u : Int) := by omega
              have hui2 : (p : Int) + (k : Int) + 1 = (u : Int) := by omega
              have HUM := Lib.hid (fun N : Nat => (HMv.out.drewN (n := N)).setAt u)
              have hdl : (s.data.toList.drop p).drop (k + 1) = s.data.toList.drop u := by rw [List.drop_drop, hu]
              have hus : u ≤ s.size := by omega
              have HDL := Lib.hid hdl
              have HUS := Lib.hid hus
              clear HC HC2 HD hx hd hz hm2 hzq hqk hp7 hmlt hn hg h9 hc2 hd128 hu hdl hus HM2
              by_cases hok : (m2 : Int) ≤ most ∧ m2 ≤ top
              · have HR := Lib.hid (numR_ok (r := ⟨s.data.toList.drop p, 0⟩) (m := most) rfl HF.out hok.1 hok.2)
                have ok1 := hok.1
                have ok2 : (m2 : Int) ≤ 4611686018427387903 := by have := hok.2; unfold top at this; omega
                clear hok
                rcases hcut with k0 | ⟨k0, x0⟩
                all_goals
                  go_wp2_with fail
                  go_quiet (fail)
                  go_wp2_with fail
                  go_quiet (fail)
                  go_wp2_with fail
                  go_ret2
                  exact ⟨u, 0, by rw [HR.out]; rfl, by rw [HR.out]; exact ⟨rfl, fun _ => HUS.out, fun _ => HDL.out⟩, HUM.out _⟩
              · have HR := Lib.hid (numR_over (r := ⟨s.data.toList.drop p, 0⟩) (m := most) rfl HF.out hok)
                have hov : (4611686018427387903 < (m2 : Int)) ∨ (¬ 4611686018427387903 < (m2 : Int) ∧ most < (m2 : Int)) := by
                  by_cases h1 : 4611686018427387903 < (m2 : Int)
                  · exact Or.inl h1
                  · refine Or.inr ⟨h1, ?_⟩
                    have : ¬ (m2 : Int) ≤ most := fun e => hok ⟨e, by unfold top; omega⟩
                    omega
                clear hok
                rcases hcut with k0 | ⟨k0, x0⟩
                all_goals
                  rcases hov with ov | ⟨ov, ov2⟩
                  all_goals
                    go_wp2_with fail
                    go_quiet (fail)
                    go_wp2_with fail
                    go_quiet (fail)
                    go_wp2_with fail
                    refine (fails_any b s u 0 31 _ (HUM.out _).here).mono ?_
                    rintro e w3 ⟨rfl, K⟩
                    go_wp2_with fail
                    go_ret2
                    exact ⟨u, 31, by rw [HR.out]; rfl, by rw [HR.out]; exact ⟨rfl, fun e => absurd e (by decide), fun e => absurd e (by decide)⟩, (HUM.out _).trans K⟩
            · have HN := Lib.hid (show scan (s.data.toList.drop p) = scanAt (k + 1) m2 (s.data.toList.drop (p + (k + 1))) by rw [HS.out, HC2.out, if_neg hx, ← HM2.out]; rfl)
              have hxi : ¬ (s[p + k].toNat : Int) < 128 := by omega
              have HLT2 := Lib.hid (show m2 < 128 ^ (k + 1) by rw [Nat.pow_succ]; omega)
              by_cases hk7 : k < 8
              · obtain ⟨q2, hq2⟩ : ∃ q2, q * 128 = q2 := ⟨_, rfl⟩
                have hq3 : (q : Int) * 128 = (q2 : Int) := by rw [← hq2]; simp
                have hp8 := pow7_le (k + 1) (by omega)
                have hq5 : q2 = 128 ^ (k + 1) := by rw [← hq2, hqk, Nat.pow_succ]
                have hwq : IntKind.i64.wrap (q2 : Int) = (q2 : Int) := wrap64 _ (by omega) (by omega)
                have hqb : (q2 : Int) ≤ 72057594037927936 := by omega
                have HQ2 := Lib.hid (show q2 = 128 ^ (min (k + 1) 8) by rw [hq5, Nat.min_eq_left (by omega)])
                have hk7i : (k : Int) < 8 := by omega
                clear HC HC2 HD hx hd hz hm2 hzq hqk hp7 hmlt hn hg h9 hc2 hd128 HM2 hq2 hp8 hq5
                rcases hcut with k0 | ⟨k0, x0⟩
                all_goals (
                  go_wp2_with fail
                  go_quiet (fail)
                  go_wp2_with fail
                  go_quiet (fail)
                  go_wp2_with fail
                  go_roundw
                  case rel => exact ⟨k + 1, m2, q2, by omega, by omega, by go_num, rfl, rfl, HQ2.out, HLT2.out, HN.out, HMv.out.drewN⟩
                  case measure => simp [intOf]; omega)
              · have HQ2 := Lib.hid (show q = 128 ^ (min (k + 1) 8) by rw [hqk, show k = 8 by omega]; rfl)
                have hk7i : ¬ (k : Int) < 8 := by omega
                clear HC HC2 HD hx hd hz hm2 hzq hqk hp7 hmlt hn hg h9 hc2 hd128 HM2
                rcases hcut with k0 | ⟨k0, x0⟩
                · exact absurd k0 (by omega)
                · skip
                  go_wp2_with fail
                  go_quiet (fail)
                  go_wp2_with fail
                  go_quiet (fail)
                  go_wp2_with fail
                  go_roundw
                  case rel => exact ⟨k + 1, m2, q, by omega, by omega, by go_num, rfl, rfl, HQ2.out, HLT2.out, HN.out, HMv.out.drewN⟩
                  case measure => simp [intOf]; omega
      · have HF := Lib.hid (show scan (s.data.toList.drop p) = .fin by rw [HS.out, List.drop_of_length_le (by simp; omega)]; rfl)
        have HR := Lib.hid (numR_fin (r := ⟨s.data.toList.drop p, 0⟩) (m := most) rfl HF.out)
        have hge : ¬ (p : Int) + (k : Int) < (s.size : Int) := by omega
        go_wp2_with fail
        go_quiet (fail)
        go_wp2_with fail
        refine (fails_any b s p 0 32 _ (HMv.out.drewN).here).mono ?_
        rintro e w3 ⟨rfl, K⟩
        go_wp2_with fail
        go_ret2
        exact ⟨p, 32, by rw [HR.out]; rfl, by rw [HR.out]; exact ⟨rfl, fun e => absurd e (by decide), fun e => absurd e (by decide)⟩, (HMv.out.drewN).trans K⟩
  · have HR := Lib.hid (numR_err (r := r) (by rw [hst.err]; exact he) most)
    have HE := Lib.hid hst.err
    have HS := Lib.hid hst
    have hne : (e != 0) = true := bne_iff_ne.2 he
    clear hst
    go_enter Tryz.func100, Tryz.ntmps100
    go_wp2_with fail
    go_quiet (fail)
    go_wp2_with fail
    go_ret2
    exact ⟨p, e, by rw [HR.out, HE.out]; rfl, by rw [HR.out]; exact HS.out, HM.drewN⟩
end Go.Proofs.YtfokdmijkniomaaGreatDoor.WT

namespace Go.Proofs.YtfokdmijkniomaaGreatDoor.WT
open Go.RowKit Go

theorem w64 (n : Int) (h1 : -9223372036854775808 ≤ n) (h2 : n ≤ 9223372036854775807) : RowKit.wrap64 n = n := by
  unfold RowKit.wrap64; omega
theorem w64_nat (k : Nat) (h : k ≤ 281474976710656) : RowKit.wrap64 (k : Int) = (k : Int) := w64 _ (by omega) (by omega)
theorem w64_sub (a b : Nat) (h : a ≤ 281474976710656) (h2 : b ≤ 281474976710656) : RowKit.wrap64 ((a : Int) - (b : Int)) = (a : Int) - (b : Int) := w64 _ (by omega) (by omega)
theorem extract_mid (s : ByteArray) (p n : Nat) : s.extract p (p + n) = bs ((s.data.toList.drop p).take n) := by
  rw [← bs_self (s.extract p (p + n)), Lib.extract_data, Nat.add_sub_cancel_left]

set_option maxRecDepth 100000 in
set_option maxHeartbeats 4000000 in
theorem mtext_any (b : Nat) (s : ByteArray) (p : Nat) (e : Int) (r : Rd) (most : Int) (hs : s.size ≤ 281474976710656) (hst : Stands s p e r) (w : World) (hb : w.heap[b]? = some (QObj s p e)) :
    Calls Tryz.prog 101 #[.pointer (some ⟨b, 0, none⟩), .int .i64 most] w fun v w' => ∃ (p' : Nat) (e' : Int), v = .returned (.tuple #[.string (bs (textR r most).1), .int .i64 (textR r most).2.err]) ∧ Stands s p' e' (textR r most).2 ∧ Moved b (QObj s p' e') w w' := by
  have hlow := low_walk most
  have HT := Lib.hid (show textR r most = bytesR (numR r (low most)).2 (numR r (low most)).1 from rfl)
  have C := mnum_any b s p e r (low most) hs hst w hb
  generalize low most = m at *
  generalize numR r m = q at *
  obtain ⟨n, r1⟩ := q
  obtain ⟨f, hf⟩ : ∃ f, r1.err = f := ⟨_, rfl⟩
  have C' : Calls Tryz.prog 100 #[.pointer (some ⟨b, 0, none⟩), .int .i64 m] w fun v w' => ∃ (p' : Nat) (e' : Int), v = .returned (.tuple #[.int .i64 n, .int .i64 f]) ∧ Stands s p' e' r1 ∧ Moved b (QObj s p' e') w w' := by rw [← hf]; exact C
  have HT' := Lib.hid (show textR r most = bytesR r1 n from HT.out)
  clear hst hb C HT
  go_enter Tryz.func101, Tryz.ntmps101
  go_wp2_with fail
  refine C'.mono ?_
  rintro v w1 ⟨p1, e1, rfl, hst1, M1⟩
  obtain rfl : e1 = f := hst1.err.symm.trans hf
  clear C'
  by_cases he : e1 = 0
  · subst he
    have hpl := hst1.le rfl
    have hrest := hst1.rest rfl
    have c0 := QObj.c0 M1.here
    have c1 := QObj.c1 M1.here
    have fr := QObj.fr M1.here
    have HM := Lib.hid M1
    have hlen : r1.rest.length = s.size - p1 := by rw [hrest]; simp
    by_cases hn : n ≤ r1.rest.length
    · obtain ⟨u, hu⟩ : ∃ u, p1 + n = u := ⟨_, rfl⟩
      have HR := Lib.hid (show textR r most = (r1.rest.take n, ⟨r1.rest.drop n, 0⟩) by
        rw [HT'.out]; unfold bytesR; rw [if_pos hf, if_pos hn])
      have HX := Lib.hid (show bs (r1.rest.take n) = s.extract p1 u by rw [← hu, extract_mid, hrest])
      have HS := Lib.hid (show Stands s u 0 ⟨r1.rest.drop n, 0⟩ from ⟨rfl, fun _ => by omega, fun _ => by show List.drop n r1.rest = _; rw [hrest, List.drop_drop, hu]⟩)
      have hn1 : (n : Int) ≤ (s.size : Int) - (p1 : Int) := by omega
      have hui : (p1 : Int) + (n : Int) = (u : Int) := by omega
      have hud : (u : Int) - (n : Int) = (p1 : Int) := by omega
      have hus : (u : Int) ≤ (s.size : Int) := by omega
      have hpu : (p1 : Int) ≤ (u : Int) := by omega
      have hpi : (0 : Int) ≤ (p1 : Int) := by omega
      have hw1 : RowKit.wrap64 ((s.size : Int) - (p1 : Int)) = (s.size : Int) - (p1 : Int) := w64_sub _ _ hs (Nat.le_trans hpl hs)
      have hw2 : RowKit.wrap64 (u : Int) = (u : Int) := w64_nat _ (Nat.le_trans (Int.ofNat_le.1 hus) hs)
      have hw3 : RowKit.wrap64 (p1 : Int) = (p1 : Int) := w64_nat _ (Nat.le_trans hpl hs)
      have HU := Lib.hid (fun N : Nat => (HM.out.drewN (n := N)).setAt u)
      clear hlen hrest hst1 hpl hu HT' hn hf M1
      go_wp2_with fail
      go_quiet (fail)
      go_wp2_with fail
      go_quiet (fail)
      go_wp2_with fail
      go_ret2
      exact ⟨u, 0, by rw [HR.out, HX.out]; rfl, by rw [HR.out]; exact HS.out, (HU.out _).drewN⟩
    · have HR := Lib.hid (show textR r most = ([], ⟨r1.rest, 32⟩) by
        rw [HT'.out]; unfold bytesR; rw [if_pos hf, if_neg hn])
      have hn1 : (s.size : Int) - (p1 : Int) < (n : Int) := by omega
      have hw1 : RowKit.wrap64 ((s.size : Int) - (p1 : Int)) = (s.size : Int) - (p1 : Int) := w64_sub _ _ hs (Nat.le_trans hpl hs)
      clear hlen hrest hst1 hpl HT' hn hf M1
      go_wp2_with fail
      go_quiet (fail)
      go_wp2_with fail
      refine (fails_any b s p1 0 32 _ (HM.out.drewN).here).mono ?_
      rintro v w3 ⟨rfl, K⟩
      go_wp2_with fail
      go_ret2
      exact ⟨p1, 32, by rw [HR.out]; rfl, by rw [HR.out]; exact ⟨rfl, fun e => absurd e (by decide), fun e => absurd e (by decide)⟩, HM.out.drewN.trans K⟩
  · have HR := Lib.hid (show textR r most = ([], r1) by rw [HT'.out]; exact bytesR_err (by rw [hf]; exact he) _)
    have HM := Lib.hid M1
    have HS := Lib.hid hst1
    have HF := Lib.hid hf
    have hne : (e1 != 0) = true := bne_iff_ne.2 he
    clear hst1 M1 HT' hf
    go_wp2_with fail
    go_ret2
    exact ⟨p1, e1, by rw [HR.out, HF.out]; rfl, by rw [HR.out]; exact HS.out, HM.out⟩
end Go.Proofs.YtfokdmijkniomaaGreatDoor.WT

namespace Go.Proofs.YtfokdmijkniomaaGreatDoor.WT
open Go.RowKit Go

end Go.Proofs.YtfokdmijkniomaaGreatDoor.WT

namespace Go.Proofs.YtfokdmijkniomaaGreatDoor.WT
open Go.RowKit Go

theorem entRd_flat (a : Int) (r : Rd) : entRd a r = (⟨bs (textR r 16).1, (numR (textR r 16).2 a).1⟩, (numR (textR r 16).2 a).2) := rfl
set_option maxRecDepth 100000 in
set_option maxHeartbeats 8000000 in
theorem entRParse_any (s : ByteArray) (hs : s.size ≤ 281474976710656) (w : World) :
    Calls Tryz.prog 77 #[.string s] w fun e w' => Parsed kE entC 2 88 s.data.toList w e w' := by
  obtain ⟨pn, hpn⟩ : ∃ pn, numR ⟨s.data.toList, 0⟩ 4096 = pn := ⟨_, rfl⟩
  have hn4 : pn.1 ≤ 4096 := by have := numR_upto ⟨s.data.toList, 0⟩ 4096 (by omega); rw [hpn] at this; omega
  obtain ⟨P, hP⟩ : ∃ P, parsed (entRd 4611686018427387904) s.data.toList = P := ⟨_, rfl⟩
  have HP := Lib.hid (show readN (entRd 4611686018427387904) pn.1 pn.2 [] = P by rw [← hP, ← hpn]; rfl)
  have HD := Lib.hid (show endR P.2 = 0 → May kE P.1 → IsL kE s.data.toList P.1 by rw [← hP]; exact isL_self (readsE (by omega)))
  have HND := Lib.hid (show ¬ (endR P.2 = 0 ∧ May kE P.1) → ∀ l, ¬ IsL kE s.data.toList l by rw [← hP]; exact isL_none (readsE (by omega)))
  clear hP
  obtain ⟨w0, hw0⟩ : ∃ w0, w.alloc (.cells #[.string s, .int .i64 0, .int .i64 0] 153) = w0 := ⟨_, rfl⟩
  have HB0 := Lib.hid (show Below w.heap.size w w0 by rw [← hw0]; exact (Below.refl _ w).alloc (Nat.le_refl _) _)
  have hb : w0.heap[w.heap.size]? = some (QObj s 0 0) := by rw [← hw0]; exact heap_alloc_new w _
  have hst : Stands s 0 0 ⟨s.data.toList, 0⟩ := ⟨rfl, fun _ => Nat.zero_le _, fun _ => by simp⟩
  have C1 := mnum_any w.heap.size s 0 0 ⟨s.data.toList, 0⟩ 4096 hs hst w0 hb
  rw [hpn] at C1
  have hbl0 := lt_of_heap hb
  obtain ⟨N, r0⟩ := pn
  simp only at hn4 C1
  clear hpn hst hb
  go_enter Tryz.func77, Tryz.ntmps77
  go_wp2_with fail
  refine C1.mono ?_
  rintro e w1 ⟨p1, e1, rfl, hst1, hM1⟩
  have hbl1 : w.heap.size < w1.heap.size := Nat.lt_of_lt_of_le hbl0 hM1.size
  obtain ⟨w2, hw2⟩ : ∃ u, w1.alloc (.cells #[] 88) = u := ⟨_, rfl⟩
  have HO3 := Lib.hid (show w2.ownsRow w1.heap.size 88 2 (.slice (some ⟨w1.heap.size, 0, none⟩) 0 0) 0 [] by rw [← hw2]; exact World.ownsRow_lit w1 #[] 0 (Nat.le_refl _) (by decide) rfl)
  have HM2 := Lib.hid (show Moved w.heap.size (QObj s p1 e1) w1 w2 by rw [← hw2]; exact Moved.made hM1.here _)
  have HBW := Lib.hid (show Below w.heap.size w w1 from HB0.out.trans (hM1.below (Nat.le_refl _) (Nat.le_of_lt hbl0)))
  have HS1 := Lib.hid hst1
  clear hM1 C1 hst1 hbl0
  obtain ⟨i0, hi, hz0, hz1, hz2⟩ := info_parts infoEnt
  go_wp2_with fail
  go_loopw [7, 8] (fun v x wr => ∃ (j : Nat) (acc : List Ent) (rk : Rd) (p : Nat) (ek : Int), j ≤ N ∧ acc.length = j ∧ x = .int .i64 j ∧ readN (entRd 4611686018427387904) (N - j) rk acc = P ∧ wr.ownsRow w1.heap.size 88 2 v j (acc.flatMap entC) ∧ Stands s p ek rk ∧ Moved w.heap.size (QObj s p ek) w1 wr ∧ ∀ q ∈ acc, q.name.size ≤ 65536) (fun _ i _ => N - (intOf i).toNat)
  case atStart => exact ⟨0, [], r0, p1, e1, Nat.zero_le _, rfl, rfl, HP.out, HO3.out, HS1.out, HM2.out, fun q hq => absurd hq (by simp)⟩
  case round =>
    obtain ⟨j, acc, rk, p, ek, hj, hacc, rfl, hread, hrow, hst, hM, hsm⟩ := hrel
    have HACC := Lib.hid hacc
    have HRD := Lib.hid hread
    have HRW := Lib.hid hrow
    have HM := Lib.hid hM
    have HST0 := Lib.hid hst
    have HSM := Lib.hid hsm
    have c2 := QObj.c2 hM.here
    have hek : rk.err = ek := hst.err
    obtain ⟨av, cv, rfl⟩ := row_shape hrow
    clear hacc hread hrow hM hst HM2 HS1 HO3 HP hsm
    have hstop : (rk.err = 0 ∧ j < N) ∨ (readN (entRd 4611686018427387904) (N - j) rk acc = (acc, rk) ∧ (rk.err ≠ 0 ∨ (rk.err = 0 ∧ j = N))) := readN_stop hj
    rw [hek] at hstop
    rcases hstop with ⟨he, hlt⟩ | ⟨hstop, hwhy⟩
    · have hji : (j : Int) < (N : Int) := by omega
      have HSTEP := Lib.hid (readN_step (entRd 4611686018427387904) (hek.trans he) hlt acc)
      have HNS := Lib.hid (textR_upto rk 16)
      subst he
      clear hek
      rw [entRd_flat] at HSTEP
      have hSTEP := HSTEP.out
      clear HSTEP
      have C1 := fun (p : Nat) (e : Int) (h : Stands s p e rk) (w' : World) (hb : w'.heap[w.heap.size]? = some (QObj s p e)) => mtext_any w.heap.size s p e rk 16 hs h w' hb
      generalize textR rk 16 = q1 at *
      obtain ⟨n1, r1⟩ := q1
      simp only at C1 hSTEP HNS
      have C2 := fun (p : Nat) (e : Int) (h : Stands s p e r1) (w' : World) (hb : w'.heap[w.heap.size]? = some (QObj s p e)) => mnum_any w.heap.size s p e r1 4611686018427387904 hs h w' hb
      generalize numR r1 4611686018427387904 = q2 at *
      obtain ⟨n2, r2⟩ := q2
      simp only at C2 hSTEP
      have HSTEP := Lib.hid hSTEP
      clear hSTEP
      obtain ⟨u0, hu0⟩ : ∃ u, wr.alloc (.cells #[.string ⟨#[]⟩, .int .i64 0] 88) = u := ⟨_, rfl⟩
      have hx0 : u0.heap[wr.heap.size]? = some (.cells #[.string ⟨#[]⟩, .int .i64 0] 88 (0, 0)) := by rw [← hu0]; exact heap_alloc_new wr _
      have z0 : u0.cell? ⟨wr.heap.size, 0, none⟩ = some (.string ⟨#[]⟩) := by simp [World.cell?, hx0]
      have z1 : u0.cell? ⟨wr.heap.size, 1, none⟩ = some (.int .i64 0) := by simp [World.cell?, hx0]
      have f0 : u0.frozen? ⟨wr.heap.size, 0, none⟩ = false := by simp [World.frozen?, hx0]
      have f1 : u0.frozen? ⟨wr.heap.size, 1, none⟩ = false := by simp [World.frozen?, hx0]
      have hu : Below wr.heap.size wr u0 := by rw [← hu0]; exact (Below.refl _ wr).alloc (Nat.le_refl _) _
      obtain ⟨u1, hu1⟩ : ∃ u, ((u0.setCell ⟨wr.heap.size, 0, none⟩ (.string ⟨#[]⟩)).setCell ⟨wr.heap.size, 1, none⟩ (.int .i64 0)) = u := ⟨_, rfl⟩
      have HX := Lib.hid (show u1.heap[wr.heap.size]? = some (.cells #[.string ⟨#[]⟩, .int .i64 0] 88 (0, 0)) by rw [← hu1]; exact (heap_set (heap_set hx0 (i := 0) (.string ⟨#[]⟩)) (i := 1) (.int .i64 0)))
      have HU := Lib.hid (show Below wr.heap.size wr u1 by rw [← hu1]; exact ((hu.setCell (p := ⟨wr.heap.size, 0, none⟩) (Nat.le_refl _) (.string ⟨#[]⟩)).setCell (p := ⟨wr.heap.size, 1, none⟩) (Nat.le_refl _) (.int .i64 0)))
      clear hx0 hu
      have hwr := HM.out.size
      have hBn : wr.heap.size ≠ w.heap.size := by omega
      have HM0' := Lib.hid (HM.out.and HU.out)
      have HRW0 := Lib.hid (owns_later HRW.out HU.out)
      have hne : ∀ g, Value.ownBlock (.slice av j cv) = some g → g ≠ wr.heap.size := fun g hg2 => by have := (HRW.out.lt g hg2).2; omega
      go_wp2_with fail
      refine (C1 _ _ HST0.out _ HM0'.out.here).mono ?_
      rintro e v1 ⟨p11, e11, rfl, hst, hM⟩
      have HST1 := Lib.hid hst
      have hx := hM.other HX.out hBn
      have hM2 := HM0'.out.trans hM
      have hrw := owns_moved' HRW0.out hM hbl1
      have b1 : v1.cell? ⟨wr.heap.size, 0, none⟩ = some (.string ⟨#[]⟩) := by simp [World.cell?, hx]
      have g1 : v1.frozen? ⟨wr.heap.size, 0, none⟩ = false := by simp [World.frozen?, hx]
      obtain ⟨y1, hy1⟩ : ∃ u, v1.setCell ⟨wr.heap.size, 0, none⟩ (.string (bs n1)) = u := ⟨_, rfl⟩
      have HX1 := Lib.hid (show y1.heap[wr.heap.size]? = some (.cells #[.string (bs n1), .int .i64 0] 88 (0, 0)) by rw [← hy1]; exact heap_set hx (i := 0) (.string (bs n1)))
      have HM1' := Lib.hid (show Moved w.heap.size (QObj s p11 e11) w1 y1 by rw [← hy1]; exact hM2.setNew hwr hbl1 (i := 0) (.string (bs n1)))
      have HRW1 := Lib.hid (show y1.ownsRow w1.heap.size 88 2 (.slice av j cv) j (acc.flatMap entC) by rw [← hy1]; exact owns_set hrw hne (i := 0) (.string (bs n1)))
      clear hx hM hM2 hrw hst C1
      go_wp2_with fail
      refine (C2 _ _ HST1.out _ HM1'.out.here).mono ?_
      rintro e v2 ⟨p12, e12, rfl, hst, hM⟩
      have HST2 := Lib.hid hst
      have hx := hM.other HX1.out hBn
      have hM2 := HM1'.out.trans hM
      have hrw := owns_moved' HRW1.out hM hbl1
      have b2 : v2.cell? ⟨wr.heap.size, 1, none⟩ = some (.int .i64 0) := by simp [World.cell?, hx]
      have g2 : v2.frozen? ⟨wr.heap.size, 1, none⟩ = false := by simp [World.frozen?, hx]
      obtain ⟨y2, hy2⟩ : ∃ u, v2.setCell ⟨wr.heap.size, 1, none⟩ (.int .i64 (n2 : Nat)) = u := ⟨_, rfl⟩
      have HX2 := Lib.hid (show y2.heap[wr.heap.size]? = some (.cells #[.string (bs n1), .int .i64 (n2 : Nat)] 88 (0, 0)) by rw [← hy2]; exact heap_set hx (i := 1) (.int .i64 (n2 : Nat)))
      have HM2' := Lib.hid (show Moved w.heap.size (QObj s p12 e12) w1 y2 by rw [← hy2]; exact hM2.setNew hwr hbl1 (i := 1) (.int .i64 (n2 : Nat)))
      have HRW2 := Lib.hid (show y2.ownsRow w1.heap.size 88 2 (.slice av j cv) j (acc.flatMap entC) by rw [← hy2]; exact owns_set hrw hne (i := 1) (.int .i64 (n2 : Nat)))
      clear hx hM hM2 hrw hst C2
      have hx1 := HX2.out
      have d0 : y2.cell? ⟨wr.heap.size, 0, none⟩ = some (.string (bs n1)) := by simp [World.cell?, hx1]
      have d1 : y2.cell? ⟨wr.heap.size, 1, none⟩ = some (.int .i64 (n2 : Nat)) := by simp [World.cell?, hx1]
      have hrow2 := HRW2.out
      have hsz : w1.heap.size ≤ y2.heap.size := HM2'.out.size
      clear hx1 hne
      go_wp2_with (at_builtin; refine wpList_append_own _ rfl _ _ 85 rfl w1.heap.size 88 i0 (.agg #[.string ⟨#[]⟩, .int .i64 0]) 2 24 Tryz.underlying85 hi hz0 hz1 hz2 rfl (by decide) _ _ _ rfl (hrow2.alloc _) ⟨y2.heap.size, 0, none⟩ 1 1 [.string (bs n1), .int .i64 (n2 : Nat)] rfl rfl (cells_new y2 [.string (bs n1), .int .i64 (n2 : Nat)] _) (by simp [Value.oneCell']) (by unfold maxLen; omega) (by omega) (by simp; omega) ?_; intro v' w5 hown' hgrow _; have hB4 : Below w1.heap.size y2 w5 := ((Below.refl _ y2).alloc hsz _).grown hgrow (by simp; omega) (fun j ej => (hrow2.lt j ej).1); have HM7 := Lib.hid (HM2'.out.andB hbl1 hB4); have HO4 := Lib.hid hown'; obtain ⟨av2, cv2, rfl⟩ := row_shape hown'; clear hown' hgrow hB4)
      go_roundw
      case rel => exact ⟨j + 1, acc ++ [⟨bs n1, (n2 : Int)⟩], r2, p12, e12, by omega, by simp [HACC.out], by go_num, by rw [← HSTEP.out]; exact HRD.out, by rw [List.flatMap_append, List.flatMap_singleton]; exact HO4.out, HST2.out, HM7.out, fun q hq => (List.mem_append.1 hq).elim (fun h => HSM.out q h) (fun h => by rw [List.mem_singleton.1 h]; show (bs n1).size ≤ 65536; rw [bs_size]; exact HNS.out)⟩
      case measure => simp [intOf]; omega
    · have HPE := Lib.hid (show (acc, rk) = P from hstop.symm.trans HRD.out)
      have HE1 := Lib.hid (show endR rk = 0 → May kE acc → IsL kE s.data.toList acc from fun h1 h2 => by have := HD.out; rw [← HPE.out] at this; exact this h1 h2)
      have HN1 := Lib.hid (show ¬ (endR rk = 0 ∧ May kE acc) → ∀ l, ¬ IsL kE s.data.toList l from fun h1 => by have := HND.out; rw [← HPE.out] at this; exact this h1)
      have CL := entRLay_any (.slice av j cv) acc (by rw [HACC.out]; omega) (fun q hq => Nat.le_trans (HSM.out q hq) (by decide)) wr (lst_of_owns entC_len (by decide) (by rw [HACC.out]; exact HRW.out))
      have C3 := fun w' hb => rend_any w.heap.size s p ek rk HST0.out w' hb
      have HWB := Lib.hid (HBW.out.trans (HM.out.below (Nat.le_refl _) (Nat.le_of_lt hbl1)))
      generalize endR rk = E at *
      clear hstop hek
      rcases hwhy with he | ⟨he, hjN⟩
      · have he1 : (ek == 0) = false := by simpa using he
        by_cases hlt : j < N
        · have hji : (j : Int) < (N : Int) := by omega
          clear hlt
          by_cases hm : May kE acc
          · rw [layV_yes hm] at CL
            go_wp2_with fail
            refine CL.mono ?_
            rintro e w5 ⟨rfl, hB5⟩
            have HB5 := Lib.hid hB5
            have hq5 := (hB5.block _ (lt_of_heap HM.out.here)).trans HM.out.here
            have C4 := C3 w5 hq5
            clear hB5 hq5 C3 CL
            by_cases hE : E = 0
            · subst hE
              have HIS := Lib.hid (HE1.out rfl hm)
              rw [show bs (laidL kE acc) = s by rw [(HE1.out rfl hm).2]; exact bs_self s]
              go_wp2_with fail
              refine C4.mono ?_
              rintro e w6 ⟨rfl, hB6⟩
              go_wp2_with fail
              go_ret2
              exact ⟨.inl ⟨acc, _, HIS.out, rfl, by rw [HACC.out]; exact owns_later (owns_later (Joins.ownsRow_le HRW.out (Nat.le_of_lt hbl1)) HB5.out) hB6⟩, HWB.out.trans ((HB5.out.trans (hB6.mono HB5.out.size)).mono HWB.out.size)⟩
            · have hne : (E != 0) = true := by simpa using hE
              have HNN := Lib.hid (HN1.out (fun h => hE h.1))
              go_wp2_with fail
              refine C4.mono ?_
              rintro e w6 ⟨rfl, hB6⟩
              go_wp2_with fail
              go_ret2
              exact ⟨.inr ⟨HNN.out, rfl⟩, HWB.out.trans ((HB5.out.trans (hB6.mono HB5.out.size)).mono HWB.out.size)⟩
          · rw [layV_no hm] at CL
            go_wp2_with fail
            refine CL.mono ?_
            rintro e w5 ⟨rfl, hB5⟩
            have HB5 := Lib.hid hB5
            have hq5 := (hB5.block _ (lt_of_heap HM.out.here)).trans HM.out.here
            have C4 := C3 w5 hq5
            clear hB5 hq5 C3 CL
            by_cases hE : E = 0
            · subst hE
              have HNN := Lib.hid (HN1.out (fun h => hm h.2))
              go_wp2_with fail
              refine C4.mono ?_
              rintro e w6 ⟨rfl, hB6⟩
              go_wp2_with fail
              go_ret2
              exact ⟨.inr ⟨HNN.out, rfl⟩, HWB.out.trans ((HB5.out.trans (hB6.mono HB5.out.size)).mono HWB.out.size)⟩
            · have hne : (E != 0) = true := by simpa using hE
              have HNN := Lib.hid (HN1.out (fun h => hE h.1))
              go_wp2_with fail
              refine C4.mono ?_
              rintro e w6 ⟨rfl, hB6⟩
              go_wp2_with fail
              go_ret2
              exact ⟨.inr ⟨HNN.out, rfl⟩, HWB.out.trans ((HB5.out.trans (hB6.mono HB5.out.size)).mono HWB.out.size)⟩
        · have hji : ¬ (j : Int) < (N : Int) := by omega
          clear hlt
          by_cases hm : May kE acc
          · rw [layV_yes hm] at CL
            go_wp2_with fail
            refine CL.mono ?_
            rintro e w5 ⟨rfl, hB5⟩
            have HB5 := Lib.hid hB5
            have hq5 := (hB5.block _ (lt_of_heap HM.out.here)).trans HM.out.here
            have C4 := C3 w5 hq5
            clear hB5 hq5 C3 CL
            by_cases hE : E = 0
            · subst hE
              have HIS := Lib.hid (HE1.out rfl hm)
              rw [show bs (laidL kE acc) = s by rw [(HE1.out rfl hm).2]; exact bs_self s]
              go_wp2_with fail
              refine C4.mono ?_
              rintro e w6 ⟨rfl, hB6⟩
              go_wp2_with fail
              go_ret2
              exact ⟨.inl ⟨acc, _, HIS.out, rfl, by rw [HACC.out]; exact owns_later (owns_later (Joins.ownsRow_le HRW.out (Nat.le_of_lt hbl1)) HB5.out) hB6⟩, HWB.out.trans ((HB5.out.trans (hB6.mono HB5.out.size)).mono HWB.out.size)⟩
            · have hne : (E != 0) = true := by simpa using hE
              have HNN := Lib.hid (HN1.out (fun h => hE h.1))
              go_wp2_with fail
              refine C4.mono ?_
              rintro e w6 ⟨rfl, hB6⟩
              go_wp2_with fail
              go_ret2
              exact ⟨.inr ⟨HNN.out, rfl⟩, HWB.out.trans ((HB5.out.trans (hB6.mono HB5.out.size)).mono HWB.out.size)⟩
          · rw [layV_no hm] at CL
            go_wp2_with fail
            refine CL.mono ?_
            rintro e w5 ⟨rfl, hB5⟩
            have HB5 := Lib.hid hB5
            have hq5 := (hB5.block _ (lt_of_heap HM.out.here)).trans HM.out.here
            have C4 := C3 w5 hq5
            clear hB5 hq5 C3 CL
            by_cases hE : E = 0
            · subst hE
              have HNN := Lib.hid (HN1.out (fun h => hm h.2))
              go_wp2_with fail
              refine C4.mono ?_
              rintro e w6 ⟨rfl, hB6⟩
              go_wp2_with fail
              go_ret2
              exact ⟨.inr ⟨HNN.out, rfl⟩, HWB.out.trans ((HB5.out.trans (hB6.mono HB5.out.size)).mono HWB.out.size)⟩
            · have hne : (E != 0) = true := by simpa using hE
              have HNN := Lib.hid (HN1.out (fun h => hE h.1))
              go_wp2_with fail
              refine C4.mono ?_
              rintro e w6 ⟨rfl, hB6⟩
              go_wp2_with fail
              go_ret2
              exact ⟨.inr ⟨HNN.out, rfl⟩, HWB.out.trans ((HB5.out.trans (hB6.mono HB5.out.size)).mono HWB.out.size)⟩
      · subst hjN
        subst he
        by_cases hm : May kE acc
        · rw [layV_yes hm] at CL
          go_wp2_with fail
          refine CL.mono ?_
          rintro e w5 ⟨rfl, hB5⟩
          have HB5 := Lib.hid hB5
          have hq5 := (hB5.block _ (lt_of_heap HM.out.here)).trans HM.out.here
          have C4 := C3 w5 hq5
          clear hB5 hq5 C3 CL
          by_cases hE : E = 0
          · subst hE
            have HIS := Lib.hid (HE1.out rfl hm)
            rw [show bs (laidL kE acc) = s by rw [(HE1.out rfl hm).2]; exact bs_self s]
            go_wp2_with fail
            refine C4.mono ?_
            rintro e w6 ⟨rfl, hB6⟩
            go_wp2_with fail
            go_ret2
            exact ⟨.inl ⟨acc, _, HIS.out, rfl, by rw [HACC.out]; exact owns_later (owns_later (Joins.ownsRow_le HRW.out (Nat.le_of_lt hbl1)) HB5.out) hB6⟩, HWB.out.trans ((HB5.out.trans (hB6.mono HB5.out.size)).mono HWB.out.size)⟩
          · have hne : (E != 0) = true := by simpa using hE
            have HNN := Lib.hid (HN1.out (fun h => hE h.1))
            go_wp2_with fail
            refine C4.mono ?_
            rintro e w6 ⟨rfl, hB6⟩
            go_wp2_with fail
            go_ret2
            exact ⟨.inr ⟨HNN.out, rfl⟩, HWB.out.trans ((HB5.out.trans (hB6.mono HB5.out.size)).mono HWB.out.size)⟩
        · rw [layV_no hm] at CL
          go_wp2_with fail
          refine CL.mono ?_
          rintro e w5 ⟨rfl, hB5⟩
          have HB5 := Lib.hid hB5
          have hq5 := (hB5.block _ (lt_of_heap HM.out.here)).trans HM.out.here
          have C4 := C3 w5 hq5
          clear hB5 hq5 C3 CL
          by_cases hE : E = 0
          · subst hE
            have HNN := Lib.hid (HN1.out (fun h => hm h.2))
            go_wp2_with fail
            refine C4.mono ?_
            rintro e w6 ⟨rfl, hB6⟩
            go_wp2_with fail
            go_ret2
            exact ⟨.inr ⟨HNN.out, rfl⟩, HWB.out.trans ((HB5.out.trans (hB6.mono HB5.out.size)).mono HWB.out.size)⟩
          · have hne : (E != 0) = true := by simpa using hE
            have HNN := Lib.hid (HN1.out (fun h => hE h.1))
            go_wp2_with fail
            refine C4.mono ?_
            rintro e w6 ⟨rfl, hB6⟩
            go_wp2_with fail
            go_ret2
            exact ⟨.inr ⟨HNN.out, rfl⟩, HWB.out.trans ((HB5.out.trans (hB6.mono HB5.out.size)).mono HWB.out.size)⟩
end Go.Proofs.YtfokdmijkniomaaGreatDoor.WT

