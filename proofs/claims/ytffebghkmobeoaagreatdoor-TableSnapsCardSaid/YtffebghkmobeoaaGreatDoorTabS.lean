/-
  The reference: numbers' bytes, a blob that may be.
-/
import Derived.Test.YtffebghkmobeoaaGreatDoorTabN
import Derived.Test.YtffebghkmobeoaaGreatDoorWirR
namespace Go.Proofs.YtffebghkmobeoaaGreatDoor
open Go.RowKit Go

set_option maxRecDepth 100000 in
set_option maxHeartbeats 1000000 in
theorem rblob_any (r s : Int) (w : World) :
    Calls Tryz.prog 14 #[blobV r s] w fun e w' => e = .returned (.bool (blobB r s)) ∧ Below w.heap.size w w' := by
  obtain ⟨z, hz⟩ : ∃ z, blobB r s = z := ⟨_, rfl⟩
  rw [hz]
  unfold blobB at hz
  unfold blobV
  have HB := Lib.hid ((Below.refl _ w).alloc (Nat.le_refl _) (.cells #[.int .i64 r, .int .i64 s] 33))
  by_cases h : s = 0
  · rw [if_pos h] at hz
    have HE := Lib.hid (show z = (r == 0) by rw [← hz]; rfl)
    clear hz
    subst h
    go_enter Tryz.func14, Tryz.ntmps14
    go_wp2
    go_ret
    exact ⟨by rw [HE.out]; rfl, HB.out⟩
  · rw [if_neg h] at hz
    have HE := Lib.hid (show z = (decide (1 ≤ s) && decide (s ≤ 16384) && (decide (1 ≤ r) && decide (r ≤ 4095))) by rw [← hz]; rfl)
    clear hz
    by_cases h1 : 0 < s
    · have h1' : 1 ≤ s := by omega
      by_cases h2 : s ≤ 16384
      · by_cases h3 : 1 ≤ r
        · have HF := Lib.hid (show z = decide (r ≤ 4095) by rw [HE.out, decide_eq_true h1', decide_eq_true h2, decide_eq_true h3]; simp)
          clear HE h1'
          go_enter Tryz.func14, Tryz.ntmps14
          go_wp2
          go_ret
          exact ⟨by rw [HF.out]; rfl, HB.out⟩
        · have HF := Lib.hid (show z = false by rw [HE.out, decide_eq_false h3]; simp)
          clear HE h1'
          go_enter Tryz.func14, Tryz.ntmps14
          go_wp2
          go_ret
          exact ⟨by rw [HF.out]; rfl, HB.out⟩
      · have HF := Lib.hid (show z = false by rw [HE.out, decide_eq_false h2]; simp)
        clear HE h1'
        go_enter Tryz.func14, Tryz.ntmps14
        go_wp2
        go_ret
        exact ⟨by rw [HF.out]; rfl, HB.out⟩
    · have HF := Lib.hid (show z = false by rw [HE.out, decide_eq_false (show ¬ 1 ≤ s by omega)]; simp)
      clear HE
      go_enter Tryz.func14, Tryz.ntmps14
      go_wp2
      go_ret
      exact ⟨by rw [HF.out]; rfl, HB.out⟩

set_option maxRecDepth 100000 in
set_option maxHeartbeats 2000000 in
theorem rnums_any (v : Value) (zs : List Int) (hz : zs.length ≤ 1000) (hg : ∀ z ∈ zs, good z) (w : World) (h : IntsAt w v zs) :
    Calls Tryz.prog 12 #[v] w fun e w' => e = .returned (.string (bs (layL (zs.map Int.toNat)))) ∧ Below w.heap.size w w' := by
  obtain ⟨a, cap, rfl, hc⟩ := h.split
  have HC := Lib.hid hc
  have HG := Lib.hid hg
  clear hc hg h
  obtain ⟨N, hN⟩ : ∃ N, zs.length = N := ⟨_, rfl⟩
  rw [hN] at hz ⊢
  have HN := Lib.hid hN
  clear hN
  go_enter Tryz.func12, Tryz.ntmps12
  go_wp2
  go_loopw [3, 4] (fun v i wr => ∃ (k : Nat) (S : ByteArray), k ≤ N ∧ i = .int .i64 k ∧ v = .string S ∧ S.size ≤ 9 * k ∧ S = bs (layL ((zs.take k).map Int.toNat)) ∧ Below w.heap.size w wr) (fun _ i _ => N - (intOf i).toNat)
  case atStart => exact ⟨0, ⟨#[]⟩, Nat.zero_le _, rfl, rfl, Nat.le_refl _, rfl, Below.refl _ _⟩
  case round =>
    obtain ⟨k, S, hk, rfl, rfl, hS, hfl, hB⟩ := hrel
    have HF := Lib.hid hfl
    have HB := Lib.hid hB
    clear hfl hB
    by_cases hlt : k < N
    · have hlt' : k < zs.length := by rw [HN.out]; exact hlt
      obtain ⟨b, off, rfl, hb, hcells⟩ := HC.out (by intro e; rw [e] at hlt'; simp at hlt')
      have hk1 : (k : Int) < (N : Int) := by omega
      have hcell : wr.cell? ⟨b, off + k, none⟩ = some (.int .i64 zs[k]) := by
        rw [World.cell?_of_block (w := w) (HB.out.block b hb)]; exact hcells k hlt'
      have HZ := Lib.hid (HG.out zs[k] (List.getElem_mem _))
      have HT := Lib.hid (show zs.take (k + 1) = zs.take k ++ [zs[k]] from List.take_succ_eq_append_getElem hlt')
      have C := fun w => refnum_any zs[k] w
      rw [numW_good HZ.out] at C
      have hd : (dg zs[k].toNat).length ≤ 9 := dg_9 (by have := HZ.out; unfold good at this; omega)
      generalize zs[k] = z at *
      obtain ⟨D, hD⟩ : ∃ D, bs (dg z.toNat) = D := ⟨_, rfl⟩
      have hDs : D.size ≤ 9 := by rw [← hD, bs_size]; exact hd
      rw [hD] at C
      have HD := Lib.hid hD
      have nsum : ¬ 9223372036854775807 < S.size + D.size := by omega
      have HSZ := Lib.hid (show (S ++ D).size ≤ 9 * (k + 1) by rw [ByteArray.size_append]; omega)
      clear hcells hd hD
      go_wp2_with fail
      refine (C _).mono ?_
      rintro e w2 ⟨rfl, hB2⟩
      have HB2 := Lib.hid (HB.out.trans (hB2.mono HB.out.size))
      clear hB2 C
      go_wp2_with fail
      go_roundw
      case rel => exact ⟨k + 1, S ++ D, by omega, by go_num, rfl, HSZ.out, by rw [HF.out, HT.out, List.map_append, layL_append, bs_append, ← HD.out]; simp [layL], HB2.out⟩
      case measure => simp [intOf]; omega
    · obtain rfl : k = N := by omega
      have hfull : zs.take k = zs := List.take_of_length_le (by rw [HN.out]; exact Nat.le_refl _)
      have HF2 := Lib.hid (show S = bs (layL (zs.map Int.toNat)) by rw [HF.out, hfull])
      clear hfull
      go_wp2_with fail
      go_ret
      exact ⟨by rw [← HF2.out]; rfl, HB.out⟩
end Go.Proofs.YtffebghkmobeoaaGreatDoor

