/-
  lay: a form's word and a command's fields.
-/
import Derived.Test.YtmloljjllmmkoaaDoorCmdE
namespace Go.Proofs.YtmloljjllmmkoaaDoor
open Go.RowKit Go

theorem owns_made (w : World) {B : Nat} (hB : B ≤ w.heap.size) (x : Value) (t : TypeId) : (w.alloc (.cells #[x] t)).ownsRow B t 1 (.slice (some ⟨w.heap.size, 0, none⟩) 1 1) 1 [x] :=
  ⟨rfl, .inr ⟨w.heap.size, 1, #[x], rfl, hB, heap_alloc_new _ _, Nat.le_refl _, by unfold maxLen; omega, rfl, rfl⟩⟩
theorem words_take (k i : Nat) (c : Cmd) (h : i < (fldK k).length) : strVs (wordK k :: ((fldK k).take (i + 1)).map (fldLay c)) = strVs (wordK k :: ((fldK k).take i).map (fldLay c)) ++ [.string (fldLay c (fldK k)[i])] := by
  rw [List.take_succ_eq_append_getElem h, List.map_append, List.map_singleton, ← List.cons_append, strVs_snoc]
theorem fields_cell {w : World} {g k i : Nat} (h : w.heap[g]? = some (fieldsObj ((fldK k).map fldN))) (hi : i < (fldK k).length) : w.cell? ⟨g, i, none⟩ = some (.int .i64 (fldN (fldK k)[i])) := by
  unfold fieldsObj at h
  simp [World.cell?, h, hi]
/-- a row of texts is no command -/
theorem row_not_cmd {w : World} {B b n : Nat} {v : Value} {xs : List Value} {c : Cmd} (h : w.ownsRow B 9 1 v n xs) (k : CmdAt c b w) : v.ownBlock ≠ some b := by
  intro e
  obtain ⟨C, hC⟩ := owns_block h e
  have := k.obj
  rw [hC] at this
  unfold CmdObj at this
  simp at this
set_option maxRecDepth 100000 in
set_option maxHeartbeats 4000000 in
theorem lay_any (k : Nat) (hk : k < 9) (c : Cmd) (hc : CmdIn c) (hd : c.data.size ≤ 512) (hlen : (lineK k c).length ≤ 140737488355328) (g : Nat) (w : World) (hfa : w.heap[g]? = some (fieldsObj ((fldK k).map fldN))) (hg : GE w) :
    Calls Tryd.prog 22 #[formV (wordK k) g (fldK k).length, cmdV c] w fun e w' => e = .returned (.string (bs (lineK k c))) ∧ Below w.heap.size w w' := by
  obtain ⟨W0, hW0⟩ : ∃ W0, wordK k = W0 := ⟨_, rfl⟩
  obtain ⟨m, hm⟩ : ∃ m, (fldK k).length = m := ⟨_, rfl⟩
  have hm3 : m ≤ 3 := by rw [← hm]; exact (fldK_len hk).2
  obtain ⟨w1, hw1⟩ : ∃ w1, w.alloc (.cells #[.string W0, .slice (some ⟨g, 0, none⟩) m m] 45) = w1 := ⟨_, rfl⟩
  have hB1 : Below w.heap.size w w1 := by rw [← hw1]; exact (Below.refl _ w).alloc (Nat.le_refl _) _
  have hx1 : w1.heap[w.heap.size]? = some (.cells #[.string W0, .slice (some ⟨g, 0, none⟩) m m] 45 (0, 0)) := by rw [← hw1]; exact heap_alloc_new _ _
  obtain ⟨w2, hw2⟩ : ∃ w2, w1.alloc (CmdObj c) = w2 := ⟨_, rfl⟩
  have hB2 : Below w1.heap.size w1 w2 := by rw [← hw2]; exact (Below.refl _ w1).alloc (Nat.le_refl _) _
  have hx2 := keeps_of hB2 hx1
  have hat2 : CmdAt c w1.heap.size w2 := by rw [← hw2]; exact .new _ _
  obtain ⟨w3, hw3⟩ : ∃ w3, w2.alloc (.cells #[.string W0] 9) = w3 := ⟨_, rfl⟩
  have hB3 : Below w2.heap.size w2 w3 := by rw [← hw3]; exact (Below.refl _ w2).alloc (Nat.le_refl _) _
  have hs12 : w.heap.size ≤ w2.heap.size := Nat.le_trans hB1.size hB2.size
  have hrow3 : w3.ownsRow w.heap.size 9 1 (.slice (some ⟨w2.heap.size, 0, none⟩) 1 1) 1 [.string W0] := by rw [← hw3]; exact owns_made w2 hs12 _ _
  have p0 : w2.cell? ⟨w.heap.size, 0, none⟩ = some (.string W0) := by simp [World.cell?, hx2]
  have p1 : w3.cell? ⟨w.heap.size, 1, none⟩ = some (.slice (some ⟨g, 0, none⟩) m m) := by have := keeps_of hB3 hx2; simp [World.cell?, this]
  have hB13 : Below w.heap.size w w3 := (hB1.trans (hB2.mono hB1.size)).trans (hB3.mono hs12)
  have HB13 := Lib.hid hB13
  have HA := Lib.hid (hat2.later hB3)
  have HFA := Lib.hid (show ∀ W, Below w.heap.size w W → ∀ i (h : i < (fldK k).length), W.cell? ⟨g, i, none⟩ = some (.int .i64 (fldN (fldK k)[i])) from fun W h i hi => fields_cell (keeps_of h hfa) hi)
  have HL := Lib.hid hlen
  have HM := Lib.hid hm
  have HW0 := Lib.hid hW0
  have HG := Lib.hid hg
  have HC := Lib.hid hc
  have hR0 : Hid (w3.ownsRow w.heap.size 9 1 (.slice (some ⟨w2.heap.size, 0, none⟩) 1 1) (0 + 1) (strVs (wordK k :: ((fldK k).take 0).map (fldLay c)))) := Lib.hid (by rw [hW0]; exact hrow3)
  obtain ⟨i0, hi, hz0, hz1, hz2⟩ := info_parts info9
  have hsz3 := hB13.size
  unfold formV
  rw [hW0, hm]
  unfold cmdV
  unfold CmdObj at hw2
  clear hx1 hx2 hat2 hB1 hB2 hB3 hB13 hrow3 hfa hg hc hlen hm hW0
  go_enter Tryd.func22, Tryd.ntmps22
  go_wp2
  go_loopw [5, 14] (fun v i wr => ∃ j : Nat, j ≤ m ∧ i = .int .i64 j ∧ Hid (wr.ownsRow w.heap.size 9 1 v (j + 1) (strVs (wordK k :: ((fldK k).take j).map (fldLay c)))) ∧ Hid (Below w.heap.size w wr) ∧ Hid (CmdAt c w1.heap.size wr)) (fun _ i _ => m - (intOf i).toNat)
  case atStart => exact ⟨0, Nat.zero_le _, rfl, hR0, HB13, HA⟩
  case round =>
    clear hw1 hw2 hw3 p0 p1
    obtain ⟨j, hj, rfl, HR, HB, HAr⟩ := hrel
    by_cases hlt : j < m
    · have hji : (j : Int) < (m : Int) := by omega
      have hjl : j < (fldK k).length := by rw [HM.out]; exact hlt
      have hcell := HFA.out wr HB.out j hjl
      have HS := Lib.hid (words_take k j c hjl)
      obtain ⟨c0, c1, c2, c3, c4⟩ := HAr.out.cells
      have CF := fldLay_any (fldK k)[j] c HC.out hd wr (HG.out.below HB.out)
      unfold cmdV at CF
      generalize fldLay c (fldK k)[j] = X at *
      generalize fldN (fldK k)[j] = F at *
      have hsz := HB.out.size
      clear hjl
      go_wp2_with fail
      refine CF.mono ?_
      rintro e w4 ⟨rfl, hB4⟩
      have hrow4 := owns_keep HR.out (fun b hb => hB4.block b (HR.out.lt b hb).2)
      have HB4 := Lib.hid (HB.out.trans (hB4.mono hsz))
      have HA4 := Lib.hid (HAr.out.later hB4)
      have hsz4 := Nat.le_trans hsz hB4.size
      clear hB4 CF c0 c1 c2 c3 c4 hcell
      go_wp2_with (at_builtin; go_loud (refine wpList_append_own _ rfl _ _ 22 rfl w.heap.size 9 i0 (.string ⟨#[]⟩) 1 16 Tryd.underlying22 hi hz0 hz1 hz2 rfl (by decide) _ _ _ rfl (hrow4.alloc _) ⟨w4.heap.size, 0, none⟩ 1 1 [.string X] rfl rfl (cell_one_made _ _ _) (by simp [Value.oneCell']) (by unfold maxLen; omega) (by omega) (Nat.le_trans hsz4 (by simp)) ?_; intro v' w5 hown' hgrow _; have HB5 := Lib.hid (HB4.out.trans (((Below.refl _ w4).alloc hsz4 _).grown hgrow (by simp; omega) (fun j ej => (hrow4.lt j ej).1))); have HO := Lib.hid hown'; have HA5 := Lib.hid (show CmdAt c w1.heap.size w5 from ⟨(hgrow.block w1.heap.size (Nat.lt_of_lt_of_le (lt_of_heap HA4.out.obj) (by simp)) (Ne.symm (row_not_cmd hrow4 HA4.out))).trans (heap_alloc_old HA4.out.obj _)⟩); clear hown' hgrow))
      go_roundw
      case rel => exact ⟨j + 1, hlt, by go_num, Lib.hid (by rw [HS.out]; exact HO.out), HB5, HA5⟩
      case measure => simp [intOf]; omega
    · obtain rfl : j = m := by omega
      have hl : (fldK k).take j = fldK k := List.take_of_length_le (by rw [HM.out]; exact Nat.le_refl _)
      have hrow := HR.out
      rw [hl] at hrow
      have hwl : (wordsC k c).length = j + 1 := by rw [fldLay_len, HM.out]
      have CJ := join_any _ (wordsC k c) wr w.heap.size (by rw [hwl]; exact hrow) (by simp [wordsC]) (by omega) HL.out
      have HB' := HB
      have hsz := HB.out.size
      clear hl hrow hwl
      go_wp2_with fail
      refine CJ.mono ?_
      rintro e w5 ⟨rfl, hB5⟩
      have HB5 := Lib.hid (HB.out.trans (hB5.mono hsz))
      clear hB5 CJ
      go_wp2
      go_ret
      exact ⟨rfl, HB5.out⟩
end Go.Proofs.YtmloljjllmmkoaaDoor

