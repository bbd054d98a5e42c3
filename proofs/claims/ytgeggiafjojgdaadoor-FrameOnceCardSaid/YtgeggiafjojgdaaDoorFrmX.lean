/-
  The calls whose answers the document fixes.
-/
import Derived.Test.YtgeggiafjojgdaaDoorFrmR
import Derived.Test.YtgeggiafjojgdaaDoorDigI0
namespace Go.Proofs.YtgeggiafjojgdaaDoor
open Go.RowKit Go

/-- a message that is stored into a variable of its own -/
theorem fr_box (c : Fr) (W : World) : ∃ w1 u1 u2 u3 u4,
    (W.alloc (.cells #[.int .i64 0, .int .i64 0, .int .i64 0, .string ⟨#[]⟩] 23) = w1 ∧ w1.setCell ⟨W.heap.size, 0, none⟩ (.int .i64 c.kind) = u1 ∧ u1.setCell ⟨W.heap.size, 1, none⟩ (.int .i64 c.ses) = u2 ∧ u2.setCell ⟨W.heap.size, 2, none⟩ (.int .i64 c.seq) = u3 ∧ u3.setCell ⟨W.heap.size, 3, none⟩ (.string c.body) = u4) ∧
    (w1.cell? ⟨W.heap.size, 0, none⟩ = some (.int .i64 0) ∧ u1.cell? ⟨W.heap.size, 1, none⟩ = some (.int .i64 0) ∧ u2.cell? ⟨W.heap.size, 2, none⟩ = some (.int .i64 0) ∧ u3.cell? ⟨W.heap.size, 3, none⟩ = some (.string ⟨#[]⟩)) ∧
    (w1.frozen? ⟨W.heap.size, 0, none⟩ = false ∧ u1.frozen? ⟨W.heap.size, 1, none⟩ = false ∧ u2.frozen? ⟨W.heap.size, 2, none⟩ = false ∧ u3.frozen? ⟨W.heap.size, 3, none⟩ = false) ∧ FrAt c W.heap.size u4 ∧ Below W.heap.size W u4 := by
  obtain ⟨w1, hw1⟩ : ∃ w1, W.alloc (FrObj fr0) = w1 := ⟨_, rfl⟩
  have hB1 : Below W.heap.size W w1 := by rw [← hw1]; exact (Below.refl _ W).alloc (Nat.le_refl _) _
  have ha1 : FrAt fr0 W.heap.size w1 := by rw [← hw1]; exact .new _ _
  obtain ⟨u1, u2, u3, u4, ⟨e1, e2, e3, e4⟩, hc, hf, ha, hs⟩ := fr_store c ha1
  exact ⟨w1, u1, u2, u3, u4, ⟨hw1, e1, e2, e3, e4⟩, hc, hf, ha, hB1.trans (hs.below (fun i hi => by subst hi; exact Nat.le_refl _) hB1.size)⟩

theorem dg2 : dg 2 = [2] := by rw [dg_lt (by decide)]; rfl
theorem dg1 : dg 1 = [1] := by rw [dg_lt (by decide)]; rfl
theorem dg7 : dg 7 = [7] := by rw [dg_lt (by decide)]; rfl
theorem dg300 : dg 300 = [172, 2] := by rw [dg_ge (by decide), show 300 / 128 = 2 from rfl, dg2]; rfl
def fx1 : Fr := ⟨7, 300, 1, ⟨#[97, 98]⟩⟩
theorem fx1_ok : FrOk fx1 := ⟨by decide, by decide, by decide, by decide, by decide, by decide, by decide⟩
theorem fx1_lay : layF fx1 = [7, 172, 2, 1, 2, 97, 98] := by
  show dg 7 ++ (dg 300 ++ (dg 1 ++ (dg 2 ++ [97, 98]))) = _
  rw [dg7, dg300, dg1, dg2]
  rfl
theorem fx1_size : (bs (sealL fx1)).size = 15 := by rw [bs_size, sealL, withSum_len, fx1_lay]; rfl
theorem fx1_head : (bs (sealL fx1)).extract 0 7 = ⟨#[7, 172, 2, 1, 2, 97, 98]⟩ := by
  apply ba_ext'
  rw [extract_take, bs_list, sealL, withSum, fx1_lay]
  rfl
theorem fx8 : ¬ Summed (List.replicate 8 (0 : UInt8)) := by
  rintro ⟨_, h⟩
  have : sumL [] = List.replicate 8 0 := h.symm
  revert this
  decide +kernel
theorem fx9 : ∀ g, FrOk g → withSum [8, 0, 0, 0] ≠ sealL g := by
  intro g hg e
  have h1 := withSum_inj e
  have h2 := (read_lay hg (m := 1073741824) (by omega)).1
  rw [← h1] at h2
  have h3 : (rd1 [8, 0, 0, 0] 1073741824).1 = 8 := by
    have h4 : [8, 0, 0, 0] = dg 8 ++ [0, 0, 0] := by rw [dg_lt (by decide)]; rfl
    rw [rd1, h4, numR_dg (by decide) (by omega)]
  have h5 : g.kind = 8 := by rw [← h2]; show ((rd1 [8, 0, 0, 0] 1073741824).1 : Int) = 8; rw [h3]; rfl
  have := hg.k1
  omega
def fx3 : Fr := ⟨8, 0, 0, ⟨#[]⟩⟩
theorem fx3_in : FrIn fx3 := ⟨by decide, by decide, by decide, by decide⟩
theorem fx3_no : ¬ FrOk fx3 := fun h => by have := h.k1; revert this; decide

set_option maxRecDepth 100000 in
set_option maxHeartbeats 8000000 in
theorem fixed_any (w : World) (hg : GE w) :
    Calls Tryd.prog 9 #[] w fun e w' => e = .returned (.bool true) ∧ Below w.heap.size w w' := by
  have HG := Lib.hid hg
  obtain ⟨w1, u1, u2, u3, w2, ⟨h1, e1, e2, e3, e4⟩, ⟨c1, c2, c3, c4⟩, ⟨f1, f2, f3, f4⟩, hat, hbl⟩ := fr_box fx1 w
  have HA := Lib.hid hat
  have HB := Lib.hid hbl
  have CS := fun w => seal_any fx1 fx1_ok.in_ w
  rw [sealV_ok fx1_ok] at CS
  have hsz := fx1_size
  have hhd := fx1_head
  have CO := fun w hg => open_any (bs (sealL fx1)) (by rw [hsz]; decide) w hg
  have CZ := fun w hg => open_any (bs (List.replicate 8 0)) (by decide) w hg
  have CS3 := fun w => seal_any fx3 fx3_in w
  rw [sealV_no fx3_no] at CS3
  have CR := fun w => rsealed_any ⟨#[8, 0, 0, 0]⟩ (by decide) w
  rw [show (⟨#[8, 0, 0, 0]⟩ : ByteArray).data.toList = [8, 0, 0, 0] from rfl] at CR
  have CO9 := fun w hg => open_any (bs (withSum [8, 0, 0, 0])) (by rw [bs_size, withSum_len]; decide) w hg
  obtain ⟨b, hbe, -, hb⟩ := fr_eql fx1 fx1
  have hgd := fun w => fr_guard fx1 fx1 w
  obtain rfl : b = true := hb.2 rfl
  rw [bs_list] at CO CZ CO9
  have HO := Lib.hid (fun g h (k : OpenIs (sealL fx1) g h) => k.uniq (.inr (.inl ⟨fx1_ok, rfl, rfl⟩)))
  have HZ := Lib.hid (fun g h (k : OpenIs (List.replicate 8 0) g h) => k.uniq (.inl ⟨fx8, rfl, rfl⟩))
  have H9 := Lib.hid (fun g h (k : OpenIs (withSum [8, 0, 0, 0]) g h) => k.uniq (.inr (.inr ⟨summed_with _, fx9, rfl, rfl⟩)))
  generalize sealL fx1 = L1 at *
  generalize withSum [8, 0, 0, 0] = L9 at *
  obtain ⟨S, hS⟩ : ∃ S, bs L1 = S := ⟨_, rfl⟩
  obtain ⟨S9, hS9⟩ : ∃ S, bs L9 = S := ⟨_, rfl⟩
  rw [hS] at CS CO hsz hhd
  rw [hS9] at CR CO9
  have hzl : (S.size : Int) = 15 := by rw [hsz]; rfl
  clear hat hbl hg hS hS9 hsz hb
  unfold fx1 at e1 e2 e3 e4
  unfold fx1 frV at CS hbe hgd
  unfold fx3 frV at CS3
  simp only at e1 e2 e3 e4
  go_enter Tryd.func9, Tryd.ntmps9
  obtain ⟨d0, d1, d2, d3⟩ := HA.out.cells
  unfold fx1 at d0 d1 d2 d3
  simp only at d0 d1 d2 d3
  go_wp2_with fail
  refine (CS _).mono ?_
  rintro e w3 ⟨rfl, hB3⟩
  have HB3 := Lib.hid (HB.out.trans (hB3.mono HB.out.size))
  have HA3 := Lib.hid (HA.out.later hB3)
  clear hB3 CS h1 e1 e2 e3 e4 c1 c2 c3 c4 f1 f2 f3 f4 d0 d1 d2 d3
  go_wp2_with fail
  refine (CO _ (HG.out.below HB3.out)).mono ?_
  rintro e w4 ⟨⟨g, h, -, ho, rfl⟩, hB4⟩
  obtain ⟨rfl, rfl⟩ := HO.out g h ho
  have HB4 := Lib.hid (HB3.out.trans (hB4.mono HB3.out.size))
  have HA4 := Lib.hid (HA3.out.later hB4)
  obtain ⟨w5, u1, u2, u3, w6, ⟨h1, e1, e2, e3, e4⟩, ⟨c1, c2, c3, c4⟩, ⟨f1, f2, f3, f4⟩, hat, hbl⟩ := fr_box fx1 w4
  have HA6 := Lib.hid hat
  have HAf := Lib.hid (HA4.out.later hbl)
  have HB6 := Lib.hid (HB4.out.trans (hbl.mono HB4.out.size))
  have hmk : (Instr.makeSlice 33 (.int .i64 8) (.int .i64 8)).run Tryd.prog w6 = .ok (.slice (some ⟨w6.heap.size, 0, none⟩) 8 8) (w6.alloc (.cells (madeCells #[.int .u8 0] 8) 5)) := DG.made_run w6 8 (by decide)
  have hcv := DG.conv_block (w6.alloc (.cells (madeCells #[.int .u8 0] 8) 5)) w6.heap.size 8 (madeCells #[.int .u8 0] 8) 5 (List.replicate 8 0) (heap_alloc_new _ _) (by simp) (DG.made_list 8)
  obtain ⟨w7, h7⟩ : ∃ w7, w6.alloc (.cells (madeCells #[.int .u8 0] 8) 5) = w7 := ⟨_, rfl⟩
  have hB7 : Below w6.heap.size w6 w7 := by rw [← h7]; exact (Below.refl _ w6).alloc (Nat.le_refl _) _
  rw [h7] at hmk hcv
  have HA7 := Lib.hid (HA6.out.later hB7)
  have HAg := Lib.hid (HAf.out.later hB7)
  have HB7 := Lib.hid (HB6.out.trans (hB7.mono HB6.out.size))
  have CZ := CZ w7 (HG.out.below HB7.out)
  change Calls _ _ #[.string (DG.bs (List.replicate 8 0))] _ _ at CZ
  unfold fx1 frV
  unfold fx1 at e1 e2 e3 e4
  simp only at e1 e2 e3 e4
  clear hB4 CO ho hat hbl hB7 h7
  go_wp2_with fail
  refine CZ.mono ?_
  rintro e w8 ⟨⟨g, h, -, ho, rfl⟩, hB8⟩
  obtain ⟨rfl, rfl⟩ := HZ.out g h ho
  have HB8 := Lib.hid (HB7.out.trans (hB8.mono HB7.out.size))
  have HA8 := Lib.hid (HA7.out.later hB8)
  have HAh := Lib.hid (HAg.out.later hB8)
  clear hB8 CZ ho h1 e1 e2 e3 e4 c1 c2 c3 c4 f1 f2 f3 f4 hmk hcv
  obtain ⟨w9, u1, u2, u3, wa, ⟨h1, e1, e2, e3, e4⟩, ⟨c1, c2, c3, c4⟩, ⟨f1, f2, f3, f4⟩, -, hbl⟩ := fr_box fr0 w8
  have HA9 := Lib.hid (HA8.out.later hbl)
  have HAi := Lib.hid (HAh.out.later hbl)
  have HBa := Lib.hid (HB8.out.trans (hbl.mono HB8.out.size))
  unfold fr0 frV
  unfold fr0 at e1 e2 e3 e4
  simp only at e1 e2 e3 e4
  clear hbl
  go_wp2_with fail
  refine (CS3 _).mono ?_
  rintro e wb ⟨rfl, hBb⟩
  have HBb := Lib.hid (HBa.out.trans (hBb.mono HBa.out.size))
  have HAb := Lib.hid (HA9.out.later hBb)
  have HAj := Lib.hid (HAi.out.later hBb)
  clear hBb CS3 h1 e1 e2 e3 e4 c1 c2 c3 c4 f1 f2 f3 f4
  go_wp2_with fail
  refine (CR _).mono ?_
  rintro e wc ⟨rfl, hBc⟩
  have HBc := Lib.hid (HBb.out.trans (hBc.mono HBb.out.size))
  have HAc := Lib.hid (HAb.out.later hBc)
  have HAk := Lib.hid (HAj.out.later hBc)
  clear hBc CR
  go_wp2_with fail
  refine (CO9 _ (HG.out.below HBc.out)).mono ?_
  rintro e wd ⟨⟨g, h, -, ho, rfl⟩, hBd⟩
  obtain ⟨rfl, rfl⟩ := H9.out g h ho
  have HBd := Lib.hid (HBc.out.trans (hBd.mono HBc.out.size))
  have HAd := Lib.hid (HAc.out.later hBd)
  have HAl := Lib.hid (HAk.out.later hBd)
  clear hBd CO9 ho
  obtain ⟨we, u1, u2, u3, wf, ⟨h1, e1, e2, e3, e4⟩, ⟨c1, c2, c3, c4⟩, ⟨f1, f2, f3, f4⟩, -, hbl⟩ := fr_box fr0 wd
  have HBe := Lib.hid (HBd.out.trans (hbl.mono HBd.out.size))
  obtain ⟨d0, d1, d2, d3⟩ := (HAd.out.later hbl).cells
  obtain ⟨g0, g1, g2, g3⟩ := (HAl.out.later hbl).cells
  unfold fx1 at d0 d1 d2 d3 g0 g1 g2 g3
  simp only at d0 d1 d2 d3 g0 g1 g2 g3
  unfold fr0 frV
  unfold fr0 at e1 e2 e3 e4
  simp only at e1 e2 e3 e4
  clear hbl
  go_wp2
  go_ret
  exact ⟨rfl, HBe.out⟩
end Go.Proofs.YtgeggiafjojgdaaDoor

