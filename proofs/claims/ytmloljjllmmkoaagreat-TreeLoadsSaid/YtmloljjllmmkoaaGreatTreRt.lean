/-
  The reference reads a tree: a visit.
-/
import Derived.Test.YtmloljjllmmkoaaGreatTreRs
import Derived.Test.YtmloljjllmmkoaaGreatTreRf
namespace Go.Proofs.YtmloljjllmmkoaaGreat
open Go.ChangeShapes Go.WideShapes Go.ChangeAt Go.RowKit Go.Shelf Go Go.Maps SM PL AL TR

/-- what a visit of the reference's does -/
def RtGood (B0 B q r c p s : Nat) (zs : List Int) (v0 v2 : Value) (ch : Bool) (l : Nat) : Prop :=
  ∀ (y : VS) (v : Int) (a N : Nat) (O : List Int) (D : ByteArray) (w : World), RVC q r B0 zs v0 v2 y c w → FineV y → y.disk.made < 900000000 → TrAt B p O D 0 N w → B ≤ w.heap.size → N + 2 * cnt l ≤ 100000 → (∃ h : l < (rowsL s).length, a < (rowsL s)[l]) → I64 v →
    Calls Tryz.prog 65 #[.pointer (some ⟨p, 0, none⟩), .pointer (some ⟨q, 0, none⟩), .int .i64 v, .int .i64 l, .int .i64 a, .int .i64 s, .bool ch] w fun e w' => e = .returned (.tuple #[]) ∧ (FineV (nd ch l y v (below s l a)).x ∧ (nd ch l y v (below s l a)).x.disk = y.disk) ∧
      RVC q r B0 zs v0 v2 (nd ch l y v (below s l a)).x c w' ∧ RT8 B0 B w w' ∧ ∃ O' D', TrAt B p O' D' (nd ch l y v (below s l a)).e (N + 2 * cnt l) w' ∧ ((nd ch l y v (below s l a)).e = 0 → O' = O ++ ordOf (nd ch l y v (below s l a)).vis ∧ D'.data.toList = D.data.toList ++ catOf (levOf 0 (nd ch l y v (below s l a)).vis))
theorem cnt_pos (l : Nat) : 1 ≤ cnt l := by cases l <;> simp [cnt]
section
variable {B0 B q r c p s : Nat} {zs : List Int} {v0 v2 : Value} {ch : Bool}
set_option maxRecDepth 100000 in
set_option maxHeartbeats 8000000 in
theorem rtread_step (hv2 : ∀ j, v2.ownBlock = some j → j < B) (hs : s ≤ 16384) (l : Nat) (hl : l ≤ 2) (ih : ∀ l', l = l' + 1 → RtGood B0 B q r c p s zs v0 v2 ch l') : RtGood B0 B q r c p s zs v0 v2 ch l := by
  intro y v a N O D w hr hf hm ht hB hN ha hv
  obtain ⟨R, hRq⟩ : ∃ R, nd ch l y v (below s l a) = R := ⟨_, rfl⟩
  rw [hRq]
  have HRq := Lib.hid hRq
  clear hRq
  obtain ⟨i0, hi, hz0, hz1, hz2⟩ := info_parts info3
  obtain ⟨ov, r2, r3, r4, hob, hrw, l3, l4, l5⟩ := ht.obj
  have hlen := ht.len
  have hdl := ht.dlen
  have hlow := ht.low
  obtain ⟨k, hk⟩ : ∃ k, O.length = k := ⟨_, rfl⟩
  rw [hk] at hrw hlen
  obtain ⟨g0, cap, rfl⟩ := row_shape hrw
  have hc1 := cnt_pos l
  have c0 := TrO.c0 hob
  have c5 := TrO.c5 hob
  have HPush := Lib.hid (fun w4 v' => pushO (w4 := w4) (v' := v') (v := v) hlow hob hrw hk hlen hdl l3 l4 l5)
  have HOb := Lib.hid hob
  have HRw := Lib.hid hrw
  have HR := Lib.hid hr
  have HF := Lib.hid hf
  have HBw := Lib.hid hB
  have HIh := Lib.hid ih
  have HA := Lib.hid ha
  have HVV := Lib.hid hv2
  have HPn := Lib.hid (show (Value.slice g0 k cap).ownBlock ≠ some p from fun e => by
    obtain ⟨C, hC⟩ := owns_block hrw e
    rw [hob] at hC
    simp [TrO] at hC)
  obtain ⟨z, hz⟩ : ∃ z : Int, (l : Int) = z := ⟨_, rfl⟩
  rw [hz]
  clear hr hf ht ha ih hv2 hob l3 l4 l5 hk
  go_enter Tryz.func65, Tryz.ntmps65
  go_upto_region 2 with (at_builtin; refine wpList_append_own_at _ rfl _ _ 34 rfl B 3 i0 (.int .i64 0) 1 8 Tryz.underlying34 hi hz0 hz1 hz2 rfl (by decide) (.slice g0 k cap) k _ rfl (HRw.out.alloc _) ⟨w.heap.size, 0, none⟩ 1 1 [.int .i64 v] rfl rfl (cell_one_new _ _ _) (by simp [Value.oneCell']) (by unfold maxLen; omega) (by omega) (by rw [World.size_alloc]; omega) ?_; intro v' w4 hown' hgrow _ hat; have hP := HPush.out w4 v' hown' hgrow hat; have e3 := TrO.c0 hP.1; have g3 := TrO.fr hP.1 0; have HP := Lib.hid hP; obtain ⟨g', cap', rfl⟩ := row_shape hown'; clear hP hown' hgrow hat)
  obtain ⟨w1, hw1⟩ : ∃ w1, w4.setCell ⟨p, 0, none⟩ (.slice g' (k + 1) cap') = w1 := ⟨_, rfl⟩
  have hP := HP.out.2
  rw [hw1] at hP ⊢
  have HT1 := Lib.hid hP.1
  have HR1 := Lib.hid (HR.out.own hP.2.1 hP.2.2 HVV.out)
  have HK1 := Lib.hid (RT8.of_own (B0 := B0) hP.2.1 hP.2.2)
  have HB1 := Lib.hid (Nat.le_trans HBw.out hP.2.1.size)
  clear hP HP e3 g3 hw1 c0 c5 HPush HOb HRw HR HPn hrw
  go_cut [] from 33 to 48 (fun wx => Hid (RVC q r B0 zs v0 v2 y c wx) ∧ Hid (TrAt B p (O ++ [v]) D 0 (N + 2) wx) ∧ Hid (RT8 B0 B w wx) ∧ Hid (B ≤ wx.heap.size))
  case first =>
    obtain ⟨u, L0, hL0, hcu, hru⟩ := HT1.out.level (j := l) (by omega)
    obtain ⟨ov1, q2, q3, q4, hob1, _⟩ := HT1.out.obj
    obtain ⟨n0, hn0⟩ : ∃ n0, L0.length = n0 := ⟨_, rfl⟩
    rw [hn0] at hL0 hru
    have bA : Below w1.heap.size w1 (w1.drew.alloc (.cells #[] 3)) := (Below.refl _ w1).drew.alloc (Nat.le_refl _) _
    have bAB : Below w1.heap.size w1 ((w1.drew.alloc (.cells #[] 3)).alloc (.cells #[.int .i64 v] 3)) := bA.alloc (by simp) _
    have bBA : Below w1.heap.size w1 ((w1.drew.alloc (.cells #[.int .i64 v] 3)).alloc (.cells #[] 3)) := ((Below.refl _ w1).drew.alloc (Nat.le_refl _) _).alloc (by simp) _
    have oA : (w1.drew.alloc (.cells #[] 3)).ownsRow w1.heap.size 3 1 (.slice (some ⟨w1.heap.size, 0, none⟩) 0 0) 0 [] := World.ownsRow_made w1.drew #[] 0 (Nat.le_refl _) (by unfold maxLen; omega) (by simp)
    have oAB := oA.alloc (.cells #[.int .i64 v] 3)
    have oBA : ((w1.drew.alloc (.cells #[.int .i64 v] 3)).alloc (.cells #[] 3)).ownsRow w1.heap.size 3 1 (.slice (some ⟨w1.heap.size + 1, 0, none⟩) 0 0) 0 [] := by
      have := World.ownsRow_made (base := w1.heap.size) (e := 3) (size := 1) (w1.drew.alloc (.cells #[.int .i64 v] 3)) #[] 0 (by simp) (by unfold maxLen; omega) (by simp)
      have e : (w1.drew.alloc (.cells #[.int .i64 v] 3)).heap.size = w1.heap.size + 1 := by simp
      rw [e] at this
      exact this
    have OA := Lib.hid (And.intro oA (And.intro (owns_below hru bA) bA))
    have OAB := Lib.hid (And.intro oAB (And.intro (owns_below hru bAB) bAB))
    have OBA := Lib.hid (And.intro oBA (And.intro (owns_below hru bBA) bBA))
    have qAB := Lib.hid (show ((w1.drew.alloc (.cells #[] 3)).alloc (.cells #[.int .i64 v] 3)).heap[w1.heap.size + 1]? = some (.cells #[.int .i64 v] 3) by
      have := heap_alloc_new (w1.drew.alloc (.cells #[] 3)) (.cells #[.int .i64 v] 3)
      have e : (w1.drew.alloc (.cells #[] 3)).heap.size = w1.heap.size + 1 := by simp
      rw [e] at this
      exact this)
    have qBA := Lib.hid (show ((w1.drew.alloc (.cells #[.int .i64 v] 3)).alloc (.cells #[] 3)).heap[w1.heap.size]? = some (.cells #[.int .i64 v] 3) from heap_alloc_old (heap_alloc_new w1.drew _) _)
    have HO1 := Lib.hid hob1
    have HN0 := Lib.hid hn0
    have HVal := Lib.hid (show intVals (L0 ++ [v]) = intVals L0 ++ [.int .i64 v] by simp [intVals])
    have HLn := Lib.hid (show (L0 ++ [v]).length = n0 + 1 by simp [hn0])
    have HOne := Lib.hid (vals_one L0)
    have HFin := Lib.hid (show ∀ (w3 : World) (v3 : Value), w3.ownsRow w1.heap.size 3 1 v3 (n0 + 1) (intVals L0 ++ [.int .i64 v]) → Below w1.heap.size w1 w3 → RVC q r B0 zs v0 v2 y c (w3.setCell ⟨p, 2 + l, none⟩ v3) ∧ TrAt B p (O ++ [v]) D 0 (N + 2) (w3.setCell ⟨p, 2 + l, none⟩ v3) ∧ RT8 B0 B w (w3.setCell ⟨p, 2 + l, none⟩ v3) ∧ B ≤ (w3.setCell ⟨p, 2 + l, none⟩ v3).heap.size from fun w3 v3 h1 h2 => by
      have h3 := HT1.out.below h2
      have h4 := h3.set (2 + l) v3
      rw [← HVal.out, ← HLn.out] at h1
      exact ⟨(HR1.out.below h2).own h4.1 h4.2 HVV.out, (HT1.out.le (show N + 1 ≤ N + 2 by omega)).setL h2 (L := L0 ++ [v]) (by rw [HLn.out]; omega) HB1.out h1 (by omega), HK1.out.trans ((RT8.of_below h2).trans (RT8.of_own h4.1 h4.2)), Nat.le_trans HB1.out (Nat.le_trans h2.size h4.1.size)⟩)
    clear bA bAB bBA oA oAB oBA hru hob1 hn0
    rcases (show l = 0 ∨ l = 1 ∨ l = 2 by omega) with rfl | rfl | rfl
    · obtain rfl : z = 0 := by omega
      have cu : w1.cell? ⟨p, 2, none⟩ = some u := hcu
      clear hcu hz
      have cuA : (w1.alloc (.cells #[] 3)).cell? ⟨p, 2, none⟩ = some u := (World.cell?_alloc_lt _ _ _ (World.block_lt_of_cell? w1 _ cu)).trans cu
      have cuB : (w1.alloc (.cells #[.int .i64 v] 3)).cell? ⟨p, 2, none⟩ = some u := (World.cell?_alloc_lt _ _ _ (World.block_lt_of_cell? w1 _ cu)).trans cu
      have cuAB : ((w1.alloc (.cells #[] 3)).alloc (.cells #[.int .i64 v] 3)).cell? ⟨p, 2, none⟩ = some u := (World.cell?_alloc_lt _ _ _ (World.block_lt_of_cell? _ _ cuA)).trans cuA
      have cuBA : ((w1.alloc (.cells #[.int .i64 v] 3)).alloc (.cells #[] 3)).cell? ⟨p, 2, none⟩ = some u := (World.cell?_alloc_lt _ _ _ (World.block_lt_of_cell? _ _ cuB)).trans cuB
      go_region_law (first
        | (refine step_append_row _ (by rfl) (.tmp 35) (.tmp 41) _ (by rfl) w1.heap.size 3 i0 (.int .i64 0) 1 8 Tryz.underlying34 hi hz0 hz1 hz2 rfl (by decide) _ 0 [] (by rfl) OA.out.1 B u n0 (intVals L0) (by rfl) OA.out.2.1 HOne.out (by unfold maxLen; omega) (by omega) OA.out.2.2.size ?_; intro v2' w2 hown2 hgrow2; have B2 := Lib.hid (OA.out.2.2.grown hgrow2 OA.out.2.2.size (fun j e => (OA.out.1.lt j e).1)); rw [Nat.zero_add, List.nil_append] at hown2; have own2A := Lib.hid hown2; obtain ⟨a2, cap2, rfl⟩ := row_shape hown2; clear hown2 hgrow2)
        | (refine step_append_row _ (by rfl) (.tmp 35) (.tmp 41) _ (by rfl) w1.heap.size 3 i0 (.int .i64 0) 1 8 Tryz.underlying34 hi hz0 hz1 hz2 rfl (by decide) _ 0 [] (by rfl) OAB.out.1 B u n0 (intVals L0) (by rfl) OAB.out.2.1 HOne.out (by unfold maxLen; omega) (by omega) OAB.out.2.2.size ?_; intro v2' w2 hown2 hgrow2; have B2 := Lib.hid (OAB.out.2.2.grown hgrow2 OAB.out.2.2.size (fun j e => (OAB.out.1.lt j e).1)); have q2 := Lib.hid ((hgrow2.block (w1.heap.size + 1) (by first | (simp; done) | (simp; omega)) (by simp [Value.ownBlock])).trans qAB.out); rw [Nat.zero_add, List.nil_append] at hown2; have own2B := Lib.hid hown2; have vN := Lib.hid (rfl : w1.heap.size + 1 = w1.heap.size + 1); obtain ⟨a2, cap2, rfl⟩ := row_shape hown2; clear hown2 hgrow2)
        | (refine step_append_row _ (by rfl) (.tmp 35) (.tmp 41) _ (by rfl) w1.heap.size 3 i0 (.int .i64 0) 1 8 Tryz.underlying34 hi hz0 hz1 hz2 rfl (by decide) _ 0 [] (by rfl) OBA.out.1 B u n0 (intVals L0) (by rfl) OBA.out.2.1 HOne.out (by unfold maxLen; omega) (by omega) OBA.out.2.2.size ?_; intro v2' w2 hown2 hgrow2; have B2 := Lib.hid (OBA.out.2.2.grown hgrow2 OBA.out.2.2.size (fun j e => (OBA.out.1.lt j e).1)); have q2 := Lib.hid ((hgrow2.block (w1.heap.size) (by first | (simp; done) | (simp; omega)) (by simp [Value.ownBlock])).trans qBA.out); rw [Nat.zero_add, List.nil_append] at hown2; have own2C := Lib.hid hown2; obtain ⟨a2, cap2, rfl⟩ := row_shape hown2; clear hown2 hgrow2)
        | (refine step_append_own _ (by rfl) (.tmp 42) (.tmp 44) _ (by rfl) w1.heap.size 3 i0 (.int .i64 0) 1 8 Tryz.underlying34 hi hz0 hz1 hz2 rfl (by decide) _ n0 _ (by rfl) (own2A.out.alloc _) ⟨w2.heap.size, 0, none⟩ 1 1 [.int .i64 v] (by rfl) rfl (cell_one_new _ _ _) (by simp [Value.oneCell']) (by unfold maxLen; omega) (by omega) (Nat.le_trans B2.out.size (by simp)) ?_; intro v3 w3 hown3 hgrow3 _ _; have B3 := Lib.hid ((B2.out.alloc B2.out.size _).grown hgrow3 (Nat.le_trans B2.out.size (by simp)) (fun j e => (own2A.out.lt j e).1)); obtain ⟨a3, cap3, rfl⟩ := row_shape hown3; have ho3 := keeps_of B3.out HO1.out; have d1 := TrO.c2 ho3; have d2 := TrO.fr ho3 2; have Fin := Lib.hid (HFin.out w3 _ hown3 B3.out); clear ho3 hown3 hgrow3)
        | (refine step_append_own _ (by rfl) (.tmp 42) (.tmp 44) _ (by rfl) w1.heap.size 3 i0 (.int .i64 0) 1 8 Tryz.underlying34 hi hz0 hz1 hz2 rfl (by decide) _ n0 _ (by rfl) (own2B.out) ⟨w1.heap.size + 1, 0, none⟩ 1 1 [.int .i64 v] (by rfl) rfl (cell_one_at q2.out) (by simp [Value.oneCell']) (by unfold maxLen; omega) (by omega) (B2.out.size) ?_; intro v3 w3 hown3 hgrow3 _ _; have B3 := Lib.hid ((B2.out).grown hgrow3 (B2.out.size) (fun j e => (own2B.out.lt j e).1)); obtain ⟨a3, cap3, rfl⟩ := row_shape hown3; have ho3 := keeps_of B3.out HO1.out; have d1 := TrO.c2 ho3; have d2 := TrO.fr ho3 2; have Fin := Lib.hid (HFin.out w3 _ hown3 B3.out); clear ho3 hown3 hgrow3)
        | (refine step_append_own _ (by rfl) (.tmp 42) (.tmp 44) _ (by rfl) w1.heap.size 3 i0 (.int .i64 0) 1 8 Tryz.underlying34 hi hz0 hz1 hz2 rfl (by decide) _ n0 _ (by rfl) (own2C.out) ⟨w1.heap.size, 0, none⟩ 1 1 [.int .i64 v] (by rfl) rfl (cell_one_at q2.out) (by simp [Value.oneCell']) (by unfold maxLen; omega) (by omega) (B2.out.size) ?_; intro v3 w3 hown3 hgrow3 _ _; have B3 := Lib.hid ((B2.out).grown hgrow3 (B2.out.size) (fun j e => (own2C.out.lt j e).1)); obtain ⟨a3, cap3, rfl⟩ := row_shape hown3; have ho3 := keeps_of B3.out HO1.out; have d1 := TrO.c2 ho3; have d2 := TrO.fr ho3 2; have Fin := Lib.hid (HFin.out w3 _ hown3 B3.out); clear ho3 hown3 hgrow3))
      all_goals (go_wp2_with fail; go_meet; exact ⟨Lib.hid Fin.out.1, Lib.hid Fin.out.2.1, Lib.hid Fin.out.2.2.1, Lib.hid Fin.out.2.2.2⟩)
    · obtain rfl : z = 1 := by omega
      have cu : w1.cell? ⟨p, 3, none⟩ = some u := hcu
      clear hcu hz
      have cuA : (w1.alloc (.cells #[] 3)).cell? ⟨p, 3, none⟩ = some u := (World.cell?_alloc_lt _ _ _ (World.block_lt_of_cell? w1 _ cu)).trans cu
      have cuB : (w1.alloc (.cells #[.int .i64 v] 3)).cell? ⟨p, 3, none⟩ = some u := (World.cell?_alloc_lt _ _ _ (World.block_lt_of_cell? w1 _ cu)).trans cu
      have cuAB : ((w1.alloc (.cells #[] 3)).alloc (.cells #[.int .i64 v] 3)).cell? ⟨p, 3, none⟩ = some u := (World.cell?_alloc_lt _ _ _ (World.block_lt_of_cell? _ _ cuA)).trans cuA
      have cuBA : ((w1.alloc (.cells #[.int .i64 v] 3)).alloc (.cells #[] 3)).cell? ⟨p, 3, none⟩ = some u := (World.cell?_alloc_lt _ _ _ (World.block_lt_of_cell? _ _ cuB)).trans cuB
      go_region_law (first
        | (refine step_append_row _ (by rfl) (.tmp 35) (.tmp 41) _ (by rfl) w1.heap.size 3 i0 (.int .i64 0) 1 8 Tryz.underlying34 hi hz0 hz1 hz2 rfl (by decide) _ 0 [] (by rfl) OA.out.1 B u n0 (intVals L0) (by rfl) OA.out.2.1 HOne.out (by unfold maxLen; omega) (by omega) OA.out.2.2.size ?_; intro v2' w2 hown2 hgrow2; have B2 := Lib.hid (OA.out.2.2.grown hgrow2 OA.out.2.2.size (fun j e => (OA.out.1.lt j e).1)); rw [Nat.zero_add, List.nil_append] at hown2; have own2A := Lib.hid hown2; obtain ⟨a2, cap2, rfl⟩ := row_shape hown2; clear hown2 hgrow2)
        | (refine step_append_row _ (by rfl) (.tmp 35) (.tmp 41) _ (by rfl) w1.heap.size 3 i0 (.int .i64 0) 1 8 Tryz.underlying34 hi hz0 hz1 hz2 rfl (by decide) _ 0 [] (by rfl) OAB.out.1 B u n0 (intVals L0) (by rfl) OAB.out.2.1 HOne.out (by unfold maxLen; omega) (by omega) OAB.out.2.2.size ?_; intro v2' w2 hown2 hgrow2; have B2 := Lib.hid (OAB.out.2.2.grown hgrow2 OAB.out.2.2.size (fun j e => (OAB.out.1.lt j e).1)); have q2 := Lib.hid ((hgrow2.block (w1.heap.size + 1) (by first | (simp; done) | (simp; omega)) (by simp [Value.ownBlock])).trans qAB.out); rw [Nat.zero_add, List.nil_append] at hown2; have own2B := Lib.hid hown2; have vN := Lib.hid (rfl : w1.heap.size + 1 = w1.heap.size + 1); obtain ⟨a2, cap2, rfl⟩ := row_shape hown2; clear hown2 hgrow2)
        | (refine step_append_row _ (by rfl) (.tmp 35) (.tmp 41) _ (by rfl) w1.heap.size 3 i0 (.int .i64 0) 1 8 Tryz.underlying34 hi hz0 hz1 hz2 rfl (by decide) _ 0 [] (by rfl) OBA.out.1 B u n0 (intVals L0) (by rfl) OBA.out.2.1 HOne.out (by unfold maxLen; omega) (by omega) OBA.out.2.2.size ?_; intro v2' w2 hown2 hgrow2; have B2 := Lib.hid (OBA.out.2.2.grown hgrow2 OBA.out.2.2.size (fun j e => (OBA.out.1.lt j e).1)); have q2 := Lib.hid ((hgrow2.block (w1.heap.size) (by first | (simp; done) | (simp; omega)) (by simp [Value.ownBlock])).trans qBA.out); rw [Nat.zero_add, List.nil_append] at hown2; have own2C := Lib.hid hown2; obtain ⟨a2, cap2, rfl⟩ := row_shape hown2; clear hown2 hgrow2)
        | (refine step_append_own _ (by rfl) (.tmp 42) (.tmp 44) _ (by rfl) w1.heap.size 3 i0 (.int .i64 0) 1 8 Tryz.underlying34 hi hz0 hz1 hz2 rfl (by decide) _ n0 _ (by rfl) (own2A.out.alloc _) ⟨w2.heap.size, 0, none⟩ 1 1 [.int .i64 v] (by rfl) rfl (cell_one_new _ _ _) (by simp [Value.oneCell']) (by unfold maxLen; omega) (by omega) (Nat.le_trans B2.out.size (by simp)) ?_; intro v3 w3 hown3 hgrow3 _ _; have B3 := Lib.hid ((B2.out.alloc B2.out.size _).grown hgrow3 (Nat.le_trans B2.out.size (by simp)) (fun j e => (own2A.out.lt j e).1)); obtain ⟨a3, cap3, rfl⟩ := row_shape hown3; have ho3 := keeps_of B3.out HO1.out; have d1 := TrO.c3 ho3; have d2 := TrO.fr ho3 3; have Fin := Lib.hid (HFin.out w3 _ hown3 B3.out); clear ho3 hown3 hgrow3)
        | (refine step_append_own _ (by rfl) (.tmp 42) (.tmp 44) _ (by rfl) w1.heap.size 3 i0 (.int .i64 0) 1 8 Tryz.underlying34 hi hz0 hz1 hz2 rfl (by decide) _ n0 _ (by rfl) (own2B.out) ⟨w1.heap.size + 1, 0, none⟩ 1 1 [.int .i64 v] (by rfl) rfl (cell_one_at q2.out) (by simp [Value.oneCell']) (by unfold maxLen; omega) (by omega) (B2.out.size) ?_; intro v3 w3 hown3 hgrow3 _ _; have B3 := Lib.hid ((B2.out).grown hgrow3 (B2.out.size) (fun j e => (own2B.out.lt j e).1)); obtain ⟨a3, cap3, rfl⟩ := row_shape hown3; have ho3 := keeps_of B3.out HO1.out; have d1 := TrO.c3 ho3; have d2 := TrO.fr ho3 3; have Fin := Lib.hid (HFin.out w3 _ hown3 B3.out); clear ho3 hown3 hgrow3)
        | (refine step_append_own _ (by rfl) (.tmp 42) (.tmp 44) _ (by rfl) w1.heap.size 3 i0 (.int .i64 0) 1 8 Tryz.underlying34 hi hz0 hz1 hz2 rfl (by decide) _ n0 _ (by rfl) (own2C.out) ⟨w1.heap.size, 0, none⟩ 1 1 [.int .i64 v] (by rfl) rfl (cell_one_at q2.out) (by simp [Value.oneCell']) (by unfold maxLen; omega) (by omega) (B2.out.size) ?_; intro v3 w3 hown3 hgrow3 _ _; have B3 := Lib.hid ((B2.out).grown hgrow3 (B2.out.size) (fun j e => (own2C.out.lt j e).1)); obtain ⟨a3, cap3, rfl⟩ := row_shape hown3; have ho3 := keeps_of B3.out HO1.out; have d1 := TrO.c3 ho3; have d2 := TrO.fr ho3 3; have Fin := Lib.hid (HFin.out w3 _ hown3 B3.out); clear ho3 hown3 hgrow3))
      all_goals (go_wp2_with fail; go_meet; exact ⟨Lib.hid Fin.out.1, Lib.hid Fin.out.2.1, Lib.hid Fin.out.2.2.1, Lib.hid Fin.out.2.2.2⟩)
    · obtain rfl : z = 2 := by omega
      have cu : w1.cell? ⟨p, 4, none⟩ = some u := hcu
      clear hcu hz
      have cuA : (w1.alloc (.cells #[] 3)).cell? ⟨p, 4, none⟩ = some u := (World.cell?_alloc_lt _ _ _ (World.block_lt_of_cell? w1 _ cu)).trans cu
      have cuB : (w1.alloc (.cells #[.int .i64 v] 3)).cell? ⟨p, 4, none⟩ = some u := (World.cell?_alloc_lt _ _ _ (World.block_lt_of_cell? w1 _ cu)).trans cu
      have cuAB : ((w1.alloc (.cells #[] 3)).alloc (.cells #[.int .i64 v] 3)).cell? ⟨p, 4, none⟩ = some u := (World.cell?_alloc_lt _ _ _ (World.block_lt_of_cell? _ _ cuA)).trans cuA
      have cuBA : ((w1.alloc (.cells #[.int .i64 v] 3)).alloc (.cells #[] 3)).cell? ⟨p, 4, none⟩ = some u := (World.cell?_alloc_lt _ _ _ (World.block_lt_of_cell? _ _ cuB)).trans cuB
      go_region_law (first
        | (refine step_append_row _ (by rfl) (.tmp 35) (.tmp 41) _ (by rfl) w1.heap.size 3 i0 (.int .i64 0) 1 8 Tryz.underlying34 hi hz0 hz1 hz2 rfl (by decide) _ 0 [] (by rfl) OA.out.1 B u n0 (intVals L0) (by rfl) OA.out.2.1 HOne.out (by unfold maxLen; omega) (by omega) OA.out.2.2.size ?_; intro v2' w2 hown2 hgrow2; have B2 := Lib.hid (OA.out.2.2.grown hgrow2 OA.out.2.2.size (fun j e => (OA.out.1.lt j e).1)); rw [Nat.zero_add, List.nil_append] at hown2; have own2A := Lib.hid hown2; obtain ⟨a2, cap2, rfl⟩ := row_shape hown2; clear hown2 hgrow2)
        | (refine step_append_row _ (by rfl) (.tmp 35) (.tmp 41) _ (by rfl) w1.heap.size 3 i0 (.int .i64 0) 1 8 Tryz.underlying34 hi hz0 hz1 hz2 rfl (by decide) _ 0 [] (by rfl) OAB.out.1 B u n0 (intVals L0) (by rfl) OAB.out.2.1 HOne.out (by unfold maxLen; omega) (by omega) OAB.out.2.2.size ?_; intro v2' w2 hown2 hgrow2; have B2 := Lib.hid (OAB.out.2.2.grown hgrow2 OAB.out.2.2.size (fun j e => (OAB.out.1.lt j e).1)); have q2 := Lib.hid ((hgrow2.block (w1.heap.size + 1) (by first | (simp; done) | (simp; omega)) (by simp [Value.ownBlock])).trans qAB.out); rw [Nat.zero_add, List.nil_append] at hown2; have own2B := Lib.hid hown2; have vN := Lib.hid (rfl : w1.heap.size + 1 = w1.heap.size + 1); obtain ⟨a2, cap2, rfl⟩ := row_shape hown2; clear hown2 hgrow2)
        | (refine step_append_row _ (by rfl) (.tmp 35) (.tmp 41) _ (by rfl) w1.heap.size 3 i0 (.int .i64 0) 1 8 Tryz.underlying34 hi hz0 hz1 hz2 rfl (by decide) _ 0 [] (by rfl) OBA.out.1 B u n0 (intVals L0) (by rfl) OBA.out.2.1 HOne.out (by unfold maxLen; omega) (by omega) OBA.out.2.2.size ?_; intro v2' w2 hown2 hgrow2; have B2 := Lib.hid (OBA.out.2.2.grown hgrow2 OBA.out.2.2.size (fun j e => (OBA.out.1.lt j e).1)); have q2 := Lib.hid ((hgrow2.block (w1.heap.size) (by first | (simp; done) | (simp; omega)) (by simp [Value.ownBlock])).trans qBA.out); rw [Nat.zero_add, List.nil_append] at hown2; have own2C := Lib.hid hown2; obtain ⟨a2, cap2, rfl⟩ := row_shape hown2; clear hown2 hgrow2)
        | (refine step_append_own _ (by rfl) (.tmp 42) (.tmp 44) _ (by rfl) w1.heap.size 3 i0 (.int .i64 0) 1 8 Tryz.underlying34 hi hz0 hz1 hz2 rfl (by decide) _ n0 _ (by rfl) (own2A.out.alloc _) ⟨w2.heap.size, 0, none⟩ 1 1 [.int .i64 v] (by rfl) rfl (cell_one_new _ _ _) (by simp [Value.oneCell']) (by unfold maxLen; omega) (by omega) (Nat.le_trans B2.out.size (by simp)) ?_; intro v3 w3 hown3 hgrow3 _ _; have B3 := Lib.hid ((B2.out.alloc B2.out.size _).grown hgrow3 (Nat.le_trans B2.out.size (by simp)) (fun j e => (own2A.out.lt j e).1)); obtain ⟨a3, cap3, rfl⟩ := row_shape hown3; have ho3 := keeps_of B3.out HO1.out; have d1 := TrO.c4 ho3; have d2 := TrO.fr ho3 4; have Fin := Lib.hid (HFin.out w3 _ hown3 B3.out); clear ho3 hown3 hgrow3)
        | (refine step_append_own _ (by rfl) (.tmp 42) (.tmp 44) _ (by rfl) w1.heap.size 3 i0 (.int .i64 0) 1 8 Tryz.underlying34 hi hz0 hz1 hz2 rfl (by decide) _ n0 _ (by rfl) (own2B.out) ⟨w1.heap.size + 1, 0, none⟩ 1 1 [.int .i64 v] (by rfl) rfl (cell_one_at q2.out) (by simp [Value.oneCell']) (by unfold maxLen; omega) (by omega) (B2.out.size) ?_; intro v3 w3 hown3 hgrow3 _ _; have B3 := Lib.hid ((B2.out).grown hgrow3 (B2.out.size) (fun j e => (own2B.out.lt j e).1)); obtain ⟨a3, cap3, rfl⟩ := row_shape hown3; have ho3 := keeps_of B3.out HO1.out; have d1 := TrO.c4 ho3; have d2 := TrO.fr ho3 4; have Fin := Lib.hid (HFin.out w3 _ hown3 B3.out); clear ho3 hown3 hgrow3)
        | (refine step_append_own _ (by rfl) (.tmp 42) (.tmp 44) _ (by rfl) w1.heap.size 3 i0 (.int .i64 0) 1 8 Tryz.underlying34 hi hz0 hz1 hz2 rfl (by decide) _ n0 _ (by rfl) (own2C.out) ⟨w1.heap.size, 0, none⟩ 1 1 [.int .i64 v] (by rfl) rfl (cell_one_at q2.out) (by simp [Value.oneCell']) (by unfold maxLen; omega) (by omega) (B2.out.size) ?_; intro v3 w3 hown3 hgrow3 _ _; have B3 := Lib.hid ((B2.out).grown hgrow3 (B2.out.size) (fun j e => (own2C.out.lt j e).1)); obtain ⟨a3, cap3, rfl⟩ := row_shape hown3; have ho3 := keeps_of B3.out HO1.out; have d1 := TrO.c4 ho3; have d2 := TrO.fr ho3 4; have Fin := Lib.hid (HFin.out w3 _ hown3 B3.out); clear ho3 hown3 hgrow3))
      all_goals (go_wp2_with fail; go_meet; exact ⟨Lib.hid Fin.out.1, Lib.hid Fin.out.2.1, Lib.hid Fin.out.2.2.1, Lib.hid Fin.out.2.2.2⟩)
  case rest =>
    clear HT1 HR1 HK1 HB1
    obtain ⟨HR2, HT2, HK2, HB2⟩ := hcut
    have CR := rread8_any HR2.out HF.out hm v
    have HMd := Lib.hid (made_vread y v)
    have HFy := Lib.hid (HF.out.read v)
    obtain ⟨E1, P, y2, hRd⟩ : ∃ E1 P y2, y.read v = (E1, P, y2) := ⟨_, _, _, rfl⟩
    rw [hRd] at CR HMd HFy
    simp only at CR HMd HFy
    obtain ⟨hlr, har⟩ := HA.out
    have ha69 := ((rows_steps hs).2.2 l hlr).2.1
    have hrv := rows_val hs hlr
    obtain ⟨sp0, sp1, sp2⟩ := sp_vals
    obtain ⟨ov2, s2, s3, s4, hob2, _⟩ := HT2.out.obj
    have d5 := TrO.c5 hob2
    have HDone := Lib.hid (show ∀ (w5 : World), RVC q r B0 zs v0 v2 y2 c w5 → RS8 B0 wc w5 → ∀ (i : Nat) (u : Value), RVC q r B0 zs v0 v2 y2 c (w5.setCell ⟨p, i, none⟩ u) ∧ RT8 B0 B w (w5.setCell ⟨p, i, none⟩ u) from fun w5 h1 h2 i u => by
      have h3 := (HT2.out.rs8 h2).set i u
      exact ⟨h1.own h3.1 h3.2 HVV.out, HK2.out.trans ((RT8.of_rs8 h2).trans (RT8.of_own h3.1 h3.2))⟩)
    rcases l with _ | l'
    · obtain rfl : z = 0 := by omega
      rw [hrv, sp0] at har
      have hRv := HRq.out
      rw [nd_chunk] at hRv
      cases ch with
      | false =>
        have HRv := Lib.hid (show R = ⟨0, [(0, v, none0)], y⟩ from hRv.symm)
        clear CR hRv
        go_wp2_with fail
        try simp only [Exit.inBlock, Exit.then]
        refine bodyPost_ret (results_none rfl _ _ _) rfl ?_
        rw [HRv.out]
        exact ⟨rfl, ⟨HF.out, rfl⟩, HR2.out, HK2.out, O ++ [v], D, HT2.out.le (by simp [cnt]), fun _ => ⟨rfl, by simp [levOf, catOf, none0]⟩⟩
      | true =>
        obtain ⟨n, hn⟩ : ∃ n, min 240 (s - 240 * a) = n := ⟨_, rfl⟩
        have hM : min 240 ((s : Int) - 240 * (a : Int)) = (n : Int) := by omega
        have hRdo : rdOne y v 0 n = if E1 ≠ 0 then ⟨E1, [], y2⟩ else if P.size ≠ n then ⟨110, [], y2⟩ else ⟨0, [(0, v, P)], y2⟩ := by unfold rdOne; rw [hRd]
        have ha69i : (a : Int) ≤ 69 := by omega
        have hwa : IntKind.i64.wrap (240 * (a : Int)) = 240 * (a : Int) := wrapI _ (by omega) (by omega)
        have hwb : IntKind.i64.wrap ((s : Int) - 240 * (a : Int)) = (s : Int) - 240 * (a : Int) := wrapI _ (by omega) (by omega)
        rw [if_pos rfl, hn, hRdo] at hRv
        clear hRdo hRd hrv har
        go_wp2_with fail
        refine CR.mono ?_
        rintro e w5 ⟨rfl, h5, k5⟩
        have HT5 := Lib.hid (HT2.out.rs8 k5)
        obtain ⟨ov5, t2, t3, t4, hob5, _⟩ := HT5.out.obj
        have f1 := TrO.c1 hob5
        have f5 := TrO.c5 hob5
        have g1 := TrO.fr hob5 1
        have g5 := TrO.fr hob5 5
        have HD5 := Lib.hid (HDone.out w5 h5 k5)
        clear h5 k5 CR hob5 hob2 d5 HDone
        by_cases hE : E1 = 0
        · subst hE
          by_cases hP : P.size = n
          · have hc : ((P.size : Int) != (n : Int)) = false := by simp [hP]
            have hsz := Lib.hid hP
            have hDP : D.size + P.size ≤ 30000000 := by omega
            rw [if_neg (by simp), if_neg (by simp [hP])] at hRv
            have HRv := Lib.hid hRv.symm
            clear hP hRv
            go_wp2_with fail
            try simp only [Exit.inBlock, Exit.then]
            refine bodyPost_ret (results_none rfl _ _ _) rfl ?_
            rw [HRv.out]
            exact ⟨rfl, ⟨HFy.out, HMd.out⟩, (HD5.out 1 _).1, (HD5.out 1 _).2, O ++ [v], D ++ P, ((HT5.out.le (show N + 2 ≤ N + 2 * cnt 0 by simp [cnt])).setD _ (by rw [ByteArray.size_append]; simp only [cnt]; have := hsz.out; omega)), fun _ => ⟨rfl, by simp [levOf, catOf, ByteArray.data_append]⟩⟩
          · have hc : ((P.size : Int) != (n : Int)) = true := by simp; omega
            rw [if_neg (by simp), if_pos hP] at hRv
            have HRv := Lib.hid hRv.symm
            clear hP hRv
            go_wp2_with fail
            try simp only [Exit.inBlock, Exit.then]
            refine bodyPost_ret (results_none rfl _ _ _) rfl ?_
            rw [HRv.out]
            exact ⟨rfl, ⟨HFy.out, HMd.out⟩, (HD5.out 5 _).1, (HD5.out 5 _).2, O ++ [v], D, (HT5.out.setE _).le (by simp [cnt]), fun e => by simp at e⟩
        · have hc : (E1 != 0) = true := by simpa using hE
          rw [if_pos hE] at hRv
          have HRv := Lib.hid hRv.symm
          have HE := Lib.hid hE
          clear hE hRv
          go_wp2_with fail
          try simp only [Exit.inBlock, Exit.then]
          refine bodyPost_ret (results_none rfl _ _ _) rfl ?_
          rw [HRv.out]
          exact ⟨rfl, ⟨HFy.out, HMd.out⟩, (HD5.out 5 _).1, (HD5.out 5 _).2, O ++ [v], D, (HT5.out.setE _).le (by simp [cnt]), fun e => absurd e HE.out⟩
    · have hl' : l' < (rowsL s).length := by omega
      have hX69 := ((rows_steps hs).2.2 l' hl').2.1
      have hrv' := rows_val hs hl'
      have ha60 : 60 * a < (s + sp l' - 1) / sp l' := by
        rw [hrv] at har
        rcases (show l' = 0 ∨ l' = 1 by omega) with rfl | rfl
        · rw [show sp (0 + 1) = 14400 from rfl] at har
          rw [show sp 0 = 240 from rfl]
          omega
        · rw [show sp (1 + 1) = 864000 from rfl] at har
          rw [show sp 1 = 14400 from rfl]
          omega
      have hnd := nd_place ch l' y v s a ha60
      rw [HRq.out, ← hrv'] at hnd
      rw [← hrv'] at ha60
      obtain ⟨X, hX⟩ : ∃ X, (rowsL s)[l'] = X := ⟨_, rfl⟩
      rw [hX] at hnd ha60 hX69
      have HX := Lib.hid (show ∃ h : l' < (rowsL s).length, (rowsL s)[l'] = X from ⟨hl', hX⟩)
      obtain ⟨m, hmX⟩ : ∃ m, manyN X a = m := ⟨_, rfl⟩
      rw [hmX] at hnd
      unfold manyN at hmX
      have hM : min 60 ((X : Int) - 60 * (a : Int)) = (m : Int) := by omega
      have hm60 : (m : Int) ≤ 60 := by omega
      have hXa : 60 * a + m ≤ X := by omega
      have hRdo : rdOne y v (l' + 1) (4 * m) = if E1 ≠ 0 then ⟨E1, [], y2⟩ else if P.size ≠ 4 * m then ⟨110, [], y2⟩ else ⟨0, [(l' + 1, v, P)], y2⟩ := by unfold rdOne; rw [hRd]
      obtain ⟨F, hF⟩ : ∃ F : Nat → VS → RT, (fun (i : Nat) (y : VS) => nd ch l' y (ptrAt P i) (below s l' (60 * a + i))) = F := ⟨_, rfl⟩
      rw [hRdo, hRd] at hnd
      simp only at hnd
      rw [hF] at hnd
      have HNd := Lib.hid hnd
      have HFs := Lib.hid (show ∀ j y', F j y' = nd ch l' y' (ptrAt P j) (below s l' (60 * a + j)) from fun j y' => by rw [← hF])
      have HCn := Lib.hid (show N + 2 * (1 + 60 * cnt l') ≤ 100000 from hN)
      have ha69i : (a : Int) ≤ 69 := by omega
      have hX69i : (X : Int) ≤ 69 := by omega
      have hwa : IntKind.i64.wrap (60 * (a : Int)) = 60 * (a : Int) := wrapI _ (by omega) (by omega)
      have hwb : IntKind.i64.wrap ((X : Int) - 60 * (a : Int)) = (X : Int) - 60 * (a : Int) := wrapI _ (by omega) (by omega)
      have hwm : IntKind.i64.wrap (4 * (m : Int)) = 4 * (m : Int) := wrapI _ (by omega) (by omega)
      have hzs : z - 1 = (l' : Int) := by omega
      have hzw : IntKind.i64.wrap (l' : Int) = (l' : Int) := wrapI _ (by omega) (by omega)
      have hz0 : (z == 0) = false := by simp; omega
      have hli : (l' : Int) < ((rowsL s).length : Int) := by omega
      have CW := fun w => rrows_any s hs w
      clear hnd hRdo hRd hrv hrv' har hX ha69 HRq
      go_wp2_with fail
      refine CR.mono ?_
      rintro e w5 ⟨rfl, h5, k5⟩
      have HT5 := Lib.hid (HT2.out.rs8 k5)
      have H5 := Lib.hid h5
      have K5 := Lib.hid k5
      obtain ⟨ov5, t2, t3, t4, hob5, _⟩ := HT5.out.obj
      have f5 := TrO.c5 hob5
      have g5 := TrO.fr hob5 5
      clear h5 k5 CR hob5 hob2 d5
      by_cases hE : E1 = 0
      · subst hE
        go_wp2_with fail
        refine (CW _).mono ?_
        rintro e w6 ⟨vv, rfl, hr6, hB6⟩
        have H6 := Lib.hid (H5.out.below hB6)
        have K6 := Lib.hid (K5.out.and_below hB6)
        have HT6 := Lib.hid (HT5.out.below hB6)
        obtain ⟨ov6, u2, u3, u4, hob6, _⟩ := HT6.out.obj
        have f6 := TrO.c5 hob6
        have g6 := TrO.fr hob6 5
        rcases hr6.2 with ⟨_, h⟩ | ⟨g, capr, cur, rfl, _⟩
        · omega
        have hcl : w6.cell? ⟨g, l', none⟩ = some (.int .i64 (X : Int)) := by
          rw [hr6.cellAt l' (by omega)]
          obtain ⟨h1, h2⟩ := HX.out
          simp [ints, h1, h2]
        clear f5 g5 hr6 hB6 hob6 CW
        by_cases hP : P.size = 4 * m
        · have hc : ((P.size : Int) != 4 * (m : Int)) = false := by simp; omega
          have hnd := HNd.out
          simp only [ne_eq, not_true_eq_false, ↓reduceIte, hP] at hnd
          have HRv := Lib.hid hnd
          have HPs := Lib.hid hP
          clear hnd hP
          have hPs : P.size ≤ 1000 := by have := HPs.out; omega
          have HK6 := Lib.hid (HK2.out.trans (RT8.of_rs8 (B := B) K6.out))
          have HB6 := Lib.hid (Nat.le_trans HB2.out K6.out.size)
          clear HR2 HT2 HK2 HB2 H5 K5 HT5 HDone f6 g6
          go_wp2_with fail
          go_loopw [17] (fun i wr => ∃ (j : Nat) (V' : Vis) (y' : VS) (e' : Int) (O' : List Int) (D' : ByteArray), j ≤ m ∧ i = .int .i64 j ∧ Hid (RVC q r B0 zs v0 v2 y' c wr) ∧ Hid (FineV y' ∧ y'.disk = y.disk) ∧ Hid (TrAt B p O' D' e' (N + 2 + 2 * (j * cnt l')) wr) ∧ Hid (RT8 B0 B w wr ∧ B ≤ wr.heap.size) ∧ Hid (e' ≠ 0 → R.e = e' ∧ R.x = y') ∧ Hid (e' = 0 → R.e = (loopN F (m - j) j y').e ∧ R.x = (loopN F (m - j) j y').x ∧ R.vis = V' ++ (loopN F (m - j) j y').vis ∧ O' = O ++ ordOf V' ∧ D'.data.toList = D.data.toList ++ catOf (levOf 0 V'))) (fun i _ => m - (intOf i).toNat)
          case atStart => exact ⟨0, [(l' + 1, v, P)], y2, 0, O ++ [v], D, Nat.zero_le _, rfl, H6, Lib.hid ⟨HFy.out, HMd.out⟩, Lib.hid (by rw [Nat.zero_mul]; exact HT6.out), Lib.hid ⟨HK6.out, HB6.out⟩, Lib.hid (fun h => absurd rfl h), Lib.hid (fun _ => ⟨by rw [HRv.out]; rfl, by rw [HRv.out]; rfl, by rw [HRv.out]; rfl, rfl, by simp [levOf, catOf]⟩)⟩
          case round =>
            obtain ⟨j, V', y', e', O', D', hj, rfl, HRr, HFr, HTr, HKr, HQ1, HQ2⟩ := hrel
            by_cases hlt : j < m
            · have hji : (j : Int) < (m : Int) := by omega
              have hj60 : j < 60 := by omega
              have hsl : ∀ W, (Instr.slice 9 (.string P) (some (.int .i64 (4 * (j : Int)))) (some (.int .i64 (4 * (j : Int) + 4))) none).run Tryz.prog W = .ok (.string (P.extract (4 * j) (4 * j + 4))) W := fun W => by
                have := slice_num P (4 * j) (4 * j + 4) (by omega) (by have := HPs.out; omega) hPs W
                rwa [show ((4 * j : Nat) : Int) = 4 * (j : Int) by omega, show ((4 * j + 4 : Nat) : Int) = 4 * (j : Int) + 4 by omega] at this
              have Cn : ∀ w, Calls Tryz.prog 97 #[.string (P.extract (4 * j) (4 * j + 4))] w fun e w' => e = .returned (.int .i64 (ptrAt P j)) ∧ w = w' := fun w => by
                have h := rval_any (P.extract (4 * j) (4 * j + 4)) (by rw [ByteArray.size_extract]; omega) w
                rw [Lib.extract_data, show 4 * j + 4 - 4 * j = 4 by omega] at h
                exact h
              have hw4 : IntKind.i64.wrap (4 * (j : Int)) = 4 * (j : Int) := wrapI _ (by omega) (by omega)
              have hw5 : IntKind.i64.wrap (4 * (j : Int) + 4) = 4 * (j : Int) + 4 := wrapI _ (by omega) (by omega)
              have hw6 : IntKind.i64.wrap (60 * (a : Int) + (j : Int)) = 60 * (a : Int) + (j : Int) := wrapI _ (by omega) (by omega)
              have hcnt : (j + 1) * cnt l' ≤ 60 * cnt l' := Nat.mul_le_mul_right _ (by omega)
              have hcj : (j + 1) * cnt l' = j * cnt l' + cnt l' := by rw [Nat.add_mul, Nat.one_mul]
              by_cases he : e' = 0
              · subst he
                obtain ⟨q1, q2, q3, q4, q5⟩ := HQ2.out rfl
                obtain ⟨T, hT⟩ : ∃ T, F j y' = T := ⟨_, rfl⟩
                have C4 := (HIh.out l' rfl) y' (ptrAt P j) (60 * a + j) (N + 2 + 2 * (j * cnt l')) O' D' wr HRr.out HFr.out.1 (by rw [HFr.out.2]; exact hm) HTr.out HKr.out.2 (by have := HCn.out; omega) (by
                  obtain ⟨h1, h2⟩ := HX.out
                  exact ⟨h1, by rw [h2]; omega⟩) (ptr64 P j)
                rw [← HFs.out j y', hT, show ((60 * a + j : Nat) : Int) = 60 * (a : Int) + (j : Int) by omega] at C4
                have h4 : m - j = (m - (j + 1)) + 1 := by omega
                rw [h4] at q1 q2 q3
                have HQn := Lib.hid (show (T.e ≠ 0 → R.e = T.e ∧ R.x = T.x) ∧ (T.e = 0 → R.e = (loopN F (m - (j + 1)) (j + 1) T.x).e ∧ R.x = (loopN F (m - (j + 1)) (j + 1) T.x).x ∧ R.vis = (V' ++ T.vis) ++ (loopN F (m - (j + 1)) (j + 1) T.x).vis) from by
                  constructor
                  · intro h
                    rw [loopN_stop (by rw [hT]; exact h), hT] at q1 q2
                    exact ⟨q1, q2⟩
                  · intro h
                    rw [loopN_go (by rw [hT]; exact h), hT] at q1 q2 q3
                    exact ⟨q1, q2, by rw [q3, RT.and, List.append_assoc]⟩)
                have HO := Lib.hid (And.intro q4 q5)
                have HCj := Lib.hid hcj
                clear q1 q2 q3 q4 q5 h4 hcj hcnt hT HQ1 HQ2
                go_wp2_with fail
                refine (Cn _).mono ?_
                rintro e w' ⟨rfl, rfl⟩
                go_wp2_with fail
                refine C4.mono ?_
                rintro e w7 ⟨rfl, h7f, h7, k7, O7, D7, t7, q7⟩
                have H7f := Lib.hid h7f
                have H7 := Lib.hid h7
                have K7 := Lib.hid k7
                have T7 := Lib.hid t7
                have Q7 := Lib.hid q7
                clear h7f h7 k7 t7 q7 C4 Cn
                go_wp2
                go_roundw
                case rel =>
                  exact ⟨j + 1, V' ++ T.vis, T.x, T.e, O7, D7, by omega, by go_num, H7, Lib.hid ⟨H7f.out.1, H7f.out.2.trans HFr.out.2⟩, Lib.hid (by
                    have e1 : N + 2 + 2 * ((j + 1) * cnt l') = N + 2 + 2 * (j * cnt l') + 2 * cnt l' := by rw [HCj.out]; omega
                    rw [e1]
                    exact T7.out), Lib.hid ⟨HKr.out.1.trans K7.out, Nat.le_trans HKr.out.2 K7.out.size⟩, Lib.hid HQn.out.1, Lib.hid (fun h => by
                    obtain ⟨a1, a2, a3⟩ := HQn.out.2 h
                    obtain ⟨b1, b2⟩ := Q7.out h
                    exact ⟨a1, a2, a3, by rw [b1, HO.out.1, List.append_assoc]; simp [ordOf], by rw [b2, HO.out.2, List.append_assoc, levOf_app, catOf_app]⟩)⟩
                case measure => simp [intOf]; omega
              · have CS := rtread_stop HTr.out he q (ptrAt P j) (l' : Int) (60 * (a : Int) + (j : Int)) (s : Int) ch
                have HE := Lib.hid he
                have HCj := Lib.hid hcj
                clear he hcj hcnt
                go_wp2_with fail
                refine (Cn _).mono ?_
                rintro e w' ⟨rfl, rfl⟩
                go_wp2_with fail
                refine CS.mono ?_
                rintro e w7 ⟨rfl, rfl⟩
                clear CS Cn
                go_wp2
                go_roundw
                case rel => exact ⟨j + 1, V', y', e', O', D', by omega, by go_num, HRr, HFr, Lib.hid (HTr.out.le (by rw [HCj.out]; omega)), HKr, HQ1, Lib.hid (fun h => absurd h HE.out)⟩
                case measure => simp [intOf]; omega
            · obtain rfl : m = j := by omega
              have HFin := Lib.hid (show R.e = e' ∧ R.x = y' from by
                by_cases he : e' = 0
                · subst he
                  obtain ⟨q1, q2, _⟩ := HQ2.out rfl
                  rw [Nat.sub_self] at q1 q2
                  exact ⟨q1, q2⟩
                · exact HQ1.out he)
              have HVis := Lib.hid (show R.e = 0 → O' = O ++ ordOf R.vis ∧ D'.data.toList = D.data.toList ++ catOf (levOf 0 R.vis) from fun h => by
                obtain ⟨_, _, q3, q4, q5⟩ := HQ2.out (HFin.out.1.symm.trans h)
                rw [Nat.sub_self, loopN, List.append_nil] at q3
                rw [q3]
                exact ⟨q4, q5⟩)
              have HLe := Lib.hid (show N + 2 + 2 * (m * cnt l') ≤ N + 2 * cnt (l' + 1) by
                have : m * cnt l' ≤ 60 * cnt l' := Nat.mul_le_mul_right _ (by omega)
                simp only [cnt]
                omega)
              go_wp2
              go_end0
              exact ⟨rfl, by rw [HFin.out.2]; exact HFr.out, by rw [HFin.out.2]; exact HRr.out, HKr.out.1, O', D', by rw [HFin.out.1]; exact HTr.out.le HLe.out, HVis.out⟩
        · have hc : ((P.size : Int) != 4 * (m : Int)) = true := by simp; omega
          have hnd := HNd.out
          simp only [ne_eq, not_true_eq_false, not_false_eq_true, ↓reduceIte, hP, show ¬ ((110 : Int) = 0) by decide] at hnd
          have HRv := Lib.hid hnd
          have HD6 := Lib.hid (HDone.out w6 H6.out K6.out)
          clear hP hnd HDone
          go_wp2_with fail
          try simp only [Exit.inBlock, Exit.then]
          refine bodyPost_ret (results_none rfl _ _ _) rfl ?_
          rw [HRv.out]
          exact ⟨rfl, ⟨HFy.out, HMd.out⟩, (HD6.out 5 _).1, (HD6.out 5 _).2, O ++ [v], D, (HT6.out.setE _).le (by have := HCn.out; simp [cnt]; omega), fun e => by simp at e⟩
      · have hc : (E1 != 0) = true := by simpa using hE
        have hnd := HNd.out
        rw [if_pos hE, if_neg hE] at hnd
        have HRv := Lib.hid hnd
        have HE := Lib.hid hE
        have HD5 := Lib.hid (HDone.out w5 H5.out K5.out)
        clear hE hnd HDone
        go_wp2_with fail
        try simp only [Exit.inBlock, Exit.then]
        refine bodyPost_ret (results_none rfl _ _ _) rfl ?_
        rw [HRv.out]
        exact ⟨rfl, ⟨HFy.out, HMd.out⟩, (HD5.out 5 _).1, (HD5.out 5 _).2, O ++ [v], D, (HT5.out.setE _).le (by simp [cnt]; omega), fun e => absurd e HE.out⟩
end
end Go.Proofs.YtmloljjllmmkoaaGreat

