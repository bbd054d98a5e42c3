/-
  The reference reads a tree, whole: Read, Load, Reach.
-/
import Derived.Test.YtmloljjllmmkoaaGreatTreRt
import Derived.Deep.RegionHeld3
namespace Go.Proofs.YtmloljjllmmkoaaGreat
open Go.ChangeShapes Go.WideShapes Go.ChangeAt Go.RowKit Go.Shelf Go Go.Maps SM PL AL TR

theorem rtread_any {B0 B q r c p s : Nat} {zs : List Int} {v0 v2 : Value} {ch : Bool} (hv2 : ∀ j, v2.ownBlock = some j → j < B) (hs : s ≤ 16384) : ∀ l, l ≤ 2 → RtGood B0 B q r c p s zs v0 v2 ch l
  | 0, h => rtread_step hv2 hs 0 h (fun l' e => by omega)
  | l + 1, h => rtread_step hv2 hs (l + 1) h (fun l' e => by
    obtain rfl : l' = l := by omega
    exact rtread_any hv2 hs l' (by omega))
theorem RT8.keep {B0 B : Nat} {w w' : World} (k : RT8 B0 B w w') {i : Nat} {t : TypeId} {C : Array Value} {f : Nat × Nat} (h : w.heap[i]? = some (Obj.cells C t f)) (h1 : ¬ K8 t) (h2 : ¬ TRK t) : w'.heap[i]? = some (Obj.cells C t f) := by
  obtain ⟨F, hs, hF⟩ := k
  refine hs.keep h (fun hi => ?_)
  obtain ⟨C', t', f', hC, hk⟩ := hF i hi
  have e := kind_eq h hC
  rcases hk with ⟨hk, _⟩ | ⟨hk, _⟩
  · exact h1 (e ▸ hk)
  · exact h2 (e ▸ hk)
theorem RT8.mono {B0 B B' : Nat} {w w' : World} (k : RT8 B0 B w w') (hB : B' ≤ B) : RT8 B0 B' w w' := by
  obtain ⟨F, hs, hF⟩ := k
  exact ⟨F, hs, fun i hi => by
    obtain ⟨C, t, f, h1, h2⟩ := hF i hi
    exact ⟨C, t, f, h1, h2.imp id (fun h => ⟨h.1, Nat.le_trans hB h.2⟩)⟩⟩
section
variable {q r B0 c : Nat} {zs : List Int} {v0 v2 : Value} {y : VS} {w : World}
set_option maxRecDepth 100000 in
set_option maxHeartbeats 4000000 in
theorem rtree_any (h : RVC q r B0 zs v0 v2 y c w) (hf : FineV y) (hm : y.disk.made < 900000000) (root size : Int) (hr64 : I64 root) (hz64 : I64 size) (ch : Bool) :
    Calls Tryz.prog 32 #[.pointer (some ⟨q, 0, none⟩), .agg #[.int .i64 root, .int .i64 size], .bool ch] w fun e w' => ∃ p, e = .returned (.pointer (some ⟨p, 0, none⟩)) ∧ (FineV (ndBlob ch y root size).x ∧ (ndBlob ch y root size).x.disk = y.disk) ∧
      RVC q r B0 zs v0 v2 (ndBlob ch y root size).x c w' ∧ RT8 B0 w.heap.size w w' ∧ ∃ O D, TrAt w.heap.size p O D (ndBlob ch y root size).e 100000 w' ∧ ((ndBlob ch y root size).e = 0 → O = ordOf (ndBlob ch y root size).vis ∧ D.data.toList = catOf (levOf 0 (ndBlob ch y root size).vis)) := by
  have hv2 : ∀ j, v2.ownBlock = some j → j < w.heap.size := fun j hj => by
    obtain ⟨v1, kp, hr⟩ := h.ref
    exact (hr.ba.lt j hj).2
  obtain ⟨w1, hw1⟩ : ∃ w1, w.alloc (.cells #[.int .i64 root, .int .i64 size] 24) = w1 := ⟨_, rfl⟩
  have hob1 : w1.heap[w.heap.size]? = some (.cells #[.int .i64 root, .int .i64 size] 24 (0, 0)) := by rw [← hw1]; exact heap_alloc_new _ _
  have hsz1 : w1.heap.size = w.heap.size + 1 := by rw [← hw1]; simp
  have hB1 : Below w.heap.size w w1 := by rw [← hw1]; exact (Below.refl _ w).alloc (Nat.le_refl _) _
  obtain ⟨w2, hw2⟩ : ∃ w2, w1.alloc (TrO (.slice none 0 0) none0 (.slice none 0 0) (.slice none 0 0) (.slice none 0 0) 0) = w2 := ⟨_, rfl⟩
  have hob2 : w2.heap[w1.heap.size]? = some (TrO (.slice none 0 0) none0 (.slice none 0 0) (.slice none 0 0) (.slice none 0 0) 0) := by rw [← hw2]; exact heap_alloc_new _ _
  have hB12 : Below w1.heap.size w1 w2 := by rw [← hw2]; exact (Below.refl _ w1).alloc (Nat.le_refl _) _
  have hB2 : Below w.heap.size w w2 := hB1.trans (hB12.mono hB1.size)
  rw [hsz1] at hob2
  have hbl2 := keeps_of hB12 hob1
  have d0 : w2.cell? ⟨w.heap.size, 0, none⟩ = some (.int .i64 root) := by simp [World.cell?, hbl2]
  have d1 : w2.cell? ⟨w.heap.size, 1, none⟩ = some (.int .i64 size) := by simp [World.cell?, hbl2]
  have f5 := TrO.c5 hob2
  have g5 := TrO.fr hob2 5
  have HT2 := Lib.hid (show TrAt w.heap.size (w.heap.size + 1) [] none0 0 0 w2 from ⟨Nat.le_succ _, Nat.le_refl _, Nat.le_refl _, _, _, _, _, hob2, World.ownsRow_nil _ _ _ _, ⟨[], Nat.le_refl _, World.ownsRow_nil _ _ _ _, fun _ e => by cases e⟩, ⟨[], Nat.le_refl _, World.ownsRow_nil _ _ _ _, fun _ e => by cases e⟩, ⟨[], Nat.le_refl _, World.ownsRow_nil _ _ _ _, fun _ e => by cases e⟩⟩)
  have HR2 := Lib.hid (h.below hB2)
  have HK2 := Lib.hid (show RT8 B0 w.heap.size w w2 from RT8.of_below hB2)
  have HB2 := Lib.hid hB2
  have HBl := Lib.hid hbl2
  have HF := Lib.hid hf
  have HV := Lib.hid hv2
  obtain ⟨R, hR⟩ : ∃ R, ndBlob ch y root size = R := ⟨_, rfl⟩
  rw [hR]
  unfold TrO none0 at hw2
  have HBad := Lib.hid (show badBlob root size = true → R = ⟨110, [], y⟩ from fun e => by rw [← hR, ndBlob, if_pos e])
  have HBadE := Lib.hid (show R = ⟨110, [], y⟩ → (FineV R.x ∧ R.x.disk = y.disk) ∧ RVC q r B0 zs v0 v2 R.x c (w2.setCell ⟨(w.heap.size + 1), 5, none⟩ (.int .i64 110)) ∧ RT8 B0 w.heap.size w (w2.setCell ⟨(w.heap.size + 1), 5, none⟩ (.int .i64 110)) ∧ ∃ O D, TrAt w.heap.size (w.heap.size + 1) O D R.e 100000 (w2.setCell ⟨(w.heap.size + 1), 5, none⟩ (.int .i64 110)) ∧ (R.e = 0 → O = ordOf R.vis ∧ D.data.toList = catOf (levOf 0 R.vis)) from fun e => by
    rw [e]
    have h3 := HT2.out.set 5 (.int .i64 110)
    exact ⟨⟨HF.out, rfl⟩, HR2.out.own h3.1 h3.2 HV.out, HK2.out.trans (RT8.of_own h3.1 h3.2), [], none0, (HT2.out.setE 110).le (by omega), fun e => by simp at e⟩)
  have HRq := Lib.hid hR
  have CW := fun (n : Nat) (hn : n ≤ 16384) w => rrows_any n hn w
  have HW1 := Lib.hid hw1
  have HW2 := Lib.hid hw2
  clear h hf hv2 hob2 hob1 hbl2 hB1 hB12 hB2 hR hw1 hw2 hsz1
  by_cases h1 : size < 0
  · have HE := Lib.hid (HBadE.out (HBad.out (by simp [badBlob, h1])))
    clear CW
    go_enter Tryz.func32, Tryz.ntmps32
    go_upto_region 2 with fail
    rw [HW1.out, HW2.out]
    go_wp2
    go_ret
    exact ⟨_, rfl, HE.out⟩
  · by_cases h2 : 16384 < size
    · have HE := Lib.hid (HBadE.out (HBad.out (by simp [badBlob, h2])))
      clear CW
      go_enter Tryz.func32, Tryz.ntmps32
      go_upto_region 2 with fail
      rw [HW1.out, HW2.out]
      go_wp2
      go_ret
      exact ⟨_, rfl, HE.out⟩
    · by_cases h3 : root = 0
      · have b3 : (root == 0) = true := by simp [h3]
        by_cases h4 : size = 0
        · have b4 : (size == 0) = true := by simp [h4]
          have HE := Lib.hid (show R = ⟨0, [], y⟩ from by rw [← HRq.out, ndBlob, if_neg (by simp [badBlob, h3, h4]), if_pos h4])
          have h5 : ¬ 0 < size := by omega
          clear CW h3 h4
          go_enter Tryz.func32, Tryz.ntmps32
          go_upto_region 2 with fail
          rw [HW1.out, HW2.out]
          go_wp2
          go_ret
          rw [HE.out]
          exact ⟨_, rfl, ⟨HF.out, rfl⟩, HR2.out, HK2.out, [], none0, HT2.out.le (by omega), fun _ => ⟨rfl, rfl⟩⟩
        · have b4 : (size == 0) = false := by simp [h4]
          have HE := Lib.hid (HBadE.out (HBad.out (by simp [badBlob, h3, h4])))
          clear CW
          clear h3 h4
          go_enter Tryz.func32, Tryz.ntmps32
          go_upto_region 2 with fail
          rw [HW1.out, HW2.out]
          go_wp2
          go_ret
          exact ⟨_, rfl, HE.out⟩
      · have b3 : (root == 0) = false := by simp [h3]
        by_cases h4 : size = 0
        · have b4 : (size == 0) = true := by simp [h4]
          have HE := Lib.hid (HBadE.out (HBad.out (by simp [badBlob, h3, h4])))
          clear CW
          clear h3 h4
          go_enter Tryz.func32, Tryz.ntmps32
          go_upto_region 2 with fail
          rw [HW1.out, HW2.out]
          go_wp2
          go_ret
          exact ⟨_, rfl, HE.out⟩
        · have b4 : (size == 0) = false := by simp [h4]
          have h5 : 0 < size := by omega
          obtain ⟨n, hn⟩ : ∃ n : Nat, size = (n : Int) := ⟨size.toNat, by omega⟩
          subst hn
          have hn16 : n ≤ 16384 := by omega
          have hn0 : n ≠ 0 := by omega
          have hnd := ndBlob_place ch y root n (by simp [badBlob, h1, h2, h3, hn0]) h4
          rw [Int.toNat_natCast, HRq.out] at hnd
          obtain ⟨r1, r2, r3⟩ := rows_steps hn16
          have hL0 : 0 < (rowsL n).length := by
            rcases r1 with ⟨_, h6⟩ | ⟨h6, _⟩
            · omega
            · exact h6
          obtain ⟨L, hL⟩ : ∃ L, (rowsL n).length = L + 1 := ⟨(rowsL n).length - 1, by omega⟩
          rw [hL, Nat.add_sub_cancel] at hnd
          have hLl : L < (rowsL n).length := by omega
          have hL2 : L ≤ 2 := by omega
          have hcL : cnt L ≤ 3661 := by
            have : cnt 0 = 1 ∧ cnt 1 = 61 ∧ cnt 2 = 3661 := by decide
            obtain rfl | rfl | rfl : L = 0 ∨ L = 1 ∨ L = 2 := by omega
            all_goals omega
          have hG := rtread_any (q := q) (r := r) (B0 := B0) (c := c) (zs := zs) (v0 := v0) (p := w.heap.size + 1) (ch := ch) HV.out hn16 L hL2
          have CR := fun w6 (a1 : RVC q r B0 zs v0 v2 y c w6) (a2 : TrAt w.heap.size (w.heap.size + 1) [] none0 0 0 w6) (a3 : w.heap.size ≤ w6.heap.size) => hG y root 0 0 [] none0 w6 a1 HF.out hm a2 a3 (by omega) ⟨hLl, Nat.lt_of_lt_of_le (by omega) (r3 L hLl).1⟩ hr64
          rw [← hnd, show ((0 : Nat) : Int) = 0 from rfl] at CR
          have CW2 := fun w => CW n hn16 w
          rw [hL] at CW2
          have hLs : ((L + 1 : Nat) : Int) - 1 = (L : Int) := by omega
          have hLw : IntKind.i64.wrap (L : Int) = (L : Int) := wrapI _ (by omega) (by omega)
          clear CW hnd r1 r2 r3 hL0 hLl hL h3 h4 hG
          go_enter Tryz.func32, Tryz.ntmps32
          go_upto_region 2 with fail
          rw [HW1.out, HW2.out]
          go_upto_region 6 with fail
          go_region_held3 (fun w' => w'.cell? ⟨w.heap.size, 0, none⟩ = some (.int .i64 root) ∧ w'.cell? ⟨w.heap.size, 1, none⟩ = some (.int .i64 (n : Int)))
            (first | exact ⟨d0, d1⟩ | exact e6 | exact e7)
            (first
              | (go_at_call 66; refine (CW2 _).mono ?_; rintro e w6 ⟨vv, rfl, hr6, hB6⟩; obtain ⟨ga, capr, rfl⟩ := row_shape hr6
                 have hBl6 := keeps_of hB6 (show w2.drew.heap[w.heap.size]? = _ from HBl.out)
                 have e6 : w6.cell? ⟨w.heap.size, 0, none⟩ = some (.int .i64 root) ∧ w6.cell? ⟨w.heap.size, 1, none⟩ = some (.int .i64 (n : Int)) := (by simp [World.cell?, hBl6])
                 have HBl6 := Lib.hid hBl6
                 have HB6 := Lib.hid (show Below w2.heap.size w2 w6 from (show Below w2.heap.size w2 w2.drew from (Below.refl _ w2).drew).trans hB6)
                 clear hr6 hB6 hBl6)
              | (go_at_call 65; refine (CR _ (HR2.out.below HB6.out) (HT2.out.below HB6.out) (Nat.le_trans HB2.out.size HB6.out.size)).mono ?_; rintro e w7 ⟨rfl, hf7, h7, k7, O7, D7, t7, q7⟩
                 have hBl7 := k7.keep HBl6.out (by unfold K8; decide) (by unfold TRK; decide)
                 have e7 : w7.cell? ⟨w.heap.size, 0, none⟩ = some (.int .i64 root) ∧ w7.cell? ⟨w.heap.size, 1, none⟩ = some (.int .i64 (n : Int)) := (by simp [World.cell?, hBl7])
                 have HF7 := Lib.hid hf7; have H7 := Lib.hid h7; have K7 := Lib.hid (HK2.out.trans ((RT8.of_below HB6.out).trans k7)); have T7 := Lib.hid t7; have Q7 := Lib.hid q7
                 clear hf7 h7 k7 t7 q7 hBl7))
          all_goals (
            go_wp2
            go_ret
            exact ⟨_, rfl, HF7.out, H7.out, K7.out, O7, D7, T7.out.le (by omega), fun e => by
              obtain ⟨b1, b2⟩ := Q7.out e
              exact ⟨b1, b2⟩⟩)
set_option maxRecDepth 100000 in
/-- what Load says -/
theorem rload_any (h : RVC q r B0 zs v0 v2 y c w) (hf : FineV y) (hm : y.disk.made < 900000000) (root size : Int) (hr64 : I64 root) (hz64 : I64 size) :
    Calls Tryz.prog 8 #[.pointer (some ⟨q, 0, none⟩), .agg #[.int .i64 root, .int .i64 size]] w fun e w' => e = .returned (loadedT (ndBlob true y root size)) ∧ (FineV (ndBlob true y root size).x ∧ (ndBlob true y root size).x.disk = y.disk) ∧ RVC q r B0 zs v0 v2 (ndBlob true y root size).x c w' ∧ RT8 B0 w.heap.size w w' := by
  obtain ⟨w1, hw1⟩ : ∃ w1, w.alloc (.cells #[.int .i64 root, .int .i64 size] 24) = w1 := ⟨_, rfl⟩
  have hB1 : Below w.heap.size w w1 := by rw [← hw1]; exact (Below.refl _ w).alloc (Nat.le_refl _) _
  have CR := rtree_any (h.below hB1) hf hm root size hr64 hz64 true
  generalize ndBlob true y root size = R at *
  have hbl : w1.heap[w.heap.size]? = some (.cells #[.int .i64 root, .int .i64 size] 24 (0, 0)) := by rw [← hw1]; exact heap_alloc_new _ _
  have d0 : w1.cell? ⟨w.heap.size, 0, none⟩ = some (.int .i64 root) := by simp [World.cell?, hbl]
  have d1 : w1.cell? ⟨w.heap.size, 1, none⟩ = some (.int .i64 size) := by simp [World.cell?, hbl]
  have HB1 := Lib.hid hB1
  have HW1 := Lib.hid hw1
  clear h hf hB1 hw1 hbl
  go_enter Tryz.func8, Tryz.ntmps8
  go_upto_region 1 with fail
  rw [HW1.out]
  go_wp2_with fail
  refine CR.mono ?_
  rintro e w7 ⟨p, rfl, h1, h2, h3, O, D, h4, h5⟩
  obtain ⟨ov, a1, b1, c1, hob, _⟩ := h4.obj
  have f5 := TrO.c5 hob
  have f1 := TrO.c1 hob
  have H1 := Lib.hid h1
  have H2 := Lib.hid h2
  have H3 := Lib.hid ((RT8.of_below HB1.out).trans (RT8.mono h3 HB1.out.size))
  have H5 := Lib.hid h5
  clear h1 h2 h3 h4 h5 hob CR
  by_cases he : R.e = 0
  · have hb : (R.e != 0) = false := by simpa using he
    have HV := Lib.hid (show loadedT R = .tuple #[.string D, .int .i64 0] by
      rw [loadedT, if_pos he, ← (H5.out he).2, bsL_data])
    have HE := Lib.hid he
    clear he
    go_wp2
    go_ret2
    rw [HV.out]
    exact ⟨rfl, H1.out, H2.out, H3.out⟩
  · have hb : (R.e != 0) = true := by simpa using he
    have HV := Lib.hid (show loadedT R = .tuple #[.string none0, .int .i64 R.e] by rw [loadedT, if_neg he])
    clear he
    go_upto_region 3 with fail
    go_quiet (fail)
    go_wp2
    go_ret2
    rw [HV.out]
    exact ⟨rfl, H1.out, H2.out.below (below_drewN (Below.refl _ _) _), H3.out.trans (RT8.of_below (below_drewN (Below.refl _ _) _))⟩
set_option maxRecDepth 100000 in
/-- what Reach says -/
theorem rreach_any (h : RVC q r B0 zs v0 v2 y c w) (hf : FineV y) (hm : y.disk.made < 900000000) (root size : Int) (hr64 : I64 root) (hz64 : I64 size) :
    Calls Tryz.prog 10 #[.pointer (some ⟨q, 0, none⟩), .agg #[.int .i64 root, .int .i64 size]] w fun e w' => ∃ v, e = .returned (.tuple #[v, .int .i64 (ndBlob false y root size).e]) ∧ (FineV (ndBlob false y root size).x ∧ (ndBlob false y root size).x.disk = y.disk) ∧ RVC q r B0 zs v0 v2 (ndBlob false y root size).x c w' ∧ RT8 B0 w.heap.size w w' ∧ (((ndBlob false y root size).e = 0 ∧ w'.ownsRow w.heap.size 3 1 v (ordOf (ndBlob false y root size).vis).length (intVals (ordOf (ndBlob false y root size).vis)) ∧ (ordOf (ndBlob false y root size).vis).length ≤ 100000) ∨ ((ndBlob false y root size).e ≠ 0 ∧ v = .slice none 0 0)) := by
  obtain ⟨w1, hw1⟩ : ∃ w1, w.alloc (.cells #[.int .i64 root, .int .i64 size] 24) = w1 := ⟨_, rfl⟩
  have hB1 : Below w.heap.size w w1 := by rw [← hw1]; exact (Below.refl _ w).alloc (Nat.le_refl _) _
  have CR := rtree_any (h.below hB1) hf hm root size hr64 hz64 false
  generalize ndBlob false y root size = R at *
  have hbl : w1.heap[w.heap.size]? = some (.cells #[.int .i64 root, .int .i64 size] 24 (0, 0)) := by rw [← hw1]; exact heap_alloc_new _ _
  have d0 : w1.cell? ⟨w.heap.size, 0, none⟩ = some (.int .i64 root) := by simp [World.cell?, hbl]
  have d1 : w1.cell? ⟨w.heap.size, 1, none⟩ = some (.int .i64 size) := by simp [World.cell?, hbl]
  have HB1 := Lib.hid hB1
  have HW1 := Lib.hid hw1
  clear h hf hB1 hw1 hbl
  go_enter Tryz.func10, Tryz.ntmps10
  go_upto_region 1 with fail
  rw [HW1.out]
  go_wp2_with fail
  refine CR.mono ?_
  rintro e w7 ⟨p, rfl, h1, h2, h3, O, D, h4, h5⟩
  obtain ⟨ov, a1, b1, c1, hob, hrow, _⟩ := h4.obj
  obtain ⟨ga, cap, rfl⟩ := row_shape hrow
  have HRow := Lib.hid (CI.row_low hrow HB1.out.size)
  have HLen := Lib.hid h4.len
  clear hrow
  have f5 := TrO.c5 hob
  have f0 := TrO.c0 hob
  have H1 := Lib.hid h1
  have H2 := Lib.hid h2
  have H3 := Lib.hid ((RT8.of_below HB1.out).trans (RT8.mono h3 HB1.out.size))
  have H5 := Lib.hid h5
  clear h1 h2 h3 h4 h5 hob CR
  by_cases he : R.e = 0
  · have hb : (R.e != 0) = false := by simpa using he
    have HE := Lib.hid he
    clear he
    go_wp2
    go_ret2
    exact ⟨.slice ga O.length cap, by rw [HE.out]; rfl, H1.out, H2.out, H3.out, .inl ⟨HE.out, by rw [← (H5.out HE.out).1]; exact HRow.out, by rw [← (H5.out HE.out).1]; exact HLen.out⟩⟩
  · have hb : (R.e != 0) = true := by simpa using he
    have HE := Lib.hid he
    clear he
    go_upto_region 3 with fail
    go_quiet (fail)
    go_wp2
    go_ret2
    exact ⟨_, rfl, H1.out, H2.out.below (below_drewN (Below.refl _ _) _), H3.out.trans (RT8.of_below (below_drewN (Below.refl _ _) _)), .inr ⟨HE.out, rfl⟩⟩
end
end Go.Proofs.YtmloljjllmmkoaaGreat

