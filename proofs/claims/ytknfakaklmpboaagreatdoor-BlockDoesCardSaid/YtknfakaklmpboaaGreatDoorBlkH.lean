/-
  A volume: what a sector says of a root (find).
-/
import Derived.Test.YtknfakaklmpboaaGreatDoorBlkG
namespace Go.Proofs.YtknfakaklmpboaaGreatDoor
open Go.RowKit Go Go.Maps SM

theorem below_set {a w : World} (h : Below a.heap.size a w) {q i : Nat} (hq : a.heap.size ≤ q) (x : Value) : Below a.heap.size a (w.setCell ⟨q, i, none⟩ x) :=
  h.trans (((Stir.refl (· = q) w).set (.inl rfl) x).below (fun k e => by subst e; exact hq) h.size)
theorem slice_num (x : ByteArray) (i j : Nat) (hij : i ≤ j) (hj : j ≤ x.size) (_hx : x.size ≤ 1000) (W : World) :
    (Instr.slice 9 (.string x) (some (.int .i64 (i : Int))) (some (.int .i64 (j : Int))) none).run Tryz.prog W = .ok (.string (x.extract i j)) W := by
  have := run_slice_string W 9 x .i64 .i64 (i : Int) (j : Int) Tryz.underlying9 (by omega) (by omega) (by omega)
  rw [Int.toNat_natCast, Int.toNat_natCast] at this
  exact this
def foundV (x : ByteArray) (i : Nat) : Value := if isRoot x i then numV (rNum x) (rText x) else .agg #[.int .i64 0, .string ⟨#[]⟩]
set_option maxRecDepth 100000 in
set_option maxHeartbeats 4000000 in
theorem find_any (i : Nat) (x : ByteArray) (hx : x.size = 64) (w : World) :
    Calls Tryz.prog 66 #[.int .i64 i, .string x] w fun e w' => e = .returned (foundV x i) ∧ Below w.heap.size w w' := by
  have hsA : ∀ W, (Instr.slice 9 (.string x) (some (.int .i64 2)) (some (.int .i64 8)) none).run Tryz.prog W = .ok (.string (x.extract 2 8)) W := fun W => slice_num x 2 8 (by omega) (by omega) (by omega) W
  have hsB : ∀ W, (Instr.slice 9 (.string x) (some (.int .i64 8)) (some (.int .i64 9)) none).run Tryz.prog W = .ok (.string (x.extract 8 9)) W := fun W => slice_num x 8 9 (by omega) (by omega) (by omega) W
  have C1 := fun w => number_of (x.extract 2 8) (by rw [ByteArray.size_extract]; omega) w
  have C2 := fun w => number_of (x.extract 8 9) (by rw [ByteArray.size_extract]; omega) w
  rw [show valN (x.extract 2 8).data.toList = rNum x by rw [Lib.extract_data]; rfl] at C1
  rw [show valN (x.extract 8 9).data.toList = rLen x by rw [Lib.extract_data]; rfl] at C2
  have hn6 : rNum x ≤ 281474976710655 := by
    have := leN_le ((x.data.toList.drop 2).take 6) 6 (by simp; omega)
    unfold rNum; omega
  have hl1 : rLen x ≤ 255 := by
    have := leN_le ((x.data.toList.drop 8).take 1) 1 (by simp; omega)
    unfold rLen; omega
  have HT := Lib.hid (show rText x = x.extract 9 (9 + rLen x) from rfl)
  have HS := Lib.hid (fun (h : rLen x ≤ 40) W => slice_num x 9 (9 + rLen x) (by omega) (by omega) (by omega) W)
  have HR := Lib.hid (fun (h : rLen x ≤ 40) => rText_size h)
  obtain ⟨V, hV⟩ : ∃ V, foundV x i = V := ⟨_, rfl⟩
  rw [hV]
  have HV := Lib.hid (show V = if (decide (1 ≤ rNum x) && decide (rNum x ≤ 1099511627776) && decide (rLen x ≤ 40) && decide (rNum x % 2 = i) && decide (rootB (rText x) (rNum x) = x)) = true then numV (rNum x) (rText x) else .agg #[.int .i64 0, .string ⟨#[]⟩] from hV.symm)
  clear hV hx
  generalize x.extract 2 8 = XA at *
  generalize x.extract 8 9 = XB at *
  have hbad : rNum x < 1 ∨ (¬ rNum x < 1 ∧ 1099511627776 < rNum x) ∨ (¬ rNum x < 1 ∧ ¬ 1099511627776 < rNum x ∧ 40 < rLen x) ∨ (¬ rNum x < 1 ∧ ¬ 1099511627776 < rNum x ∧ ¬ 40 < rLen x ∧ rNum x % 2 ≠ i) ∨ (¬ rNum x < 1 ∧ ¬ 1099511627776 < rNum x ∧ ¬ 40 < rLen x ∧ rNum x % 2 = i) := by omega
  rcases hbad with h1 | ⟨h1, h2⟩ | ⟨h1, h2, h3⟩ | ⟨h1, h2, h3, h4⟩ | ⟨h1, h2, h3, h4⟩
  · have HV2 := Lib.hid (show V = .agg #[.int .i64 0, .string ⟨#[]⟩] by rw [HV.out, if_neg (by simp; omega)])
    generalize rNum x = n at *
    generalize rLen x = k at *
    have g1 : (n : Int) < 1 := by omega
    clear HV HT HS HR h1
    go_enter Tryz.func66, Tryz.ntmps66
    go_wp2_with fail
    refine (C1 _).mono ?_
    rintro e w1 ⟨rfl, rfl⟩
    go_wp2_with fail
    refine (C2 _).mono ?_
    rintro e w2 ⟨rfl, rfl⟩
    go_wp2
    rw [HV2.out]
    refine bodyPost_ret ?_ rfl ⟨rfl, ?_⟩
    · rw [DG.results_cell rfl]
      go_simp
    · exact (Below.refl _ _).alloc (Nat.le_refl _) _
  · have HV2 := Lib.hid (show V = .agg #[.int .i64 0, .string ⟨#[]⟩] by rw [HV.out, if_neg (by simp; omega)])
    generalize rNum x = n at *
    generalize rLen x = k at *
    have g1 : ¬ (n : Int) < 1 := by omega
    have g2 : (1099511627776 : Int) < (n : Int) := by omega
    clear HV HT HS HR h1 h2
    go_enter Tryz.func66, Tryz.ntmps66
    go_wp2_with fail
    refine (C1 _).mono ?_
    rintro e w1 ⟨rfl, rfl⟩
    go_wp2_with fail
    refine (C2 _).mono ?_
    rintro e w2 ⟨rfl, rfl⟩
    go_wp2
    rw [HV2.out]
    refine bodyPost_ret ?_ rfl ⟨rfl, ?_⟩
    · rw [DG.results_cell rfl]
      go_simp
    · exact (Below.refl _ _).alloc (Nat.le_refl _) _
  · have HV2 := Lib.hid (show V = .agg #[.int .i64 0, .string ⟨#[]⟩] by rw [HV.out, if_neg (by simp; omega)])
    generalize rNum x = n at *
    generalize rLen x = k at *
    have g1 : ¬ (n : Int) < 1 := by omega
    have g2 : ¬ (1099511627776 : Int) < (n : Int) := by omega
    have g3 : (40 : Int) < (k : Int) := by omega
    clear HV HT HS HR h1 h2 h3
    go_enter Tryz.func66, Tryz.ntmps66
    go_wp2_with fail
    refine (C1 _).mono ?_
    rintro e w1 ⟨rfl, rfl⟩
    go_wp2_with fail
    refine (C2 _).mono ?_
    rintro e w2 ⟨rfl, rfl⟩
    go_wp2
    rw [HV2.out]
    refine bodyPost_ret ?_ rfl ⟨rfl, ?_⟩
    · rw [DG.results_cell rfl]
      go_simp
    · exact (Below.refl _ _).alloc (Nat.le_refl _) _
  all_goals (
    have hsC : ∀ W, (Instr.slice 9 (.string x) (some (.int .i64 9)) (some (.int .i64 (9 + (rLen x : Int)))) none).run Tryz.prog W = .ok (.string (x.extract 9 (9 + rLen x))) W := fun W => by
      have := HS.out (by omega) W
      rwa [show ((9 + rLen x : Nat) : Int) = 9 + (rLen x : Int) by omega] at this
    rw [← HT.out] at hsC
    have ht := HR.out (by omega)
    have CP := fun w => place_any (rNum x) (rText x) hn6 w
    have CS := fun w => rsector_any (rNum x) (rText x) hn6 ht w
    unfold numV at CP CS
    clear HT HS HR)
  · have HV2 := Lib.hid (show V = .agg #[.int .i64 0, .string ⟨#[]⟩] by rw [HV.out, if_neg (by simp; omega)])
    have g4 : ((((rNum x) % 2 : Nat) : Int) != (i : Int)) = true := by rw [bne_iff_ne]; omega
    generalize (rNum x) % 2 = q at *
    generalize rootB (rText x) (rNum x) = Y at *
    generalize rText x = T at *
    generalize rNum x = n at *
    generalize rLen x = k at *
    have g1 : ¬ (n : Int) < 1 := by omega
    have g2 : ¬ (1099511627776 : Int) < (n : Int) := by omega
    have g3 : ¬ (40 : Int) < (k : Int) := by omega
    obtain ⟨w1, hw1⟩ : ∃ w1, (w.alloc (.cells #[.int .i64 0, .string ⟨#[]⟩] 65)).alloc (.cells #[.int .i64 n, .string T] 65) = w1 := ⟨_, rfl⟩
    have HB1 := Lib.hid (show Below w.heap.size w w1 by rw [← hw1]; exact ((Below.refl _ w).alloc (Nat.le_refl _) _).alloc (by simp) _)
    have HOr := Lib.hid (show w1.heap[w.heap.size + 1]? = some (numO n T) by rw [← hw1]; have := heap_alloc_new (w.alloc (.cells #[.int .i64 0, .string ⟨#[]⟩] 65)) (numO n T); rw [World.size_alloc] at this; exact this)
    have HOq := Lib.hid (show w1.heap[w.heap.size]? = some (numO 0 ⟨#[]⟩) by rw [← hw1]; exact heap_alloc_old (heap_alloc_new w (numO 0 ⟨#[]⟩)) _)
    have r0 := numO.c0 HOr.out
    have r1 := numO.c1 HOr.out
    clear HV h1 h2 h3 h4 CS
    go_enter Tryz.func66, Tryz.ntmps66
    go_wp2_with fail
    refine (C1 _).mono ?_
    rintro e w1 ⟨rfl, rfl⟩
    go_wp2_with fail
    refine (C2 _).mono ?_
    rintro e w2 ⟨rfl, rfl⟩
    go_wp2_with fail
    refine (CP _).mono ?_
    rintro e w3 ⟨rfl, hB3⟩
    have HB3 := Lib.hid (HB1.out.trans (hB3.mono HB1.out.size))
    have HO3 := Lib.hid (keeps_of hB3 HOq.out)
    clear hB3
    have q0 : w3.cell? ⟨w.heap.size, 0, none⟩ = some (.int .i64 0) := numO.c0 HO3.out
    have q1 := numO.c1 HO3.out
    have qf := numO.fr HO3.out
    go_wp2
    rw [HV2.out]
    refine bodyPost_ret ?_ rfl ⟨rfl, ?_⟩
    · rw [DG.results_cell rfl]
      go_simp
    · first | exact HB3.out | exact below_set HB3.out (Nat.le_refl _) _ | exact below_set (below_set HB3.out (Nat.le_refl _) _) (Nat.le_refl _) _
  · have g4 : ((((rNum x) % 2 : Nat) : Int) != (i : Int)) = false := by rw [h4]; simp
    have HVV := Lib.hid (show V = if rootB (rText x) (rNum x) = x then numV (rNum x) (rText x) else .agg #[.int .i64 0, .string ⟨#[]⟩] by
      rw [HV.out]
      have e1 : decide (1 ≤ rNum x) = true := decide_eq_true (by omega)
      have e2 : decide (rNum x ≤ 1099511627776) = true := decide_eq_true (by omega)
      have e3 : decide (rLen x ≤ 40) = true := decide_eq_true (by omega)
      have e4 : decide (rNum x % 2 = i) = true := decide_eq_true h4
      rw [e1, e2, e3, e4]
      simp)
    generalize (rNum x) % 2 = q at *
    generalize rootB (rText x) (rNum x) = Y at *
    generalize rText x = T at *
    generalize rNum x = n at *
    generalize rLen x = k at *
    have g1 : ¬ (n : Int) < 1 := by omega
    have g2 : ¬ (1099511627776 : Int) < (n : Int) := by omega
    have g3 : ¬ (40 : Int) < (k : Int) := by omega
    obtain ⟨w1, hw1⟩ : ∃ w1, (w.alloc (.cells #[.int .i64 0, .string ⟨#[]⟩] 65)).alloc (.cells #[.int .i64 n, .string T] 65) = w1 := ⟨_, rfl⟩
    have HB1 := Lib.hid (show Below w.heap.size w w1 by rw [← hw1]; exact ((Below.refl _ w).alloc (Nat.le_refl _) _).alloc (by simp) _)
    have HOr := Lib.hid (show w1.heap[w.heap.size + 1]? = some (numO n T) by rw [← hw1]; have := heap_alloc_new (w.alloc (.cells #[.int .i64 0, .string ⟨#[]⟩] 65)) (numO n T); rw [World.size_alloc] at this; exact this)
    have HOq := Lib.hid (show w1.heap[w.heap.size]? = some (numO 0 ⟨#[]⟩) by rw [← hw1]; exact heap_alloc_old (heap_alloc_new w (numO 0 ⟨#[]⟩)) _)
    have r0 := numO.c0 HOr.out
    have r1 := numO.c1 HOr.out
    clear HV h1 h2 h3 h4
    by_cases h5 : Y = x
    · have HV2 := Lib.hid (show V = numV n T by rw [HVV.out, if_pos h5])
      subst h5
      have hE : (Y.toList == Y.toList) = true := by simp
      have hE2 : (Y.toList != Y.toList) = false := by simp
      clear HVV
      go_enter Tryz.func66, Tryz.ntmps66
      go_wp2_with fail
      refine (C1 _).mono ?_
      rintro e w1 ⟨rfl, rfl⟩
      go_wp2_with fail
      refine (C2 _).mono ?_
      rintro e w2 ⟨rfl, rfl⟩
      go_wp2_with fail
      refine (CP _).mono ?_
      rintro e w3 ⟨rfl, hB3⟩
      have HB3 := Lib.hid (HB1.out.trans (hB3.mono HB1.out.size))
      have HO3 := Lib.hid (keeps_of hB3 HOq.out)
      have HOr3 := Lib.hid (keeps_of hB3 HOr.out)
      have s0 := numO.c0 HOr3.out
      have s1 := numO.c1 HOr3.out
      clear hB3
      go_wp2_with fail
      refine (CS _).mono ?_
      rintro e w4 ⟨rfl, hB4⟩
      have HB4 := Lib.hid (HB3.out.trans (hB4.mono HB3.out.size))
      have HO4 := Lib.hid (keeps_of hB4 HO3.out)
      have HOr4 := Lib.hid (keeps_of hB4 HOr3.out)
      have t0 := numO.c0 HOr4.out
      have t1 := numO.c1 HOr4.out
      clear hB4 s0 s1
      have q0 : w4.cell? ⟨w.heap.size, 0, none⟩ = some (.int .i64 0) := numO.c0 HO4.out
      have q1 := numO.c1 HO4.out
      have qf := numO.fr HO4.out
      go_wp2
      rw [HV2.out]
      refine bodyPost_ret ?_ rfl ⟨rfl, ?_⟩
      · rw [DG.results_cell rfl]
        go_simp
        all_goals rfl
      · first | exact HB4.out | exact below_set HB4.out (Nat.le_refl _) _ | exact below_set (below_set HB4.out (Nat.le_refl _) _) (Nat.le_refl _) _
    · have HV2 := Lib.hid (show V = .agg #[.int .i64 0, .string ⟨#[]⟩] by rw [HVV.out, if_neg h5])
      obtain ⟨hE, hE2⟩ := texts_ne h5
      clear HVV h5
      go_enter Tryz.func66, Tryz.ntmps66
      go_wp2_with fail
      refine (C1 _).mono ?_
      rintro e w1 ⟨rfl, rfl⟩
      go_wp2_with fail
      refine (C2 _).mono ?_
      rintro e w2 ⟨rfl, rfl⟩
      go_wp2_with fail
      refine (CP _).mono ?_
      rintro e w3 ⟨rfl, hB3⟩
      have HB3 := Lib.hid (HB1.out.trans (hB3.mono HB1.out.size))
      have HO3 := Lib.hid (keeps_of hB3 HOq.out)
      have HOr3 := Lib.hid (keeps_of hB3 HOr.out)
      have s0 := numO.c0 HOr3.out
      have s1 := numO.c1 HOr3.out
      clear hB3
      go_wp2_with fail
      refine (CS _).mono ?_
      rintro e w4 ⟨rfl, hB4⟩
      have HB4 := Lib.hid (HB3.out.trans (hB4.mono HB3.out.size))
      have HO4 := Lib.hid (keeps_of hB4 HO3.out)
      clear hB4 s0 s1
      have q0 : w4.cell? ⟨w.heap.size, 0, none⟩ = some (.int .i64 0) := numO.c0 HO4.out
      have q1 := numO.c1 HO4.out
      have qf := numO.fr HO4.out
      go_wp2
      rw [HV2.out]
      refine bodyPost_ret ?_ rfl ⟨rfl, ?_⟩
      · rw [DG.results_cell rfl]
        go_simp
        all_goals rfl
      · first | exact HB4.out | exact below_set HB4.out (Nat.le_refl _) _ | exact below_set (below_set HB4.out (Nat.le_refl _) _) (Nat.le_refl _) _
end Go.Proofs.YtknfakaklmpboaaGreatDoor

