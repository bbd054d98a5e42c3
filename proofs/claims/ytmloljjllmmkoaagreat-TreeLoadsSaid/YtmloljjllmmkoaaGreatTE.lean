/-
  TreE / TreF / TreG.
-/
import Derived.Test.YtmloljjllmmkoaaGreatTC
namespace Go.Proofs.YtmloljjllmmkoaaGreat
open Go.RowKit Go Go.Maps SM TR

/-- as many visits at most -/
def cnt : Nat → Nat
  | 0 => 1
  | l + 1 => 1 + 60 * cnt l
theorem pcs_le {n E : Nat} (hE : 1 ≤ E) (h : n ≤ 60 * E) : pcs n E ≤ 60 := by
  unfold pcs
  refine Nat.le_of_lt_succ ((Nat.div_lt_iff_lt_mul (by omega)).2 ?_)
  rw [Nat.succ_mul]; omega
theorem pcs_lt {n E j : Nat} (hE : 1 ≤ E) (h : j < pcs n E) : j * E < n := by
  unfold pcs at h
  have h1 : (j + 1) * E ≤ n + E - 1 := Nat.le_trans (Nat.mul_le_mul_right E h) (Nat.div_mul_le_self _ _)
  rw [Nat.add_mul, Nat.one_mul] at h1
  omega
theorem loop_len {step : Nat → VS → RT} {c : Nat} (h : ∀ i y, (step i y).vis.length ≤ c) : ∀ k i x, (loopN step k i x).vis.length ≤ k * c
  | 0, i, x => by simp [loopN]
  | k + 1, i, x => by
    by_cases e : (step i x).e = 0
    · rw [loopN_go e, RT.and, List.length_append, Nat.add_mul, Nat.one_mul]
      have := loop_len h k (i + 1) (step i x).x
      have := h i x
      omega
    · rw [loopN_stop e]; simp
theorem rdOne_len (x : VS) (v : Int) (row n : Nat) : (rdOne x v row n).vis.length ≤ 1 := by
  unfold rdOne
  split
  · simp
  · split <;> simp
theorem nd_len (chunks : Bool) : ∀ l x v n, n ≤ sp l → (nd chunks l x v n).vis.length ≤ cnt l
  | 0, x, v, n, _ => by
    rw [nd]
    split
    · exact rdOne_len x v 0 n
    · simp [cnt]
  | l + 1, x, v, n, h => by
    rw [nd, cnt]
    split
    · rw [RT.and, List.length_append]
      have h1 := rdOne_len x v (l + 1) (4 * pcs n (sp l))
      have h2 := loop_len (step := fun i y => nd chunks l y (ptrAt (x.read v).2.1 i) (min (sp l) (n - i * sp l))) (c := cnt l) (fun i y => nd_len chunks l y _ _ (Nat.min_le_left _ _)) (pcs n (sp l)) 0 (rdOne x v (l + 1) (4 * pcs n (sp l))).x
      have h3 := pcs_le (sp_pos l) (n := n) (by rw [sp_succ] at h; exact h)
      have h4 := Nat.mul_le_mul_right (cnt l) h3
      omega
    · simp
/-- a visitor's function keeps what its visits say; what there is behind an error -/
def Visits (K : Nat) (B p : Nat) (chunks : Bool) (I : Vis → VS → World → Prop) (J : VS → World → Prop) : Prop :=
  ∀ (V : Vis) (x : VS) (w : World) (row n : Nat) (v : Int), row ≤ 2 → I64 v → n ≤ 16384 → V.length ≤ 50000 → I V x w →
    Calls Tryz.prog K #[.pointer (some ⟨p, 0, none⟩), .int .i64 v, .int .i64 row, .int .i64 n] w fun e w' => e = .returned (stpV chunks x v row n) ∧ J (stp chunks x v row n).x w' ∧ ((stp chunks x v row n).e = 0 → I (V ++ (stp chunks x v row n).vis) (stp chunks x v row n).x w') ∧ TKeep B w w'
/-- so does what goes through a row's block -/
def Descs (T : TypeId) (B p : Nat) (chunks : Bool) (I : Vis → VS → World → Prop) (J : VS → World → Prop) (l : Nat) : Prop :=
  ∀ (V : Vis) (x : VS) (w : World) (n : Nat) (v : Int), 1 ≤ n → n ≤ sp l → n ≤ 16384 → I64 v → V.length + cnt l ≤ 50000 → I V x w →
    Calls Tryz.prog 67 #[.iface T (.pointer (some ⟨p, 0, none⟩)), .int .i64 v, .int .i64 l, .int .i64 n] w fun e w' => e = .returned (.int .i64 (nd chunks l x v n).e) ∧ J (nd chunks l x v n).x w' ∧ ((nd chunks l x v n).e = 0 → I (V ++ (nd chunks l x v n).vis) (nd chunks l x v n).x w') ∧ TKeep B w w'
theorem nd_zero (chunks : Bool) (x : VS) (v : Int) (n : Nat) : nd chunks 0 x v n = stp chunks x v 0 n := by
  cases chunks <;> simp [nd, stp]
theorem ptr64 (P : ByteArray) (i : Nat) : I64 (ptrAt P i) := by
  have := valN_few (l := (P.data.toList.drop (4 * i)).take 4) (k := 4) (by rw [List.length_take]; omega)
  unfold ptrAt
  constructor <;> omega
theorem slice_ptr (P : ByteArray) (j : Nat) (hj : 4 * j + 4 ≤ P.size) (hP : P.size ≤ 1000) (W : World) :
    (Instr.slice 9 (.string P) (some (.int .i64 ((j : Int) * 4))) (some (.int .i64 (((j : Int) + 1) * 4))) none).run Tryz.prog W = .ok (.string (P.extract (4 * j) (4 * j + 4))) W := by
  have := slice_num P (4 * j) (4 * j + 4) (by omega) hj hP W
  rwa [show (((4 * j : Nat)) : Int) = (j : Int) * 4 by omega, show (((4 * j + 4 : Nat)) : Int) = ((j : Int) + 1) * 4 by omega] at this
theorem num_ptr (P : ByteArray) (j : Nat) (hj : 4 * j + 4 ≤ P.size) (w : World) :
    Calls Tryz.prog 99 #[.string (P.extract (4 * j) (4 * j + 4))] w fun e w' => e = .returned (.int .i64 (ptrAt P j)) ∧ w = w' := by
  have h := number_of (P.extract (4 * j) (4 * j + 4)) (by rw [ByteArray.size_extract]; omega) w
  rw [Lib.extract_data, show 4 * j + 4 - 4 * j = 4 by omega] at h
  exact h
theorem method_visitL (a : Addr) (w : World) : (method 322 67 (.pointer (some a)) "stillage/tree.visit").run Tryz.prog w = .ok (156, .pointer (some a)) w := by kernel_rfl
section
variable {B p : Nat} {chunks : Bool} {I : Vis → VS → World → Prop} {J : VS → World → Prop}
set_option maxRecDepth 100000 in
theorem descL_zero (hv : Visits 156 B p chunks I J) : Descs 67 B p chunks I J 0 := by
  intro V x w n v h1 h2 h3 h64 hV hI
  have hm := method_visitL ⟨p, 0, none⟩
  have C := hv V x w 0 n v (by omega) h64 h3 (by omega) hI
  obtain ⟨P, hP, _⟩ := stpV_is chunks x v 0 n
  rw [nd_zero]
  rw [hP] at C
  have C' : Calls Tryz.prog 156 #[.pointer (some ⟨p, 0, none⟩), .int .i64 v, .int .i64 0, .int .i64 n] w _ := C
  generalize stp chunks x v 0 n = S at *
  obtain ⟨E, Q, y⟩ := S
  simp only at C' ⊢
  clear hP C hI
  have C2 : Calls Tryz.prog 67 #[.iface 67 (.pointer (some ⟨p, 0, none⟩)), .int .i64 v, .int .i64 0, .int .i64 n] w fun e w' => e = .returned (.int .i64 E) ∧ J y w' ∧ (E = 0 → I (V ++ Q) y w') ∧ TKeep B w w' := by
    go_enter Tryz.func67, Tryz.ntmps67
    go_wp2_with fail
    refine C'.mono ?_
    rintro e w1 ⟨rfl, hJ, hI1, hk⟩
    have HJ := Lib.hid hJ
    have HI := Lib.hid hI1
    have HK := Lib.hid hk
    clear hJ hI1 hk C'
    go_wp2
    go_ret
    exact ⟨rfl, HJ.out, HI.out, HK.out⟩
  exact C2
set_option maxRecDepth 100000 in
set_option maxHeartbeats 4000000 in
theorem descL_succ (hv : Visits 156 B p chunks I J) (hJ : ∀ V x w, I V x w → J x w) {l : Nat} (hl : l ≤ 1) (ih : Descs 67 B p chunks I J l) : Descs 67 B p chunks I J (l + 1) := by
  intro V x w n v h1 h2 h3 h64 hV hI
  have hm := method_visitL ⟨p, 0, none⟩
  obtain ⟨R, hR⟩ : ∃ R, nd chunks (l + 1) x v n = R := ⟨_, rfl⟩
  rw [hR]
  have hE1 := sp_pos l
  have hE2 := sp_le (l := l) (by omega)
  have C1 := fun w => span_any l (by omega) w
  obtain ⟨E, hE⟩ : ∃ E, sp l = E := ⟨_, rfl⟩
  have hR' := hR
  rw [nd, hE] at hR'
  rw [hE] at C1 hE1 hE2
  rw [sp_succ, hE] at h2
  have hm60 := pcs_le hE1 h2
  have C2 := fun w => parts_any n E (by omega) hE1 hE2 w
  obtain ⟨m, hmE⟩ : ∃ m, pcs n E = m := ⟨_, rfl⟩
  rw [hmE] at C2 hR' hm60
  have C3 := hv V x w (l + 1) (4 * m) v (by omega) h64 (by omega) (by omega) hI
  obtain ⟨P, hP, hP2⟩ := stpV_is chunks x v (l + 1) (4 * m)
  rw [hP] at C3
  have hst : stp chunks x v (l + 1) (4 * m) = rdOne x v (l + 1) (4 * m) := by rw [stp, if_neg (by simp)]
  rw [hst] at C3 hP2
  have HP := Lib.hid (hP2 (by omega))
  have HLen := Lib.hid (rdOne_len x v (l + 1) (4 * m))
  have hlI : l ≤ 2 := by omega
  obtain ⟨L, hL⟩ : ∃ L, l + 1 = L := ⟨_, rfl⟩
  have HC := Lib.hid (show V.length + (1 + 60 * cnt l) ≤ 50000 from hV)
  have HIh := Lib.hid ih
  have HNl := Lib.hid (fun x v n h => nd_len chunks l x v n h)
  rw [hE] at HNl
  have HSp := Lib.hid hE
  have HMl := Lib.hid (show ∀ j, j < m → j * E < n from fun j hj => pcs_lt hE1 (by rw [hmE]; exact hj))
  rw [hL] at C3 hR' HP HLen ⊢
  obtain ⟨S, hS⟩ : ∃ S, rdOne x v L (4 * m) = S := ⟨_, rfl⟩
  rw [hS] at C3 hR' HP HLen
  have hLi : (L : Int) - 1 = (l : Int) := by omega
  have hL0 : ((L : Int) == 0) = false := by simp; omega
  have hm4 : ((4 * m : Nat) : Int) = (m : Int) * 4 := by omega
  rw [hm4] at C3
  have HRR := Lib.hid hR'
  clear hR hR' hL hst hP hP2 hS hI ih hV h64 h2 hmE hE hm4
  go_enter Tryz.func67, Tryz.ntmps67
  go_wp2_with fail
  refine (C1 _).mono ?_
  rintro e w' ⟨rfl, rfl⟩
  go_wp2_with fail
  refine (C2 _).mono ?_
  rintro e w' ⟨rfl, rfl⟩
  go_wp2_with fail
  refine C3.mono ?_
  rintro e w1 ⟨rfl, hJ1, hI1, hk1⟩
  have HJ1 := Lib.hid hJ1
  have HI1 := Lib.hid hI1
  have HK1 := Lib.hid hk1
  clear hJ1 hI1 hk1 C1 C2 C3 hm
  by_cases hS0 : S.e = 0
  · have HS0 := Lib.hid hS0
    have hSb : (S.e != 0) = false := by simpa using hS0
    obtain ⟨hP1, hP3⟩ := HP.out hS0
    have HRq := Lib.hid (show R = S.and (loopN (fun i y => nd chunks l y (ptrAt P i) (min E (n - i * E))) m 0 S.x) from by rw [← HRR.out, if_pos hS0, hP1])
    have HI2 := Lib.hid (HI1.out hS0)
    have hPs : P.size ≤ 1000 := by omega
    have HPs := Lib.hid hP3
    generalize S.e = SE at *
    clear hS0 hP1 hP3 HRR HP HI1
    go_wp2
    go_loopw [48] (fun i wr => ∃ (j : Nat) (V' : Vis) (y : VS), j ≤ m ∧ i = .int .i64 j ∧ Hid (V'.length ≤ 1 + j * cnt l) ∧ Hid (R.e = (loopN (fun i y => nd chunks l y (ptrAt P i) (min E (n - i * E))) (m - j) j y).e ∧ R.x = (loopN (fun i y => nd chunks l y (ptrAt P i) (min E (n - i * E))) (m - j) j y).x ∧ R.vis = V' ++ (loopN (fun i y => nd chunks l y (ptrAt P i) (min E (n - i * E))) (m - j) j y).vis) ∧ Hid (I (V ++ V') y wr) ∧ Hid (TKeep B w wr)) (fun i _ => m - (intOf i).toNat)
    case atStart => exact ⟨0, S.vis, S.x, Nat.zero_le _, rfl, Lib.hid (by have := HLen.out; omega), Lib.hid ⟨by rw [HRq.out]; rfl, by rw [HRq.out]; rfl, by rw [HRq.out]; rfl⟩, HI2, HK1⟩
    case round =>
      obtain ⟨j, V', y, hj, rfl, HVl, HQ, HIr, HKr⟩ := hrel
      by_cases hlt : j < m
      · have hji : (j : Int) < (m : Int) := by omega
        have hsl := slice_ptr P j (by have := HPs.out; omega) hPs
        have Cn := fun w => num_ptr P j (by have := HPs.out; omega) w
        have hYn := HMl.out j hlt
        obtain ⟨Y, hY⟩ : ∃ Y, j * E = Y := ⟨_, rfl⟩
        have hYi : (j : Int) * (E : Int) = (Y : Int) := by rw [← hY, Int.natCast_mul]
        rw [hY] at hYn
        obtain ⟨D, hD⟩ : ∃ D, n - Y = D := ⟨_, rfl⟩
        have hDi : (n : Int) - (Y : Int) = (D : Int) := by omega
        have h4 : m - j = (m - (j + 1)) + 1 := by omega
        obtain ⟨Z, hZm⟩ : ∃ Z, min E D = Z := ⟨_, rfl⟩
        have hZi : (Z : Int) = min (E : Int) (D : Int) := by omega
        have C4 := fun w (hI : I (V ++ V') y w) => HIh.out (V ++ V') y w Z (ptrAt P j) (by omega) (by rw [HSp.out]; omega) (by omega) (ptr64 P j) (by
          have h5 := HVl.out
          have h6 := HC.out
          have h7 := Nat.mul_le_mul_right (cnt l) (show j + 1 ≤ 60 by omega)
          rw [Nat.add_mul, Nat.one_mul] at h7
          rw [List.length_append]
          omega) hI
        rw [hZi] at C4
        have HN2 := Lib.hid (HNl.out y (ptrAt P j) Z (by omega))
        have hstep : nd chunks l y (ptrAt P j) (min E (n - j * E)) = nd chunks l y (ptrAt P j) Z := by
          rw [hY, hD, hZm]
        obtain ⟨T, hT⟩ : ∃ T, nd chunks l y (ptrAt P j) Z = T := ⟨_, rfl⟩
        rw [hT] at C4 hstep HN2
        by_cases hT0 : T.e = 0
        · have HT0 := Lib.hid hT0
          have hTb : (T.e != 0) = false := by simpa using hT0
          have HQ2 := Lib.hid (show R.e = (loopN (fun i y => nd chunks l y (ptrAt P i) (min E (n - i * E))) (m - (j + 1)) (j + 1) T.x).e ∧ R.x = (loopN (fun i y => nd chunks l y (ptrAt P i) (min E (n - i * E))) (m - (j + 1)) (j + 1) T.x).x ∧ R.vis = (V' ++ T.vis) ++ (loopN (fun i y => nd chunks l y (ptrAt P i) (min E (n - i * E))) (m - (j + 1)) (j + 1) T.x).vis by
            have hq := HQ.out
            rw [h4, loopN_go (by simp only [hstep]; exact hT0)] at hq
            simp only [hstep] at hq
            exact ⟨hq.1, hq.2.1, by rw [hq.2.2, RT.and, List.append_assoc]⟩)
          generalize T.e = TE at *
          · clear hT0 hstep hT h4 hZm hZi HQ hD hY
            go_wp2_with fail
            refine (Cn _).mono ?_
            rintro e w' ⟨rfl, rfl⟩
            go_wp2_with fail
            refine (C4 _ HIr.out).mono ?_
            rintro e w2 ⟨rfl, hJ2, hI3, hk2⟩
            have HI3 := Lib.hid (hI3 HT0.out)
            have HK2 := Lib.hid (HKr.out.trans hk2)
            clear hJ2 hI3 hk2 C4 Cn
            go_wp2
            go_roundw
            case rel => exact ⟨j + 1, V' ++ T.vis, T.x, by omega, by go_num, Lib.hid (by rw [List.length_append, Nat.add_mul, Nat.one_mul]; have := HVl.out; have := HN2.out; omega), HQ2, Lib.hid (by rw [← List.append_assoc]; exact HI3.out), HK2⟩
            case measure => simp [intOf]; omega
        · have HQ2 := Lib.hid (show R.e = T.e ∧ R.x = T.x by
            have hq := HQ.out
            rw [h4, loopN_stop (by simp only [hstep]; exact hT0)] at hq
            simp only [hstep] at hq
            exact ⟨hq.1, hq.2.1⟩)
          have HT0 := Lib.hid hT0
          have hTb : (T.e != 0) = true := by simpa using hT0
          generalize T.e = TE at *
          · clear hT0 hstep hT h4 hZm hZi HQ hD hY
            go_wp2_with fail
            refine (Cn _).mono ?_
            rintro e w' ⟨rfl, rfl⟩
            go_wp2_with fail
            refine (C4 _ HIr.out).mono ?_
            rintro e w2 ⟨rfl, hJ2, hI3, hk2⟩
            have HJ2 := Lib.hid hJ2
            have HK2 := Lib.hid (HKr.out.trans hk2)
            clear hJ2 hI3 hk2 C4 Cn
            go_wp2
            go_ret
            exact ⟨by rw [HQ2.out.1]; rfl, by rw [HQ2.out.2]; exact HJ2.out, fun e => absurd (HQ2.out.1.symm.trans e) HT0.out, HK2.out⟩
      · obtain rfl : j = m := by omega
        have hji : ¬ (j : Int) < (j : Int) := by omega
        have HF := Lib.hid (show R.e = 0 ∧ R.x = y ∧ R.vis = V' by
          have hq := HQ.out
          rw [Nat.sub_self, loopN] at hq
          exact ⟨hq.1, hq.2.1, by rw [hq.2.2, List.append_nil]⟩)
        have HJr := Lib.hid (hJ _ _ _ HIr.out)
        go_wp2
        go_ret
        exact ⟨by rw [HF.out.1]; rfl, by rw [HF.out.2.1]; exact HJr.out, fun _ => by rw [HF.out.2.1, HF.out.2.2]; exact HIr.out, HKr.out⟩
  · have HF := Lib.hid (show R.e = S.e ∧ R.x = S.x from by rw [← HRR.out, if_neg hS0]; exact ⟨rfl, rfl⟩)
    have HS0 := Lib.hid hS0
    have hSb : (S.e != 0) = true := by simpa using hS0
    generalize S.e = SE at *
    clear hS0 HRR HP
    go_wp2
    go_ret
    exact ⟨by rw [HF.out.1]; rfl, by rw [HF.out.2]; exact HJ1.out, fun e => absurd (HF.out.1.symm.trans e) HS0.out, HK1.out⟩
end
theorem method_visitR (a : Addr) (w : World) : (method 322 76 (.pointer (some a)) "stillage/tree.visit").run Tryz.prog w = .ok (158, .pointer (some a)) w := by kernel_rfl
section
variable {B p : Nat} {chunks : Bool} {I : Vis → VS → World → Prop} {J : VS → World → Prop}
set_option maxRecDepth 100000 in
theorem descR_zero (hv : Visits 158 B p chunks I J) : Descs 76 B p chunks I J 0 := by
  intro V x w n v h1 h2 h3 h64 hV hI
  have hm := method_visitR ⟨p, 0, none⟩
  have C := hv V x w 0 n v (by omega) h64 h3 (by omega) hI
  obtain ⟨P, hP, _⟩ := stpV_is chunks x v 0 n
  rw [nd_zero]
  rw [hP] at C
  have C' : Calls Tryz.prog 158 #[.pointer (some ⟨p, 0, none⟩), .int .i64 v, .int .i64 0, .int .i64 n] w _ := C
  generalize stp chunks x v 0 n = S at *
  obtain ⟨E, Q, y⟩ := S
  simp only at C' ⊢
  clear hP C hI
  have C2 : Calls Tryz.prog 67 #[.iface 76 (.pointer (some ⟨p, 0, none⟩)), .int .i64 v, .int .i64 0, .int .i64 n] w fun e w' => e = .returned (.int .i64 E) ∧ J y w' ∧ (E = 0 → I (V ++ Q) y w') ∧ TKeep B w w' := by
    go_enter Tryz.func67, Tryz.ntmps67
    go_wp2_with fail
    refine C'.mono ?_
    rintro e w1 ⟨rfl, hJ, hI1, hk⟩
    have HJ := Lib.hid hJ
    have HI := Lib.hid hI1
    have HK := Lib.hid hk
    clear hJ hI1 hk C'
    go_wp2
    go_ret
    exact ⟨rfl, HJ.out, HI.out, HK.out⟩
  exact C2
set_option maxRecDepth 100000 in
set_option maxHeartbeats 4000000 in
theorem descR_succ (hv : Visits 158 B p chunks I J) (hJ : ∀ V x w, I V x w → J x w) {l : Nat} (hl : l ≤ 1) (ih : Descs 76 B p chunks I J l) : Descs 76 B p chunks I J (l + 1) := by
  intro V x w n v h1 h2 h3 h64 hV hI
  have hm := method_visitR ⟨p, 0, none⟩
  obtain ⟨R, hR⟩ : ∃ R, nd chunks (l + 1) x v n = R := ⟨_, rfl⟩
  rw [hR]
  have hE1 := sp_pos l
  have hE2 := sp_le (l := l) (by omega)
  have C1 := fun w => span_any l (by omega) w
  obtain ⟨E, hE⟩ : ∃ E, sp l = E := ⟨_, rfl⟩
  have hR' := hR
  rw [nd, hE] at hR'
  rw [hE] at C1 hE1 hE2
  rw [sp_succ, hE] at h2
  have hm60 := pcs_le hE1 h2
  have C2 := fun w => parts_any n E (by omega) hE1 hE2 w
  obtain ⟨m, hmE⟩ : ∃ m, pcs n E = m := ⟨_, rfl⟩
  rw [hmE] at C2 hR' hm60
  have C3 := hv V x w (l + 1) (4 * m) v (by omega) h64 (by omega) (by omega) hI
  obtain ⟨P, hP, hP2⟩ := stpV_is chunks x v (l + 1) (4 * m)
  rw [hP] at C3
  have hst : stp chunks x v (l + 1) (4 * m) = rdOne x v (l + 1) (4 * m) := by rw [stp, if_neg (by simp)]
  rw [hst] at C3 hP2
  have HP := Lib.hid (hP2 (by omega))
  have HLen := Lib.hid (rdOne_len x v (l + 1) (4 * m))
  have hlI : l ≤ 2 := by omega
  obtain ⟨L, hL⟩ : ∃ L, l + 1 = L := ⟨_, rfl⟩
  have HC := Lib.hid (show V.length + (1 + 60 * cnt l) ≤ 50000 from hV)
  have HIh := Lib.hid ih
  have HNl := Lib.hid (fun x v n h => nd_len chunks l x v n h)
  rw [hE] at HNl
  have HSp := Lib.hid hE
  have HMl := Lib.hid (show ∀ j, j < m → j * E < n from fun j hj => pcs_lt hE1 (by rw [hmE]; exact hj))
  rw [hL] at C3 hR' HP HLen ⊢
  obtain ⟨S, hS⟩ : ∃ S, rdOne x v L (4 * m) = S := ⟨_, rfl⟩
  rw [hS] at C3 hR' HP HLen
  have hLi : (L : Int) - 1 = (l : Int) := by omega
  have hL0 : ((L : Int) == 0) = false := by simp; omega
  have hm4 : ((4 * m : Nat) : Int) = (m : Int) * 4 := by omega
  rw [hm4] at C3
  have HRR := Lib.hid hR'
  clear hR hR' hL hst hP hP2 hS hI ih hV h64 h2 hmE hE hm4
  go_enter Tryz.func67, Tryz.ntmps67
  go_wp2_with fail
  refine (C1 _).mono ?_
  rintro e w' ⟨rfl, rfl⟩
  go_wp2_with fail
  refine (C2 _).mono ?_
  rintro e w' ⟨rfl, rfl⟩
  go_wp2_with fail
  refine C3.mono ?_
  rintro e w1 ⟨rfl, hJ1, hI1, hk1⟩
  have HJ1 := Lib.hid hJ1
  have HI1 := Lib.hid hI1
  have HK1 := Lib.hid hk1
  clear hJ1 hI1 hk1 C1 C2 C3 hm
  by_cases hS0 : S.e = 0
  · have HS0 := Lib.hid hS0
    have hSb : (S.e != 0) = false := by simpa using hS0
    obtain ⟨hP1, hP3⟩ := HP.out hS0
    have HRq := Lib.hid (show R = S.and (loopN (fun i y => nd chunks l y (ptrAt P i) (min E (n - i * E))) m 0 S.x) from by rw [← HRR.out, if_pos hS0, hP1])
    have HI2 := Lib.hid (HI1.out hS0)
    have hPs : P.size ≤ 1000 := by omega
    have HPs := Lib.hid hP3
    generalize S.e = SE at *
    clear hS0 hP1 hP3 HRR HP HI1
    go_wp2
    go_loopw [48] (fun i wr => ∃ (j : Nat) (V' : Vis) (y : VS), j ≤ m ∧ i = .int .i64 j ∧ Hid (V'.length ≤ 1 + j * cnt l) ∧ Hid (R.e = (loopN (fun i y => nd chunks l y (ptrAt P i) (min E (n - i * E))) (m - j) j y).e ∧ R.x = (loopN (fun i y => nd chunks l y (ptrAt P i) (min E (n - i * E))) (m - j) j y).x ∧ R.vis = V' ++ (loopN (fun i y => nd chunks l y (ptrAt P i) (min E (n - i * E))) (m - j) j y).vis) ∧ Hid (I (V ++ V') y wr) ∧ Hid (TKeep B w wr)) (fun i _ => m - (intOf i).toNat)
    case atStart => exact ⟨0, S.vis, S.x, Nat.zero_le _, rfl, Lib.hid (by have := HLen.out; omega), Lib.hid ⟨by rw [HRq.out]; rfl, by rw [HRq.out]; rfl, by rw [HRq.out]; rfl⟩, HI2, HK1⟩
    case round =>
      obtain ⟨j, V', y, hj, rfl, HVl, HQ, HIr, HKr⟩ := hrel
      by_cases hlt : j < m
      · have hji : (j : Int) < (m : Int) := by omega
        have hsl := slice_ptr P j (by have := HPs.out; omega) hPs
        have Cn := fun w => num_ptr P j (by have := HPs.out; omega) w
        have hYn := HMl.out j hlt
        obtain ⟨Y, hY⟩ : ∃ Y, j * E = Y := ⟨_, rfl⟩
        have hYi : (j : Int) * (E : Int) = (Y : Int) := by rw [← hY, Int.natCast_mul]
        rw [hY] at hYn
        obtain ⟨D, hD⟩ : ∃ D, n - Y = D := ⟨_, rfl⟩
        have hDi : (n : Int) - (Y : Int) = (D : Int) := by omega
        have h4 : m - j = (m - (j + 1)) + 1 := by omega
        obtain ⟨Z, hZm⟩ : ∃ Z, min E D = Z := ⟨_, rfl⟩
        have hZi : (Z : Int) = min (E : Int) (D : Int) := by omega
        have C4 := fun w (hI : I (V ++ V') y w) => HIh.out (V ++ V') y w Z (ptrAt P j) (by omega) (by rw [HSp.out]; omega) (by omega) (ptr64 P j) (by
          have h5 := HVl.out
          have h6 := HC.out
          have h7 := Nat.mul_le_mul_right (cnt l) (show j + 1 ≤ 60 by omega)
          rw [Nat.add_mul, Nat.one_mul] at h7
          rw [List.length_append]
          omega) hI
        rw [hZi] at C4
        have HN2 := Lib.hid (HNl.out y (ptrAt P j) Z (by omega))
        have hstep : nd chunks l y (ptrAt P j) (min E (n - j * E)) = nd chunks l y (ptrAt P j) Z := by
          rw [hY, hD, hZm]
        obtain ⟨T, hT⟩ : ∃ T, nd chunks l y (ptrAt P j) Z = T := ⟨_, rfl⟩
        rw [hT] at C4 hstep HN2
        by_cases hT0 : T.e = 0
        · have HT0 := Lib.hid hT0
          have hTb : (T.e != 0) = false := by simpa using hT0
          have HQ2 := Lib.hid (show R.e = (loopN (fun i y => nd chunks l y (ptrAt P i) (min E (n - i * E))) (m - (j + 1)) (j + 1) T.x).e ∧ R.x = (loopN (fun i y => nd chunks l y (ptrAt P i) (min E (n - i * E))) (m - (j + 1)) (j + 1) T.x).x ∧ R.vis = (V' ++ T.vis) ++ (loopN (fun i y => nd chunks l y (ptrAt P i) (min E (n - i * E))) (m - (j + 1)) (j + 1) T.x).vis by
            have hq := HQ.out
            rw [h4, loopN_go (by simp only [hstep]; exact hT0)] at hq
            simp only [hstep] at hq
            exact ⟨hq.1, hq.2.1, by rw [hq.2.2, RT.and, List.append_assoc]⟩)
          generalize T.e = TE at *
          · clear hT0 hstep hT h4 hZm hZi HQ hD hY
            go_wp2_with fail
            refine (Cn _).mono ?_
            rintro e w' ⟨rfl, rfl⟩
            go_wp2_with fail
            refine (C4 _ HIr.out).mono ?_
            rintro e w2 ⟨rfl, hJ2, hI3, hk2⟩
            have HI3 := Lib.hid (hI3 HT0.out)
            have HK2 := Lib.hid (HKr.out.trans hk2)
            clear hJ2 hI3 hk2 C4 Cn
            go_wp2
            go_roundw
            case rel => exact ⟨j + 1, V' ++ T.vis, T.x, by omega, by go_num, Lib.hid (by rw [List.length_append, Nat.add_mul, Nat.one_mul]; have := HVl.out; have := HN2.out; omega), HQ2, Lib.hid (by rw [← List.append_assoc]; exact HI3.out), HK2⟩
            case measure => simp [intOf]; omega
        · have HQ2 := Lib.hid (show R.e = T.e ∧ R.x = T.x by
            have hq := HQ.out
            rw [h4, loopN_stop (by simp only [hstep]; exact hT0)] at hq
            simp only [hstep] at hq
            exact ⟨hq.1, hq.2.1⟩)
          have HT0 := Lib.hid hT0
          have hTb : (T.e != 0) = true := by simpa using hT0
          generalize T.e = TE at *
          · clear hT0 hstep hT h4 hZm hZi HQ hD hY
            go_wp2_with fail
            refine (Cn _).mono ?_
            rintro e w' ⟨rfl, rfl⟩
            go_wp2_with fail
            refine (C4 _ HIr.out).mono ?_
            rintro e w2 ⟨rfl, hJ2, hI3, hk2⟩
            have HJ2 := Lib.hid hJ2
            have HK2 := Lib.hid (HKr.out.trans hk2)
            clear hJ2 hI3 hk2 C4 Cn
            go_wp2
            go_ret
            exact ⟨by rw [HQ2.out.1]; rfl, by rw [HQ2.out.2]; exact HJ2.out, fun e => absurd (HQ2.out.1.symm.trans e) HT0.out, HK2.out⟩
      · obtain rfl : j = m := by omega
        have hji : ¬ (j : Int) < (j : Int) := by omega
        have HF := Lib.hid (show R.e = 0 ∧ R.x = y ∧ R.vis = V' by
          have hq := HQ.out
          rw [Nat.sub_self, loopN] at hq
          exact ⟨hq.1, hq.2.1, by rw [hq.2.2, List.append_nil]⟩)
        have HJr := Lib.hid (hJ _ _ _ HIr.out)
        go_wp2
        go_ret
        exact ⟨by rw [HF.out.1]; rfl, by rw [HF.out.2.1]; exact HJr.out, fun _ => by rw [HF.out.2.1, HF.out.2.2]; exact HIr.out, HKr.out⟩
  · have HF := Lib.hid (show R.e = S.e ∧ R.x = S.x from by rw [← HRR.out, if_neg hS0]; exact ⟨rfl, rfl⟩)
    have HS0 := Lib.hid hS0
    have hSb : (S.e != 0) = true := by simpa using hS0
    generalize S.e = SE at *
    clear hS0 HRR HP
    go_wp2
    go_ret
    exact ⟨by rw [HF.out.1]; rfl, by rw [HF.out.2]; exact HJ1.out, fun e => absurd (HF.out.1.symm.trans e) HS0.out, HK1.out⟩
end
end Go.Proofs.YtmloljjllmmkoaaGreat

namespace Go.Proofs.YtmloljjllmmkoaaGreat
open Go.RowKit Go Go.Maps SM TR

theorem rows_last {n : Nat} (h0 : n ≠ 0) (hn : n ≤ 16384) : ∃ L, (rowsL n).length = L + 1 ∧ L ≤ 2 ∧ n ≤ sp L := by
  rw [rows_levels h0 hn]
  obtain ⟨s0, s1, s2, s3⟩ := sp_is
  by_cases h1 : 14400 < n
  · exact ⟨2, by rw [if_pos h1], by omega, by rw [s2]; omega⟩
  · by_cases h2 : 240 < n
    · exact ⟨1, by rw [if_neg h1, if_pos h2], by omega, by rw [s1]; omega⟩
    · exact ⟨0, by rw [if_neg h1, if_neg h2], by omega, by rw [s0]; omega⟩
theorem badBlob_yes {root size : Int} (h : badBlob root size = true) : size < 0 ∨ (¬ size < 0 ∧ 16384 < size) ∨ (¬ size < 0 ∧ ¬ 16384 < size ∧ root = 0 ∧ (size == 0) = false) ∨ (¬ size < 0 ∧ ¬ 16384 < size ∧ (root == 0) = false ∧ size = 0) := by
  unfold badBlob at h
  by_cases h1 : size < 0
  · exact .inl h1
  · by_cases h2 : 16384 < size
    · exact .inr (.inl ⟨h1, h2⟩)
    · rw [decide_eq_false h1, decide_eq_false h2] at h
      by_cases h3 : root = 0
      · by_cases h4 : size = 0
        · subst h3; subst h4; simp at h
        · exact .inr (.inr (.inl ⟨h1, h2, h3, by simpa using h4⟩))
      · by_cases h4 : size = 0
        · exact .inr (.inr (.inr ⟨h1, h2, by simpa using h3, h4⟩))
        · simp [h3, h4] at h
theorem badBlob_not {root size : Int} (h : badBlob root size = false) : (root = 0 ∧ size = 0) ∨ ∃ n : Nat, size = (n : Int) ∧ n ≠ 0 ∧ n ≤ 16384 ∧ (root == 0) = false := by
  unfold badBlob at h
  simp only [Bool.or_eq_false_iff, decide_eq_false_iff_not] at h
  obtain ⟨⟨h1, h2⟩, h3⟩ := h
  by_cases h4 : size = 0
  · subst h4
    left
    simpa using h3
  · right
    refine ⟨size.toNat, by omega, by omega, by omega, ?_⟩
    simp [h4] at h3
    simpa using h3
section
variable {B p : Nat} {chunks : Bool} {I : Vis → VS → World → Prop} {J : VS → World → Prop}
theorem descsL (hv : Visits 156 B p chunks I J) (hJ : ∀ V x w, I V x w → J x w) {l : Nat} (hl : l ≤ 2) : Descs 67 B p chunks I J l := by
  obtain rfl | rfl | rfl : l = 0 ∨ l = 1 ∨ l = 2 := by omega
  · exact descL_zero hv
  · exact descL_succ hv hJ (by omega) (descL_zero hv)
  · exact descL_succ hv hJ (by omega) (descL_succ hv hJ (by omega) (descL_zero hv))
set_option maxRecDepth 100000 in
set_option maxHeartbeats 2000000 in
theorem passL_any (hv : Visits 156 B p chunks I J) (hJ : ∀ V x w, I V x w → J x w) (hBel : ∀ V x w w', I V x w → Below w.heap.size w w' → I V x w') {x : VS} {w : World} (hI : I [] x w) (root size : Int) (hr : I64 root) (hz : I64 size) :
    Calls Tryz.prog 33 #[.iface 67 (.pointer (some ⟨p, 0, none⟩)), .agg #[.int .i64 root, .int .i64 size]] w fun e w' => e = .returned (.int .i64 (ndBlob chunks x root size).e) ∧ J (ndBlob chunks x root size).x w' ∧ ((ndBlob chunks x root size).e = 0 → I (ndBlob chunks x root size).vis (ndBlob chunks x root size).x w') ∧ TKeep B w w' := by
  obtain ⟨w0, hw0⟩ : ∃ w0, w.alloc (.cells #[.int .i64 root, .int .i64 size] 24) = w0 := ⟨_, rfl⟩
  have hob : w0.heap[w.heap.size]? = some (.cells #[.int .i64 root, .int .i64 size] 24 (0, 0)) := by rw [← hw0]; exact heap_alloc_new _ _
  have hB0 : Below w.heap.size w w0 := by rw [← hw0]; exact (Below.refl _ w).alloc (Nat.le_refl _) _
  have d0 : w0.cell? ⟨w.heap.size, 0, none⟩ = some (.int .i64 root) := by simp [World.cell?, hob]
  have d1 : w0.cell? ⟨w.heap.size, 1, none⟩ = some (.int .i64 size) := by simp [World.cell?, hob]
  have HI0 := Lib.hid (hBel _ _ _ _ hI hB0)
  have HK0 := Lib.hid (show TKeep B w w0 from TKeep.of_below hB0)
  have HOb := Lib.hid hob
  clear hob hB0
  by_cases hbad : badBlob root size = true
  · have HJ0 := Lib.hid (hJ _ _ _ HI0.out)
    rw [ndBlob, if_pos hbad]
    rcases badBlob_yes hbad with h1 | ⟨h1, h2⟩ | ⟨h1, h2, h3, h4⟩ | ⟨h1, h2, h3, h4⟩
    · clear hbad hI
      go_enter Tryz.func33, Tryz.ntmps33
      go_wp2
      go_ret
      first | exact ⟨rfl, HJ0.out, HK0.out⟩ | exact ⟨rfl, HJ0.out, fun e => absurd e (by decide), HK0.out⟩
    · clear hbad hI
      go_enter Tryz.func33, Tryz.ntmps33
      go_wp2
      go_ret
      first | exact ⟨rfl, HJ0.out, HK0.out⟩ | exact ⟨rfl, HJ0.out, fun e => absurd e (by decide), HK0.out⟩
    · subst h3
      clear hbad hI
      go_enter Tryz.func33, Tryz.ntmps33
      go_wp2
      go_ret
      first | exact ⟨rfl, HJ0.out, HK0.out⟩ | exact ⟨rfl, HJ0.out, fun e => absurd e (by decide), HK0.out⟩
    · subst h4
      clear hbad hI
      go_enter Tryz.func33, Tryz.ntmps33
      go_wp2
      go_ret
      first | exact ⟨rfl, HJ0.out, HK0.out⟩ | exact ⟨rfl, HJ0.out, fun e => absurd e (by decide), HK0.out⟩
  · have hbad' : badBlob root size = false := by simpa using hbad
    rcases badBlob_not hbad' with ⟨rfl, rfl⟩ | ⟨n, rfl, hn0, hn, hr0⟩
    · have HJ0 := Lib.hid (hJ _ _ _ HI0.out)
      have hnd : ndBlob chunks x 0 0 = ⟨0, [], x⟩ := by rw [ndBlob, if_neg hbad, if_pos rfl]
      rw [hnd]
      clear hbad hbad' hI hnd
      go_enter Tryz.func33, Tryz.ntmps33
      go_wp2
      go_ret
      exact ⟨rfl, HJ0.out, fun _ => HI0.out, HK0.out⟩
    · obtain ⟨L, hL1, hL2, hL3⟩ := rows_last hn0 hn
      have hnd : ndBlob chunks x root (n : Int) = nd chunks L x root n := by
        rw [ndBlob, if_neg hbad, if_neg (by omega), Int.toNat_natCast, hL1]
        rfl
      rw [hnd]
      have C1 := fun w => rows_any n hn w
      rw [hL1] at C1
      have CD := fun w (h : I [] x w) => descsL hv hJ hL2 [] x w n root (by omega) hL3 hn hr (by
        have : cnt L ≤ cnt 2 := by
          obtain rfl | rfl | rfl : L = 0 ∨ L = 1 ∨ L = 2 := by omega
          all_goals decide
        have h2 : cnt 2 = 3661 := by decide
        simp only [List.length_nil]
        omega) h
      obtain ⟨R, hR⟩ : ∃ R, nd chunks L x root n = R := ⟨_, rfl⟩
      rw [hR] at CD ⊢
      have a1 : ¬ (n : Int) < 0 := by omega
      have a2 : ¬ (16384 : Int) < (n : Int) := by omega
      have a3 : ((n : Int) == 0) = false := by simp; omega
      have HLi := Lib.hid (show ((L + 1 : Nat) : Int) - 1 = (L : Int) by omega)
      obtain ⟨L1, hL1'⟩ : ∃ L1, L + 1 = L1 := ⟨_, rfl⟩
      rw [hL1'] at C1 HLi
      have hw1 : IntKind.i64.wrap ((L1 : Int) - 1) = (L : Int) := by rw [HLi.out]; exact IntWalk.i64_in _ (by omega)
      clear hbad hbad' hI hnd hL1 hL1' hR hn0
      go_enter Tryz.func33, Tryz.ntmps33
      go_wp2
      go_region_held3 (fun w' => w'.cell? ⟨w.heap.size, 0, none⟩ = some (.int .i64 root) ∧ w'.cell? ⟨w.heap.size, 1, none⟩ = some (.int .i64 (n : Int))) (first | exact ⟨d0, d1⟩ | exact ⟨e0, e1⟩)
        (first
          | (go_at_call 68; refine (C1 _).mono ?_; rintro e w' ⟨rfl, rfl⟩)
          | (go_at_call 67; refine (CD _ (hBel _ _ _ _ HI0.out (Below.refl _ _).drew)).mono ?_; rintro e w2 ⟨rfl, hJ2, hI2, hk2⟩; have HJ2 := Lib.hid hJ2; have HI2 := Lib.hid hI2; have HO2 := Lib.hid (hk2.keep HOb.out (.inr (by unfold TK; decide)) (by unfold VK; decide)); have HK2 := Lib.hid (HK0.out.trans ((TKeep.of_below (Below.refl _ _).drew).trans hk2)); have e0 : w2.cell? ⟨w.heap.size, 0, none⟩ = some (.int .i64 root) := (by simp [World.cell?, HO2.out]); have e1 : w2.cell? ⟨w.heap.size, 1, none⟩ = some (.int .i64 (n : Int)) := (by simp [World.cell?, HO2.out]); clear hJ2 hI2 hk2))
      all_goals (
        go_wp2
        go_ret
        exact ⟨rfl, HJ2.out, HI2.out, HK2.out⟩)
end
section
variable {B p : Nat} {chunks : Bool} {I : Vis → VS → World → Prop} {J : VS → World → Prop}
theorem descsR (hv : Visits 158 B p chunks I J) (hJ : ∀ V x w, I V x w → J x w) {l : Nat} (hl : l ≤ 2) : Descs 76 B p chunks I J l := by
  obtain rfl | rfl | rfl : l = 0 ∨ l = 1 ∨ l = 2 := by omega
  · exact descR_zero hv
  · exact descR_succ hv hJ (by omega) (descR_zero hv)
  · exact descR_succ hv hJ (by omega) (descR_succ hv hJ (by omega) (descR_zero hv))
set_option maxRecDepth 100000 in
set_option maxHeartbeats 2000000 in
theorem passR_any (hv : Visits 158 B p chunks I J) (hJ : ∀ V x w, I V x w → J x w) (hBel : ∀ V x w w', I V x w → Below w.heap.size w w' → I V x w') {x : VS} {w : World} (hI : I [] x w) (root size : Int) (hr : I64 root) (hz : I64 size) :
    Calls Tryz.prog 33 #[.iface 76 (.pointer (some ⟨p, 0, none⟩)), .agg #[.int .i64 root, .int .i64 size]] w fun e w' => e = .returned (.int .i64 (ndBlob chunks x root size).e) ∧ J (ndBlob chunks x root size).x w' ∧ ((ndBlob chunks x root size).e = 0 → I (ndBlob chunks x root size).vis (ndBlob chunks x root size).x w') ∧ TKeep B w w' := by
  obtain ⟨w0, hw0⟩ : ∃ w0, w.alloc (.cells #[.int .i64 root, .int .i64 size] 24) = w0 := ⟨_, rfl⟩
  have hob : w0.heap[w.heap.size]? = some (.cells #[.int .i64 root, .int .i64 size] 24 (0, 0)) := by rw [← hw0]; exact heap_alloc_new _ _
  have hB0 : Below w.heap.size w w0 := by rw [← hw0]; exact (Below.refl _ w).alloc (Nat.le_refl _) _
  have d0 : w0.cell? ⟨w.heap.size, 0, none⟩ = some (.int .i64 root) := by simp [World.cell?, hob]
  have d1 : w0.cell? ⟨w.heap.size, 1, none⟩ = some (.int .i64 size) := by simp [World.cell?, hob]
  have HI0 := Lib.hid (hBel _ _ _ _ hI hB0)
  have HK0 := Lib.hid (show TKeep B w w0 from TKeep.of_below hB0)
  have HOb := Lib.hid hob
  clear hob hB0
  by_cases hbad : badBlob root size = true
  · have HJ0 := Lib.hid (hJ _ _ _ HI0.out)
    rw [ndBlob, if_pos hbad]
    rcases badBlob_yes hbad with h1 | ⟨h1, h2⟩ | ⟨h1, h2, h3, h4⟩ | ⟨h1, h2, h3, h4⟩
    · clear hbad hI
      go_enter Tryz.func33, Tryz.ntmps33
      go_wp2
      go_ret
      first | exact ⟨rfl, HJ0.out, HK0.out⟩ | exact ⟨rfl, HJ0.out, fun e => absurd e (by decide), HK0.out⟩
    · clear hbad hI
      go_enter Tryz.func33, Tryz.ntmps33
      go_wp2
      go_ret
      first | exact ⟨rfl, HJ0.out, HK0.out⟩ | exact ⟨rfl, HJ0.out, fun e => absurd e (by decide), HK0.out⟩
    · subst h3
      clear hbad hI
      go_enter Tryz.func33, Tryz.ntmps33
      go_wp2
      go_ret
      first | exact ⟨rfl, HJ0.out, HK0.out⟩ | exact ⟨rfl, HJ0.out, fun e => absurd e (by decide), HK0.out⟩
    · subst h4
      clear hbad hI
      go_enter Tryz.func33, Tryz.ntmps33
      go_wp2
      go_ret
      first | exact ⟨rfl, HJ0.out, HK0.out⟩ | exact ⟨rfl, HJ0.out, fun e => absurd e (by decide), HK0.out⟩
  · have hbad' : badBlob root size = false := by simpa using hbad
    rcases badBlob_not hbad' with ⟨rfl, rfl⟩ | ⟨n, rfl, hn0, hn, hr0⟩
    · have HJ0 := Lib.hid (hJ _ _ _ HI0.out)
      have hnd : ndBlob chunks x 0 0 = ⟨0, [], x⟩ := by rw [ndBlob, if_neg hbad, if_pos rfl]
      rw [hnd]
      clear hbad hbad' hI hnd
      go_enter Tryz.func33, Tryz.ntmps33
      go_wp2
      go_ret
      exact ⟨rfl, HJ0.out, fun _ => HI0.out, HK0.out⟩
    · obtain ⟨L, hL1, hL2, hL3⟩ := rows_last hn0 hn
      have hnd : ndBlob chunks x root (n : Int) = nd chunks L x root n := by
        rw [ndBlob, if_neg hbad, if_neg (by omega), Int.toNat_natCast, hL1]
        rfl
      rw [hnd]
      have C1 := fun w => rows_any n hn w
      rw [hL1] at C1
      have CD := fun w (h : I [] x w) => descsR hv hJ hL2 [] x w n root (by omega) hL3 hn hr (by
        have : cnt L ≤ cnt 2 := by
          obtain rfl | rfl | rfl : L = 0 ∨ L = 1 ∨ L = 2 := by omega
          all_goals decide
        have h2 : cnt 2 = 3661 := by decide
        simp only [List.length_nil]
        omega) h
      obtain ⟨R, hR⟩ : ∃ R, nd chunks L x root n = R := ⟨_, rfl⟩
      rw [hR] at CD ⊢
      have a1 : ¬ (n : Int) < 0 := by omega
      have a2 : ¬ (16384 : Int) < (n : Int) := by omega
      have a3 : ((n : Int) == 0) = false := by simp; omega
      have HLi := Lib.hid (show ((L + 1 : Nat) : Int) - 1 = (L : Int) by omega)
      obtain ⟨L1, hL1'⟩ : ∃ L1, L + 1 = L1 := ⟨_, rfl⟩
      rw [hL1'] at C1 HLi
      have hw1 : IntKind.i64.wrap ((L1 : Int) - 1) = (L : Int) := by rw [HLi.out]; exact IntWalk.i64_in _ (by omega)
      clear hbad hbad' hI hnd hL1 hL1' hR hn0
      go_enter Tryz.func33, Tryz.ntmps33
      go_wp2
      go_region_held3 (fun w' => w'.cell? ⟨w.heap.size, 0, none⟩ = some (.int .i64 root) ∧ w'.cell? ⟨w.heap.size, 1, none⟩ = some (.int .i64 (n : Int))) (first | exact ⟨d0, d1⟩ | exact ⟨e0, e1⟩)
        (first
          | (go_at_call 68; refine (C1 _).mono ?_; rintro e w' ⟨rfl, rfl⟩)
          | (go_at_call 67; refine (CD _ (hBel _ _ _ _ HI0.out (Below.refl _ _).drew)).mono ?_; rintro e w2 ⟨rfl, hJ2, hI2, hk2⟩; have HJ2 := Lib.hid hJ2; have HI2 := Lib.hid hI2; have HO2 := Lib.hid (hk2.keep HOb.out (.inr (by unfold TK; decide)) (by unfold VK; decide)); have HK2 := Lib.hid (HK0.out.trans ((TKeep.of_below (Below.refl _ _).drew).trans hk2)); have e0 : w2.cell? ⟨w.heap.size, 0, none⟩ = some (.int .i64 root) := (by simp [World.cell?, HO2.out]); have e1 : w2.cell? ⟨w.heap.size, 1, none⟩ = some (.int .i64 (n : Int)) := (by simp [World.cell?, HO2.out]); clear hJ2 hI2 hk2))
      all_goals (
        go_wp2
        go_ret
        exact ⟨rfl, HJ2.out, HI2.out, HK2.out⟩)
end
end Go.Proofs.YtmloljjllmmkoaaGreat

namespace Go.Proofs.YtmloljjllmmkoaaGreat
open Go.RowKit Go Go.Maps SM TR

/-! ### a loader, a reacher -/
/-- how many rows there are -/
def rmax (V : Vis) : Nat := V.foldl (fun a t => max a (t.1 + 1)) 0
theorem rmax_snoc (V : Vis) (t : Nat × Int × ByteArray) : rmax (V ++ [t]) = max (rmax V) (t.1 + 1) := by simp [rmax, List.foldl_append]
theorem VW.later' {w0 w w' : World} {l b g m c : Nat} {x : VS} (h : VW w0 l b g m c x w) (hB : Below w.heap.size w w') : VW w0 l b g m c x w' := h.later hB
theorem LdIs.below {B p : Nat} {src rv : Value} {us : List Value} {V : Vis} {w w' : World} (h : LdIs B p src rv us V w) (hB : Below w.heap.size w w') : LdIs B p src rv us V w' :=
  ⟨h.low, keeps_of hB h.obj, owns_below h.row hB, h.rows.keep (fun i _ _ e => hB.block i (lt_of_heap e)), h.fit⟩
def ILoad (w0 : World) (l b g m c B p : Nat) : Vis → VS → World → Prop := fun V x w => VW w0 l b g m c x w ∧ LdAt B p (srcV l) (rmax V) V w ∧ rmax V ≤ 3 ∧ B ≤ w.heap.size
def IReach (w0 : World) (l b g m c B p : Nat) : Vis → VS → World → Prop := fun V x w => VW w0 l b g m c x w ∧ RAt B p (srcV l) (ordOf V) w ∧ B ≤ w.heap.size
section
variable {w0 : World} {l b g m c B p : Nat}
theorem visitsL (hB : w0.heap.size ≤ B) : Visits 156 B p true (ILoad w0 l b g m c B p) (fun x w => VW w0 l b g m c x w) := by
  rintro V x w row n v hrow h64 hn hV ⟨h1, h2, h3, h4⟩
  refine (lvisit_any h1 h2 (by omega) (by omega) hB h4 v h64 row n (by omega) (by omega)).mono ?_
  rintro e w' ⟨he, g1, g2, g3⟩
  refine ⟨he, g1, fun h0 => ⟨g1, ?_, ?_, Nat.le_trans h4 g3.size⟩, g3⟩
  all_goals
    have hst : stp true x v row n = rdOne x v row n := by rw [stp, if_neg (by simp)]
    have hvis : (stp true x v row n).vis = [(row, v, (x.read v).2.1)] := by rw [hst] at h0 ⊢; exact seen_vis h0
    rw [hvis, rmax_snoc]
  · have := g2 h0
    rwa [hvis] at this
  · show max (rmax V) (row + 1) ≤ 3
    omega
theorem visitsR (hB : w0.heap.size ≤ B) : Visits 158 B p false (IReach w0 l b g m c B p) (fun x w => VW w0 l b g m c x w) := by
  rintro V x w row n v hrow h64 hn hV ⟨h1, h2, h3⟩
  refine (rvisit_any h1 h2 (by rw [ordOf, List.length_map]; omega) hB h3 v h64 row n (by omega) (by omega)).mono ?_
  rintro e w' ⟨he, g1, g2, g3⟩
  refine ⟨he, g1, fun h0 => ⟨g1, ?_, Nat.le_trans h3 g3.size⟩, g3⟩
  have hvis : ordOf (stp false x v row n).vis = [v] := by
    unfold stp at *
    split
    · rfl
    · rename_i h5
      rw [if_neg h5] at h0
      rw [seen_vis h0]
      rfl
  rw [ordOf_app, hvis]
  exact g2
theorem belowL : ∀ V x w w', ILoad w0 l b g m c B p V x w → Below w.heap.size w w' → ILoad w0 l b g m c B p V x w' := by
  rintro V x w w' ⟨h1, ⟨rv, us, h2, h2'⟩, h3, h4⟩ hB
  exact ⟨h1.later hB, ⟨rv, us, h2.below hB, h2'⟩, h3, Nat.le_trans h4 hB.size⟩
theorem belowR : ∀ V x w w', IReach w0 l b g m c B p V x w → Below w.heap.size w w' → IReach w0 l b g m c B p V x w' := by
  rintro V x w w' ⟨h1, h2, h3⟩ hB
  obtain ⟨v, h5, h6⟩ := h2.obj
  exact ⟨h1.later hB, ⟨h2.low, v, keeps_of hB h5, owns_below h6 hB⟩, Nat.le_trans h3 hB.size⟩
end
section
variable {w0 w : World} {l b g m c : Nat} {x : VS}
set_option maxRecDepth 100000 in
set_option maxHeartbeats 2000000 in
theorem load_tree (h : VW w0 l b g m c x w) (root size : Int) (hr : I64 root) (hz : I64 size) :
    Calls Tryz.prog 30 #[srcV l, .agg #[.int .i64 root, .int .i64 size]] w fun e w' => ∃ p, e = .returned (.tuple #[.pointer (some ⟨p, 0, none⟩), .int .i64 (ndBlob true x root size).e]) ∧ VW w0 l b g m c (ndBlob true x root size).x w' ∧ ((ndBlob true x root size).e = 0 → LdAt w.heap.size p (srcV l) (rmax (ndBlob true x root size).vis) (ndBlob true x root size).vis w' ∧ rmax (ndBlob true x root size).vis ≤ 3) ∧ VKeep w w' := by
  obtain ⟨w1, hw1⟩ : ∃ w1, w.alloc (.cells #[.int .i64 root, .int .i64 size] 24) = w1 := ⟨_, rfl⟩
  have hob1 : w1.heap[w.heap.size]? = some (.cells #[.int .i64 root, .int .i64 size] 24 (0, 0)) := by rw [← hw1]; exact heap_alloc_new _ _
  have hB1 : Below w.heap.size w w1 := by rw [← hw1]; exact (Below.refl _ w).alloc (Nat.le_refl _) _
  obtain ⟨w2, hw2⟩ : ∃ w2, w1.alloc (.cells #[srcV l, .slice none 0 0] 122) = w2 := ⟨_, rfl⟩
  have hob2 : w2.heap[w1.heap.size]? = some (LoObj (srcV l) (.slice none 0 0)) := by rw [← hw2]; exact heap_alloc_new _ _
  have hob3 : w2.heap[w.heap.size]? = some (.cells #[.int .i64 root, .int .i64 size] 24 (0, 0)) := by rw [← hw2]; exact heap_alloc_old hob1 _
  have hB2 : Below w.heap.size w w2 := by rw [← hw2]; exact hB1.trans (((Below.refl _ w1).alloc (Nat.le_refl _) _).mono hB1.size)
  have d0 : w2.cell? ⟨w.heap.size, 0, none⟩ = some (.int .i64 root) := by simp [World.cell?, hob3]
  have d1 : w2.cell? ⟨w.heap.size, 1, none⟩ = some (.int .i64 size) := by simp [World.cell?, hob3]
  have hI : ILoad w0 l b g m c w.heap.size w1.heap.size [] x w2 := ⟨h.later hB2, ⟨.slice none 0 0, [], ⟨hB1.size, hob2, World.ownsRow_nil _ _ _ _, ⟨fun j hj => by simp at hj, fun i j hi => by simp at hi⟩, fun t ht => by cases ht⟩, rfl⟩, by decide, hB2.size⟩
  have C := passL_any (visitsL h.below.size) (fun V x w h => h.1) belowL hI root size hr hz
  have HB2 := Lib.hid hB2
  obtain ⟨R, hR⟩ : ∃ R, ndBlob true x root size = R := ⟨_, rfl⟩
  rw [hR] at C ⊢
  clear hob1 hob2 hob3 hB2 hB1 hI hR h
  unfold srcV at *
  go_enter Tryz.func30, Tryz.ntmps30
  go_wp2_with fail
  refine C.mono ?_
  rintro e w3 ⟨rfl, hJ, hI3, hk⟩
  have HJ := Lib.hid hJ
  have HI3 := Lib.hid hI3
  have HK := Lib.hid (show TKeep w.heap.size w w3 from (TKeep.of_below HB2.out).trans hk)
  clear hJ hI3 hk C
  go_wp2
  go_ret2
  exact ⟨_, rfl, HJ.out, fun e => ⟨(HI3.out e).2.1, (HI3.out e).2.2.1⟩, HK.out.vkeep⟩
set_option maxRecDepth 100000 in
set_option maxHeartbeats 2000000 in
theorem reach_tree (h : VW w0 l b g m c x w) (root size : Int) (hr : I64 root) (hz : I64 size) :
    Calls Tryz.prog 9 #[srcV l, .agg #[.int .i64 root, .int .i64 size]] w fun e w' => ∃ v, e = .returned (.tuple #[v, .int .i64 (ndBlob false x root size).e]) ∧ VW w0 l b g m c (ndBlob false x root size).x w' ∧ (((ndBlob false x root size).e = 0 ∧ w'.ownsRow w.heap.size 3 1 v (ordOf (ndBlob false x root size).vis).length (intVals (ordOf (ndBlob false x root size).vis))) ∨ ((ndBlob false x root size).e ≠ 0 ∧ v = .slice none 0 0)) ∧ VKeep w w' := by
  obtain ⟨w1, hw1⟩ : ∃ w1, w.alloc (.cells #[.int .i64 root, .int .i64 size] 24) = w1 := ⟨_, rfl⟩
  have hob1 : w1.heap[w.heap.size]? = some (.cells #[.int .i64 root, .int .i64 size] 24 (0, 0)) := by rw [← hw1]; exact heap_alloc_new _ _
  have hB1 : Below w.heap.size w w1 := by rw [← hw1]; exact (Below.refl _ w).alloc (Nat.le_refl _) _
  obtain ⟨w2, hw2⟩ : ∃ w2, w1.alloc (.cells #[srcV l, .slice none 0 0] 78) = w2 := ⟨_, rfl⟩
  have hob2 : w2.heap[w1.heap.size]? = some (ReObj (srcV l) (.slice none 0 0)) := by rw [← hw2]; exact heap_alloc_new _ _
  have hob3 : w2.heap[w.heap.size]? = some (.cells #[.int .i64 root, .int .i64 size] 24 (0, 0)) := by rw [← hw2]; exact heap_alloc_old hob1 _
  have hB2 : Below w.heap.size w w2 := by rw [← hw2]; exact hB1.trans (((Below.refl _ w1).alloc (Nat.le_refl _) _).mono hB1.size)
  have d0 : w2.cell? ⟨w.heap.size, 0, none⟩ = some (.int .i64 root) := by simp [World.cell?, hob3]
  have d1 : w2.cell? ⟨w.heap.size, 1, none⟩ = some (.int .i64 size) := by simp [World.cell?, hob3]
  have hI : IReach w0 l b g m c w.heap.size w1.heap.size [] x w2 := ⟨h.later hB2, ⟨hB1.size, .slice none 0 0, hob2, World.ownsRow_nil _ _ _ _⟩, hB2.size⟩
  have C := passR_any (visitsR h.below.size) (fun V x w h => h.1) belowR hI root size hr hz
  have HB2 := Lib.hid hB2
  obtain ⟨R, hR⟩ : ∃ R, ndBlob false x root size = R := ⟨_, rfl⟩
  rw [hR] at C ⊢
  clear hob1 hob2 hob3 hB2 hB1 hI hR h
  unfold srcV at *
  obtain ⟨E, V, y⟩ := R
  simp only at C ⊢
  by_cases hE : E = 0
  · subst hE
    go_enter Tryz.func9, Tryz.ntmps9
    go_wp2_with fail
    refine C.mono ?_
    rintro e w3 ⟨rfl, hJ, hI3, hk⟩
    have HJ := Lib.hid hJ
    have hI4 := hI3 (by trivial)
    obtain ⟨v, hv1, hv2⟩ := hI4.2.1.obj
    have e1 := ReObj.c1 hv1
    obtain ⟨a, cap, rfl⟩ := row_shape hv2
    have HR := Lib.hid hv2
    have HK := Lib.hid (show TKeep w.heap.size w w3 from (TKeep.of_below HB2.out).trans hk)
    clear hJ hI3 hI4 hk C hv2
    go_wp2
    go_ret2
    exact ⟨_, rfl, HJ.out, .inl ⟨trivial, HR.out⟩, HK.out.vkeep⟩
  · have HE := Lib.hid hE
    have hEb : (E != 0) = true := by simpa using hE
    clear hE
    go_enter Tryz.func9, Tryz.ntmps9
    go_wp2_with fail
    refine C.mono ?_
    rintro e w3 ⟨rfl, hJ, hI3, hk⟩
    have HJ := Lib.hid hJ
    have HK := Lib.hid (show TKeep w.heap.size w w3 from (TKeep.of_below HB2.out).trans hk)
    clear hJ hI3 hk C
    go_wp2
    go_ret2
    exact ⟨_, rfl, HJ.out, .inr ⟨HE.out, rfl⟩, HK.out.vkeep⟩
theorem loop_cat {step : Nat → VS → RT} {c : Nat → Nat} (h : ∀ i y, (step i y).e = 0 → (catOf (levOf 0 (step i y).vis)).length = c i) : ∀ k i x, (loopN step k i x).e = 0 → (catOf (levOf 0 (loopN step k i x).vis)).length = ((List.range k).map fun j => c (i + j)).sum
  | 0, i, x, _ => by simp [loopN, levOf, catOf]
  | k + 1, i, x, e => by
    by_cases h0 : (step i x).e = 0
    · rw [loopN_go h0] at e ⊢
      have e' : (loopN step k (i + 1) (step i x).x).e = 0 := e
      rw [RT.and, levOf_app, catOf_app, List.length_append, h i x h0, loop_cat h k (i + 1) _ e', List.range_succ_eq_map, List.map_cons, List.sum_cons, List.map_map]
      have : ((fun j => c (i + j)) ∘ Nat.succ) = fun j => c (i + 1 + j) := funext fun j => by show c (i + (j + 1)) = _; rw [show i + (j + 1) = i + 1 + j by omega]
      rw [this]
      rfl
    · rw [loopN_stop h0] at e
      exact absurd e h0
theorem sum_parts {E n : Nat} (hE : 1 ≤ E) : ∀ k, ((List.range k).map fun j => min E (n - j * E)).sum = min (k * E) n
  | 0 => by simp
  | k + 1 => by
    rw [List.range_succ, List.map_append, List.sum_append, sum_parts hE k, Nat.add_mul, Nat.one_mul]
    simp only [List.map_cons, List.map_nil, List.sum_cons, List.sum_nil, Nat.add_zero]
    generalize k * E = X
    omega
theorem nd_cat : ∀ l x v n, n ≤ sp l → (nd true l x v n).e = 0 → (catOf (levOf 0 (nd true l x v n).vis)).length = n
  | 0, x, v, n, _, e => by
    rw [nd, if_pos rfl] at e ⊢
    rw [seen_vis e]
    unfold rdOne at e
    split at e
    · rename_i h; exact absurd e h
    · split at e
      · simp at e
      · rename_i h2
        have h3 : (x.read v).2.1.size = n := by simpa using h2
        simp [levOf, catOf]
        exact h3
  | l + 1, x, v, n, hn, e => by
    rw [nd] at e ⊢
    by_cases h0 : (rdOne x v (l + 1) (4 * pcs n (sp l))).e = 0
    · rw [if_pos h0] at e ⊢
      have e' : (loopN (fun i y => nd true l y (ptrAt (x.read v).2.1 i) (min (sp l) (n - i * sp l))) (pcs n (sp l)) 0 (rdOne x v (l + 1) (4 * pcs n (sp l))).x).e = 0 := e
      have hc := loop_cat (step := fun i y => nd true l y (ptrAt (x.read v).2.1 i) (min (sp l) (n - i * sp l))) (c := fun i => min (sp l) (n - i * sp l)) (fun i y h => nd_cat l y _ _ (Nat.min_le_left _ _) h) (pcs n (sp l)) 0 (rdOne x v (l + 1) (4 * pcs n (sp l))).x e'
      rw [RT.and, levOf_app, catOf_app, List.length_append, hc, seen_vis h0]
      have hz : (catOf (levOf 0 [(l + 1, v, (x.read v).2.1)])).length = 0 := by simp [levOf, catOf]
      rw [hz, Nat.zero_add]
      have hf : (fun j => min (sp l) (n - (0 + j) * sp l)) = fun j => min (sp l) (n - j * sp l) := funext fun j => by rw [Nat.zero_add]
      rw [hf, sum_parts (sp_pos l)]
      refine Nat.min_eq_right ?_
      unfold pcs
      have hp := sp_pos l
      have h1 := Nat.div_add_mod (n + sp l - 1) (sp l)
      have h2 := Nat.mod_lt (n + sp l - 1) (show 0 < sp l by omega)
      rw [Nat.mul_comm]
      omega
    · rw [if_neg h0] at e
      exact absurd e h0
theorem rmax_zero {V : Vis} (h : ∀ t ∈ V, t.1 < 0) : V = [] := by
  cases V with
  | nil => rfl
  | cons t V => exact absurd (h t List.mem_cons_self) (by omega)
set_option maxRecDepth 100000 in
set_option maxHeartbeats 2000000 in
theorem lbytes_any {B p R : Nat} {src : Value} {V : Vis} (h : LdAt B p src R V w) (hV : V.length ≤ 100000) (hpos : R ≠ 0 → catOf (levOf 0 V) ≠ []) (hsz : (catOf (levOf 0 V)).length ≤ 1000000) :
    Calls Tryz.prog 31 #[.pointer (some ⟨p, 0, none⟩)] w fun e w' => e = .returned (.string (bsL (catOf (levOf 0 V)))) ∧ Below w.heap.size w w' := by
  obtain ⟨rv, us, hld, hus⟩ := h
  obtain ⟨a, cap, rfl⟩ := row_shape hld.row
  have c1 := LoObj.c1 hld.obj
  have hrow := hld.row
  rw [hus] at c1 hrow
  by_cases hR : R = 0
  · subst hR
    have hV0 := rmax_zero (fun t ht => by have := hld.fit t ht; omega)
    have HC := Lib.hid (show bsL (catOf (levOf 0 V)) = ⟨#[]⟩ by rw [hV0]; rfl)
    rw [HC.out]
    clear hld hrow hpos
    go_enter Tryz.func31, Tryz.ntmps31
    go_wp2
    go_ret
    exact ⟨rfl, Below.refl _ _⟩
  · have hu0 : 0 < us.length := by omega
    obtain ⟨g, cap', hva, hBg, hgs, hrc, hcm, hcs⟩ := row_cells' hrow (fun e => by injection e with e1 e2 e3; omega)
    obtain ⟨rfl, rfl⟩ : a = some ⟨g, 0, none⟩ ∧ cap = cap' := by injection hva with e1 e2 e3; exact ⟨e1, e3⟩
    have cg := hcs 0 us[0] (List.getElem?_eq_getElem hu0)
    have hr0 := hld.rows.each 0 hu0
    obtain ⟨a2, cap2, hu⟩ := row_shape hr0
    have HNe := Lib.hid (hpos hR)
    obtain ⟨L, hL⟩ : ∃ L, levOf 0 V = L := ⟨_, rfl⟩
    have hk5 : L.length ≤ 100000 := by
      rw [← hL]
      unfold levOf
      rw [List.length_map]
      exact Nat.le_trans (List.length_filter_le _ _) hV
    rw [hu, hL] at cg hr0
    rw [hL] at hsz HNe ⊢
    obtain ⟨n, hn⟩ : ∃ n, L.length = n := ⟨_, rfl⟩
    rw [hn] at cg hr0 hk5
    have hne : a2 = none → False := fun e => by
      subst e
      rcases hr0.2 with ⟨e1, e2⟩ | ⟨g', cap', cur, e1, _⟩
      · refine HNe.out ?_
        have : L = [] := List.eq_nil_of_length_eq_zero (by omega)
        rw [this]; rfl
      · cases e1
    obtain ⟨q, hq⟩ : ∃ q, a2 = some ⟨q, 0, none⟩ := by
      rcases hr0.2 with ⟨e1, e2⟩ | ⟨g', cap', cur, e1, _⟩
      · injection e1 with e1' e2' e3'
        exact absurd e1' (fun e => hne e)
      · injection e1 with e1' e2' e3'
        exact ⟨g', e1'⟩
    subst hq
    have HQ := Lib.hid (show ∀ i (hi : i < L.length), w.cell? ⟨q, i * 2, none⟩ = some (.int .i64 L[i].1) ∧ w.cell? ⟨q, i * 2 + 1, none⟩ = some (.string L[i].2) from fun i hi => by
      have h1 := blkCells_get L i hi
      constructor
      · rw [hr0.cellAt (i * 2) (by omega), Nat.mul_comm]; exact h1.1
      · rw [hr0.cellAt (i * 2 + 1) (by omega), Nat.mul_comm]; exact h1.2)
    have hqs : q < w.heap.size := (hr0.lt q rfl).2
    have hRi : ((R : Int) == 0) = false := by simp; omega
    have hR1 : (0 : Int) < (R : Int) := by omega
    obtain ⟨w0, hw0⟩ : ∃ w0, w.alloc (.cells #[.pointer none, .slice none 0 0] 125) = w0 := ⟨_, rfl⟩
    have HB0 := Lib.hid (show Below w.heap.size w w0 by rw [← hw0]; exact (Below.refl _ w).alloc (Nat.le_refl _) _)
    have HI0 := Lib.hid (show Lib.IsBuilder 125 5 w.heap.size w.heap.size (Lib.byteCells []) w0 by rw [← hw0]; exact Lib.fresh_isBuilder _ _ w)
    have d1 := (HB0.out.cell (p := ⟨p, 1, none⟩) (lt_of_heap hld.obj)).trans c1
    have dg := (HB0.out.cell (p := ⟨g, 0, none⟩) hgs).trans cg
    have HN := Lib.hid hn
    have HSz := Lib.hid hsz
    have HQs := Lib.hid hqs
    clear hld hrow hpos hcs hva hr0 hu hn hne hsz hqs hL
    go_enter Tryz.func31, Tryz.ntmps31
    go_wp2
    go_loopw [19] (fun i wr => ∃ j : Nat, j ≤ n ∧ i = .int .i64 j ∧ Hid (Lib.IsBuilder 125 5 w.heap.size w.heap.size (Lib.byteCells (catOf (L.take j))) wr) ∧ Hid (Below w.heap.size w wr)) (fun i _ => n - (intOf i).toNat)
    case atStart => exact ⟨0, Nat.zero_le _, rfl, HI0, HB0⟩
    case round =>
      clear HB0 HI0 hw0 c1 cg d1 dg
      obtain ⟨j, hj, rfl, HI, HB⟩ := hrel
      by_cases hlt : j < n
      · have hji : (j : Int) < (n : Int) := by omega
        have hjL : j < L.length := by rw [HN.out]; exact hlt
        have hq1 := (HB.out.cell (p := ⟨q, j * 2, none⟩) HQs.out).trans (HQ.out j hjL).1
        have hq2 := (HB.out.cell (p := ⟨q, j * 2 + 1, none⟩) HQs.out).trans (HQ.out j hjL).2
        have hcat : catOf (L.take (j + 1)) = catOf (L.take j) ++ L[j].2.data.toList := by
          rw [List.take_succ_eq_append_getElem hjL, catOf_app]
          simp [catOf]
        have HCt := Lib.hid hcat
        have hle : (catOf (L.take (j + 1))).length ≤ 1000000 := by
          have h1 : catOf L = catOf (L.take (j + 1)) ++ catOf (L.drop (j + 1)) := by rw [← catOf_app, List.take_append_drop]
          have h2 := HSz.out
          rw [h1, List.length_append] at h2
          omega
        rw [hcat, List.length_append] at hle
        have HLe := Lib.hid hle
        generalize L[j] = t at *
        obtain ⟨tv, tp⟩ := t
        simp only at *
        have C3 := fun W (hW : Below wr.heap.size wr W) => bwrite_any w.heap.size w.heap.size (Lib.byteCells (catOf (L.take j))) tp W (isB_below HI.out hW) (by
          rw [Lib.byteCells_length]
          have h5 := HLe.out
          rw [len_of] at h5
          omega) (Nat.le_trans HB.out.size hW.size)
        clear hcat hle
        go_wp2_with fail
        refine (C3 _ ((Below.refl _ _).alloc (Nat.le_refl _) _)).mono ?_
        rintro e w3 ⟨rfl, hb3, hB3⟩
        have HB3 := Lib.hid ((HB.out.alloc HB.out.size _).trans hB3)
        have HI3 := Lib.hid (isB_more hb3)
        clear hb3 hB3 C3
        go_wp2
        go_roundw
        case rel => exact ⟨j + 1, by omega, by go_num, Lib.hid (by rw [HCt.out]; exact HI3.out), HB3⟩
        case measure => simp [intOf]; omega
      · obtain rfl : j = n := by omega
        have hji : ¬ (j : Int) < (j : Int) := by omega
        have HT := Lib.hid (show L.take j = L from List.take_of_length_le (by rw [HN.out]; omega))
        have C4 := bstring_any w.heap.size w.heap.size (catOf L) wr (by have := HI.out; rwa [HT.out] at this) HNe.out
        go_wp2_with fail
        refine C4.mono ?_
        rintro e w2 ⟨rfl, hB2⟩
        have HB2 := Lib.hid (HB.out.trans hB2)
        clear hB2
        go_wp2
        go_ret
        exact ⟨rfl, HB2.out⟩
theorem ndBlob_cat {root size : Int} (e : (ndBlob true x root size).e = 0) : ∃ n : Nat, size = (n : Int) ∧ n ≤ 16384 ∧ (catOf (levOf 0 (ndBlob true x root size).vis)).length = n ∧ (ndBlob true x root size).vis.length ≤ 100000 ∧ (n = 0 → (ndBlob true x root size).vis = []) := by
  by_cases hbad : badBlob root size = true
  · rw [ndBlob, if_pos hbad] at e; simp at e
  · rcases badBlob_not (by simpa using hbad) with ⟨rfl, rfl⟩ | ⟨n, rfl, hn0, hn, hr0⟩
    · have hnd : ndBlob true x 0 0 = ⟨0, [], x⟩ := by rw [ndBlob, if_neg hbad, if_pos rfl]
      rw [hnd]
      exact ⟨0, rfl, by omega, rfl, by simp, fun _ => rfl⟩
    · obtain ⟨L, hL1, hL2, hL3⟩ := rows_last hn0 hn
      have hnd : ndBlob true x root (n : Int) = nd true L x root n := by
        rw [ndBlob, if_neg hbad, if_neg (by omega), Int.toNat_natCast, hL1]
        rfl
      rw [hnd] at e ⊢
      refine ⟨n, rfl, hn, nd_cat L x root n hL3 e, ?_, fun h => absurd h hn0⟩
      have h1 := nd_len true L x root n hL3
      have : cnt L ≤ cnt 2 := by
        obtain rfl | rfl | rfl : L = 0 ∨ L = 1 ∨ L = 2 := by omega
        all_goals decide
      have h2 : cnt 2 = 3661 := by decide
      omega
/-- what Load answers -/
def loadedT (R : RT) : Value := if R.e = 0 then .tuple #[.string (bsL (catOf (levOf 0 R.vis))), .int .i64 0] else .tuple #[.string none0, .int .i64 R.e]
set_option maxRecDepth 100000 in
theorem loadT_any (h : VW w0 l b g m c x w) (root size : Int) (hr : I64 root) (hz : I64 size) :
    Calls Tryz.prog 7 #[srcV l, .agg #[.int .i64 root, .int .i64 size]] w fun e w' => e = .returned (loadedT (ndBlob true x root size)) ∧ VW w0 l b g m c (ndBlob true x root size).x w' ∧ VKeep w w' := by
  obtain ⟨w1, hw1⟩ : ∃ w1, w.alloc (.cells #[.int .i64 root, .int .i64 size] 24) = w1 := ⟨_, rfl⟩
  have hob1 : w1.heap[w.heap.size]? = some (.cells #[.int .i64 root, .int .i64 size] 24 (0, 0)) := by rw [← hw1]; exact heap_alloc_new _ _
  have hB1 : Below w.heap.size w w1 := by rw [← hw1]; exact (Below.refl _ w).alloc (Nat.le_refl _) _
  have d0 : w1.cell? ⟨w.heap.size, 0, none⟩ = some (.int .i64 root) := by simp [World.cell?, hob1]
  have d1 : w1.cell? ⟨w.heap.size, 1, none⟩ = some (.int .i64 size) := by simp [World.cell?, hob1]
  have C := load_tree (h.later hB1) root size hr hz
  have HCat := Lib.hid (fun e => ndBlob_cat (x := x) (root := root) (size := size) e)
  have HB1 := Lib.hid hB1
  obtain ⟨R, hR⟩ : ∃ R, ndBlob true x root size = R := ⟨_, rfl⟩
  rw [hR] at C HCat ⊢
  unfold loadedT
  clear hob1 hB1 hR h
  by_cases hE : R.e = 0
  · rw [if_pos hE]
    have HE := Lib.hid hE
    rw [hE] at C
    have HOut := Lib.hid (HCat.out hE)
    clear hE HCat
    go_enter Tryz.func7, Tryz.ntmps7
    go_wp2_with fail
    refine C.mono ?_
    rintro e w3 ⟨p, rfl, hJ, hI3, hk⟩
    have HJ := Lib.hid hJ
    have HK := Lib.hid (show VKeep w w3 from (VKeep.of_below HB1.out).trans hk)
    obtain ⟨n, hn1, hn2, hn3, hn4, hn5⟩ := HOut.out
    have C2 := lbytes_any (hI3 (by trivial)).1 hn4 (fun hR0 e => by
      have e2 : n = 0 := by rw [← hn3, e]; rfl
      rw [hn5 e2] at hR0
      exact hR0 rfl) (by omega)
    clear hJ hI3 hk C hn1 hn2 hn3 hn4 hn5
    go_wp2_with fail
    refine C2.mono ?_
    rintro e w4 ⟨rfl, hB4⟩
    have HB4 := Lib.hid hB4
    clear hB4 C2
    go_wp2
    go_ret2
    exact ⟨rfl, HJ.out.later HB4.out, HK.out.trans (VKeep.of_below HB4.out)⟩
  · rw [if_neg hE]
    have hEb : (R.e != 0) = true := by simpa using hE
    clear hE HCat
    generalize R.e = E at *
    go_enter Tryz.func7, Tryz.ntmps7
    go_wp2_with fail
    refine C.mono ?_
    rintro e w3 ⟨p, rfl, hJ, hI3, hk⟩
    have HJ := Lib.hid hJ
    have HK := Lib.hid (show VKeep w w3 from (VKeep.of_below HB1.out).trans hk)
    clear hJ hI3 hk C
    go_wp2
    go_ret2
    exact ⟨rfl, HJ.out, HK.out⟩
end
end Go.Proofs.YtmloljjllmmkoaaGreat

