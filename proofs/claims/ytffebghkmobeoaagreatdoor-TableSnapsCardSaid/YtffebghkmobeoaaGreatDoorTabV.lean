/-
  The reference: lists of bytes.
-/
import Derived.Test.YtffebghkmobeoaaGreatDoorTabU
import Derived.Test.YtffebghkmobeoaaGreatDoorTabP
import Derived.Test.YtffebghkmobeoaaGreatDoorWirX
namespace Go.Proofs.YtffebghkmobeoaaGreatDoor
open Go.RowKit Go

theorem inoRd_flat (a b c d : Int) (r : Rd) : inoRd a b c d r = (⟨(numR r a).1, ((numR (numR r a).2 1).1 : Int) == 1, (numR (numR (numR r a).2 1).2 b).1, (numR (numR (numR (numR r a).2 1).2 b).2 c).1, (numR (numR (numR (numR (numR r a).2 1).2 b).2 c).2 d).1⟩, (numR (numR (numR (numR (numR r a).2 1).2 b).2 c).2 d).2) := inoRd_blob a b c d r
theorem entRd_flat (a : Int) (r : Rd) : entRd a r = (⟨bs (textR r 16).1, (numR (textR r 16).2 a).1⟩, (numR (textR r 16).2 a).2) := rfl
theorem snpRd_flat (a b c d : Int) (r : Rd) : snpRd a b c d r = (⟨bs (textR r 16).1, (numR (textR r 16).2 a).1, (numR (numR (textR r 16).2 a).2 b).1, (numR (numR (numR (textR r 16).2 a).2 b).2 c).1, (numR (numR (numR (numR (textR r 16).2 a).2 b).2 c).2 d).1⟩, (numR (numR (numR (numR (textR r 16).2 a).2 b).2 c).2 d).2) := rfl
set_option maxRecDepth 100000 in
set_option maxHeartbeats 8000000 in
theorem snpRParse_any (s : ByteArray) (hs : s.size ≤ 281474976710656) (w : World) :
    Calls Tryz.prog 7 #[.string s] w fun e w' => Parsed kS snpC 5 35 s.data.toList w e w' := by
  obtain ⟨pn, hpn⟩ : ∃ pn, numR ⟨s.data.toList, 0⟩ 4096 = pn := ⟨_, rfl⟩
  have hn4 : pn.1 ≤ 4096 := by have := numR_upto ⟨s.data.toList, 0⟩ 4096 (by omega); rw [hpn] at this; omega
  obtain ⟨P, hP⟩ : ∃ P, parsed (snpRd 4611686018427387904 4611686018427387904 4611686018427387904 4611686018427387904) s.data.toList = P := ⟨_, rfl⟩
  have HP := Lib.hid (show readN (snpRd 4611686018427387904 4611686018427387904 4611686018427387904 4611686018427387904) pn.1 pn.2 [] = P by rw [← hP, ← hpn]; rfl)
  have HD := Lib.hid (show endR P.2 = 0 → May kS P.1 → IsL kS s.data.toList P.1 by rw [← hP]; exact isL_self (readsS (by omega) (by omega) (by omega) (by omega)))
  have HND := Lib.hid (show ¬ (endR P.2 = 0 ∧ May kS P.1) → ∀ l, ¬ IsL kS s.data.toList l by rw [← hP]; exact isL_none (readsS (by omega) (by omega) (by omega) (by omega)))
  clear hP
  obtain ⟨w0, hw0⟩ : ∃ w0, w.alloc (.cells #[.string s, .int .i64 0, .int .i64 0] 51) = w0 := ⟨_, rfl⟩
  have HB0 := Lib.hid (show Below w.heap.size w w0 by rw [← hw0]; exact (Below.refl _ w).alloc (Nat.le_refl _) _)
  have hb : w0.heap[w.heap.size]? = some (QObj s 0 0) := by rw [← hw0]; exact heap_alloc_new w _
  have hst : Stands s 0 0 ⟨s.data.toList, 0⟩ := ⟨rfl, fun _ => Nat.zero_le _, fun _ => by simp⟩
  have C1 := mnum_any w.heap.size s 0 0 ⟨s.data.toList, 0⟩ 4096 hs hst w0 hb
  rw [hpn] at C1
  have hbl0 := lt_of_heap hb
  obtain ⟨N, r0⟩ := pn
  simp only at hn4 C1
  clear hpn hst hb
  go_enter Tryz.func7, Tryz.ntmps7
  go_wp2_with fail
  refine C1.mono ?_
  rintro e w1 ⟨p1, e1, rfl, hst1, hM1⟩
  have hbl1 : w.heap.size < w1.heap.size := Nat.lt_of_lt_of_le hbl0 hM1.size
  obtain ⟨w2, hw2⟩ : ∃ u, w1.alloc (.cells #[] 35) = u := ⟨_, rfl⟩
  have HO3 := Lib.hid (show w2.ownsRow w1.heap.size 35 5 (.slice (some ⟨w1.heap.size, 0, none⟩) 0 0) 0 [] by rw [← hw2]; exact World.ownsRow_lit w1 #[] 0 (Nat.le_refl _) (by decide) rfl)
  have HM2 := Lib.hid (show Moved w.heap.size (QObj s p1 e1) w1 w2 by rw [← hw2]; exact Moved.made hM1.here _)
  have HBW := Lib.hid (show Below w.heap.size w w1 from HB0.out.trans (hM1.below (Nat.le_refl _) (Nat.le_of_lt hbl0)))
  have HS1 := Lib.hid hst1
  clear hM1 C1 hst1 hbl0
  obtain ⟨i0, hi, hz0, hz1, hz2⟩ := info_parts infoSnp
  go_wp2_with fail
  go_loopw [7, 8] (fun v x wr => ∃ (j : Nat) (acc : List Snp) (rk : Rd) (p : Nat) (ek : Int), j ≤ N ∧ acc.length = j ∧ x = .int .i64 j ∧ readN (snpRd 4611686018427387904 4611686018427387904 4611686018427387904 4611686018427387904) (N - j) rk acc = P ∧ wr.ownsRow w1.heap.size 35 5 v j (acc.flatMap snpC) ∧ Stands s p ek rk ∧ Moved w.heap.size (QObj s p ek) w1 wr ∧ ∀ q ∈ acc, q.name.size ≤ 65536) (fun _ i _ => N - (intOf i).toNat)
  case atStart => exact ⟨0, [], r0, p1, e1, Nat.zero_le _, rfl, rfl, HP.out, HO3.out, HS1.out, HM2.out, fun q hq => absurd hq (by simp)⟩
  case round =>
    obtain ⟨j, acc, rk, p, ek, hj, hacc, rfl, hread, hrow, hst, hM, hsm⟩ := hrel
    have HACC := Lib.hid hacc
    have HRD := Lib.hid hread
    have HRW := Lib.hid hrow
    have HM := Lib.hid hM
    have HST0 := Lib.hid hst
    have HSM := Lib.hid hsm
    have c2 := QObj.c2 hM.here
    have hek : rk.err = ek := hst.err
    obtain ⟨av, cv, rfl⟩ := row_shape hrow
    clear hacc hread hrow hM hst HM2 HS1 HO3 HP hsm
    have hstop : (rk.err = 0 ∧ j < N) ∨ (readN (snpRd 4611686018427387904 4611686018427387904 4611686018427387904 4611686018427387904) (N - j) rk acc = (acc, rk) ∧ (rk.err ≠ 0 ∨ (rk.err = 0 ∧ j = N))) := readN_stop hj
    rw [hek] at hstop
    rcases hstop with ⟨he, hlt⟩ | ⟨hstop, hwhy⟩
    · have hji : (j : Int) < (N : Int) := by omega
      have HSTEP := Lib.hid (readN_step (snpRd 4611686018427387904 4611686018427387904 4611686018427387904 4611686018427387904) (hek.trans he) hlt acc)
      have HNS := Lib.hid (textR_upto rk 16)
      subst he
      clear hek
      rw [snpRd_flat] at HSTEP
      have hSTEP := HSTEP.out
      clear HSTEP
      have C1 := fun (p : Nat) (e : Int) (h : Stands s p e rk) (w' : World) (hb : w'.heap[w.heap.size]? = some (QObj s p e)) => mtext_any w.heap.size s p e rk 16 hs h w' hb
      generalize textR rk 16 = q1 at *
      obtain ⟨n1, r1⟩ := q1
      simp only at C1 hSTEP HNS
      have C2 := fun (p : Nat) (e : Int) (h : Stands s p e r1) (w' : World) (hb : w'.heap[w.heap.size]? = some (QObj s p e)) => mnum_any w.heap.size s p e r1 4611686018427387904 hs h w' hb
      generalize numR r1 4611686018427387904 = q2 at *
      obtain ⟨n2, r2⟩ := q2
      simp only at C2 hSTEP
      have C3 := fun (p : Nat) (e : Int) (h : Stands s p e r2) (w' : World) (hb : w'.heap[w.heap.size]? = some (QObj s p e)) => mnum_any w.heap.size s p e r2 4611686018427387904 hs h w' hb
      generalize numR r2 4611686018427387904 = q3 at *
      obtain ⟨n3, r3⟩ := q3
      simp only at C3 hSTEP
      have C4 := fun (p : Nat) (e : Int) (h : Stands s p e r3) (w' : World) (hb : w'.heap[w.heap.size]? = some (QObj s p e)) => mnum_any w.heap.size s p e r3 4611686018427387904 hs h w' hb
      generalize numR r3 4611686018427387904 = q4 at *
      obtain ⟨n4, r4⟩ := q4
      simp only at C4 hSTEP
      have C5 := fun (p : Nat) (e : Int) (h : Stands s p e r4) (w' : World) (hb : w'.heap[w.heap.size]? = some (QObj s p e)) => mnum_any w.heap.size s p e r4 4611686018427387904 hs h w' hb
      generalize numR r4 4611686018427387904 = q5 at *
      obtain ⟨n5, r5⟩ := q5
      simp only at C5 hSTEP
      have HSTEP := Lib.hid hSTEP
      clear hSTEP
      obtain ⟨u0, hu0⟩ : ∃ u, wr.alloc (.cells #[.string ⟨#[]⟩, .int .i64 0, .int .i64 0, .int .i64 0, .int .i64 0] 35) = u := ⟨_, rfl⟩
      have hx0 : u0.heap[wr.heap.size]? = some (.cells #[.string ⟨#[]⟩, .int .i64 0, .int .i64 0, .int .i64 0, .int .i64 0] 35 (0, 0)) := by rw [← hu0]; exact heap_alloc_new wr _
      have z0 : u0.cell? ⟨wr.heap.size, 0, none⟩ = some (.string ⟨#[]⟩) := by simp [World.cell?, hx0]
      have z1 : u0.cell? ⟨wr.heap.size, 1, none⟩ = some (.int .i64 0) := by simp [World.cell?, hx0]
      have z2 : u0.cell? ⟨wr.heap.size, 2, none⟩ = some (.int .i64 0) := by simp [World.cell?, hx0]
      have z3 : u0.cell? ⟨wr.heap.size, 3, none⟩ = some (.int .i64 0) := by simp [World.cell?, hx0]
      have z4 : u0.cell? ⟨wr.heap.size, 4, none⟩ = some (.int .i64 0) := by simp [World.cell?, hx0]
      have f0 : u0.frozen? ⟨wr.heap.size, 0, none⟩ = false := by simp [World.frozen?, hx0]
      have f1 : u0.frozen? ⟨wr.heap.size, 1, none⟩ = false := by simp [World.frozen?, hx0]
      have f2 : u0.frozen? ⟨wr.heap.size, 2, none⟩ = false := by simp [World.frozen?, hx0]
      have f3 : u0.frozen? ⟨wr.heap.size, 3, none⟩ = false := by simp [World.frozen?, hx0]
      have f4 : u0.frozen? ⟨wr.heap.size, 4, none⟩ = false := by simp [World.frozen?, hx0]
      have hu : Below wr.heap.size wr u0 := by rw [← hu0]; exact (Below.refl _ wr).alloc (Nat.le_refl _) _
      obtain ⟨u1, hu1⟩ : ∃ u, (((((u0.setCell ⟨wr.heap.size, 0, none⟩ (.string ⟨#[]⟩)).setCell ⟨wr.heap.size, 1, none⟩ (.int .i64 0)).setCell ⟨wr.heap.size, 2, none⟩ (.int .i64 0)).setCell ⟨wr.heap.size, 3, none⟩ (.int .i64 0)).setCell ⟨wr.heap.size, 4, none⟩ (.int .i64 0)) = u := ⟨_, rfl⟩
      have HX := Lib.hid (show u1.heap[wr.heap.size]? = some (.cells #[.string ⟨#[]⟩, .int .i64 0, .int .i64 0, .int .i64 0, .int .i64 0] 35 (0, 0)) by rw [← hu1]; exact (heap_set (heap_set (heap_set (heap_set (heap_set hx0 (i := 0) (.string ⟨#[]⟩)) (i := 1) (.int .i64 0)) (i := 2) (.int .i64 0)) (i := 3) (.int .i64 0)) (i := 4) (.int .i64 0)))
      have HU := Lib.hid (show Below wr.heap.size wr u1 by rw [← hu1]; exact (((((hu.setCell (p := ⟨wr.heap.size, 0, none⟩) (Nat.le_refl _) (.string ⟨#[]⟩)).setCell (p := ⟨wr.heap.size, 1, none⟩) (Nat.le_refl _) (.int .i64 0)).setCell (p := ⟨wr.heap.size, 2, none⟩) (Nat.le_refl _) (.int .i64 0)).setCell (p := ⟨wr.heap.size, 3, none⟩) (Nat.le_refl _) (.int .i64 0)).setCell (p := ⟨wr.heap.size, 4, none⟩) (Nat.le_refl _) (.int .i64 0)))
      clear hx0 hu
      have hwr := HM.out.size
      have hBn : wr.heap.size ≠ w.heap.size := by omega
      have HM0' := Lib.hid (HM.out.and HU.out)
      have HRW0 := Lib.hid (owns_later HRW.out HU.out)
      have hne : ∀ g, Value.ownBlock (.slice av j cv) = some g → g ≠ wr.heap.size := fun g hg2 => by have := (HRW.out.lt g hg2).2; omega
      go_wp2_with fail
      refine (C1 _ _ HST0.out _ HM0'.out.here).mono ?_
      rintro e v1 ⟨p11, e11, rfl, hst, hM⟩
      have HST1 := Lib.hid hst
      have hx := hM.other HX.out hBn
      have hM2 := HM0'.out.trans hM
      have hrw := owns_moved' HRW0.out hM hbl1
      have b1 : v1.cell? ⟨wr.heap.size, 0, none⟩ = some (.string ⟨#[]⟩) := by simp [World.cell?, hx]
      have g1 : v1.frozen? ⟨wr.heap.size, 0, none⟩ = false := by simp [World.frozen?, hx]
      obtain ⟨y1, hy1⟩ : ∃ u, v1.setCell ⟨wr.heap.size, 0, none⟩ (.string (bs n1)) = u := ⟨_, rfl⟩
      have HX1 := Lib.hid (show y1.heap[wr.heap.size]? = some (.cells #[.string (bs n1), .int .i64 0, .int .i64 0, .int .i64 0, .int .i64 0] 35 (0, 0)) by rw [← hy1]; exact heap_set hx (i := 0) (.string (bs n1)))
      have HM1' := Lib.hid (show Moved w.heap.size (QObj s p11 e11) w1 y1 by rw [← hy1]; exact hM2.setNew hwr hbl1 (i := 0) (.string (bs n1)))
      have HRW1 := Lib.hid (show y1.ownsRow w1.heap.size 35 5 (.slice av j cv) j (acc.flatMap snpC) by rw [← hy1]; exact owns_set hrw hne (i := 0) (.string (bs n1)))
      clear hx hM hM2 hrw hst C1
      go_wp2_with fail
      refine (C2 _ _ HST1.out _ HM1'.out.here).mono ?_
      rintro e v2 ⟨p12, e12, rfl, hst, hM⟩
      have HST2 := Lib.hid hst
      have hx := hM.other HX1.out hBn
      have hM2 := HM1'.out.trans hM
      have hrw := owns_moved' HRW1.out hM hbl1
      have b2 : v2.cell? ⟨wr.heap.size, 1, none⟩ = some (.int .i64 0) := by simp [World.cell?, hx]
      have g2 : v2.frozen? ⟨wr.heap.size, 1, none⟩ = false := by simp [World.frozen?, hx]
      obtain ⟨y2, hy2⟩ : ∃ u, v2.setCell ⟨wr.heap.size, 1, none⟩ (.int .i64 (n2 : Nat)) = u := ⟨_, rfl⟩
      have HX2 := Lib.hid (show y2.heap[wr.heap.size]? = some (.cells #[.string (bs n1), .int .i64 (n2 : Nat), .int .i64 0, .int .i64 0, .int .i64 0] 35 (0, 0)) by rw [← hy2]; exact heap_set hx (i := 1) (.int .i64 (n2 : Nat)))
      have HM2' := Lib.hid (show Moved w.heap.size (QObj s p12 e12) w1 y2 by rw [← hy2]; exact hM2.setNew hwr hbl1 (i := 1) (.int .i64 (n2 : Nat)))
      have HRW2 := Lib.hid (show y2.ownsRow w1.heap.size 35 5 (.slice av j cv) j (acc.flatMap snpC) by rw [← hy2]; exact owns_set hrw hne (i := 1) (.int .i64 (n2 : Nat)))
      clear hx hM hM2 hrw hst C2
      go_wp2_with fail
      refine (C3 _ _ HST2.out _ HM2'.out.here).mono ?_
      rintro e v3 ⟨p13, e13, rfl, hst, hM⟩
      have HST3 := Lib.hid hst
      have hx := hM.other HX2.out hBn
      have hM2 := HM2'.out.trans hM
      have hrw := owns_moved' HRW2.out hM hbl1
      have b3 : v3.cell? ⟨wr.heap.size, 2, none⟩ = some (.int .i64 0) := by simp [World.cell?, hx]
      have g3 : v3.frozen? ⟨wr.heap.size, 2, none⟩ = false := by simp [World.frozen?, hx]
      obtain ⟨y3, hy3⟩ : ∃ u, v3.setCell ⟨wr.heap.size, 2, none⟩ (.int .i64 (n3 : Nat)) = u := ⟨_, rfl⟩
      have HX3 := Lib.hid (show y3.heap[wr.heap.size]? = some (.cells #[.string (bs n1), .int .i64 (n2 : Nat), .int .i64 (n3 : Nat), .int .i64 0, .int .i64 0] 35 (0, 0)) by rw [← hy3]; exact heap_set hx (i := 2) (.int .i64 (n3 : Nat)))
      have HM3' := Lib.hid (show Moved w.heap.size (QObj s p13 e13) w1 y3 by rw [← hy3]; exact hM2.setNew hwr hbl1 (i := 2) (.int .i64 (n3 : Nat)))
      have HRW3 := Lib.hid (show y3.ownsRow w1.heap.size 35 5 (.slice av j cv) j (acc.flatMap snpC) by rw [← hy3]; exact owns_set hrw hne (i := 2) (.int .i64 (n3 : Nat)))
      clear hx hM hM2 hrw hst C3
      go_wp2_with fail
      refine (C4 _ _ HST3.out _ HM3'.out.here).mono ?_
      rintro e v4 ⟨p14, e14, rfl, hst, hM⟩
      have HST4 := Lib.hid hst
      have hx := hM.other HX3.out hBn
      have hM2 := HM3'.out.trans hM
      have hrw := owns_moved' HRW3.out hM hbl1
      have b4 : v4.cell? ⟨wr.heap.size, 3, none⟩ = some (.int .i64 0) := by simp [World.cell?, hx]
      have g4 : v4.frozen? ⟨wr.heap.size, 3, none⟩ = false := by simp [World.frozen?, hx]
      obtain ⟨y4, hy4⟩ : ∃ u, v4.setCell ⟨wr.heap.size, 3, none⟩ (.int .i64 (n4 : Nat)) = u := ⟨_, rfl⟩
      have HX4 := Lib.hid (show y4.heap[wr.heap.size]? = some (.cells #[.string (bs n1), .int .i64 (n2 : Nat), .int .i64 (n3 : Nat), .int .i64 (n4 : Nat), .int .i64 0] 35 (0, 0)) by rw [← hy4]; exact heap_set hx (i := 3) (.int .i64 (n4 : Nat)))
      have HM4' := Lib.hid (show Moved w.heap.size (QObj s p14 e14) w1 y4 by rw [← hy4]; exact hM2.setNew hwr hbl1 (i := 3) (.int .i64 (n4 : Nat)))
      have HRW4 := Lib.hid (show y4.ownsRow w1.heap.size 35 5 (.slice av j cv) j (acc.flatMap snpC) by rw [← hy4]; exact owns_set hrw hne (i := 3) (.int .i64 (n4 : Nat)))
      clear hx hM hM2 hrw hst C4
      go_wp2_with fail
      refine (C5 _ _ HST4.out _ HM4'.out.here).mono ?_
      rintro e v5 ⟨p15, e15, rfl, hst, hM⟩
      have HST5 := Lib.hid hst
      have hx := hM.other HX4.out hBn
      have hM2 := HM4'.out.trans hM
      have hrw := owns_moved' HRW4.out hM hbl1
      have b5 : v5.cell? ⟨wr.heap.size, 4, none⟩ = some (.int .i64 0) := by simp [World.cell?, hx]
      have g5 : v5.frozen? ⟨wr.heap.size, 4, none⟩ = false := by simp [World.frozen?, hx]
      obtain ⟨y5, hy5⟩ : ∃ u, v5.setCell ⟨wr.heap.size, 4, none⟩ (.int .i64 (n5 : Nat)) = u := ⟨_, rfl⟩
      have HX5 := Lib.hid (show y5.heap[wr.heap.size]? = some (.cells #[.string (bs n1), .int .i64 (n2 : Nat), .int .i64 (n3 : Nat), .int .i64 (n4 : Nat), .int .i64 (n5 : Nat)] 35 (0, 0)) by rw [← hy5]; exact heap_set hx (i := 4) (.int .i64 (n5 : Nat)))
      have HM5' := Lib.hid (show Moved w.heap.size (QObj s p15 e15) w1 y5 by rw [← hy5]; exact hM2.setNew hwr hbl1 (i := 4) (.int .i64 (n5 : Nat)))
      have HRW5 := Lib.hid (show y5.ownsRow w1.heap.size 35 5 (.slice av j cv) j (acc.flatMap snpC) by rw [← hy5]; exact owns_set hrw hne (i := 4) (.int .i64 (n5 : Nat)))
      clear hx hM hM2 hrw hst C5
      have hx1 := HX5.out
      have d0 : y5.cell? ⟨wr.heap.size, 0, none⟩ = some (.string (bs n1)) := by simp [World.cell?, hx1]
      have d1 : y5.cell? ⟨wr.heap.size, 1, none⟩ = some (.int .i64 (n2 : Nat)) := by simp [World.cell?, hx1]
      have d2 : y5.cell? ⟨wr.heap.size, 2, none⟩ = some (.int .i64 (n3 : Nat)) := by simp [World.cell?, hx1]
      have d3 : y5.cell? ⟨wr.heap.size, 3, none⟩ = some (.int .i64 (n4 : Nat)) := by simp [World.cell?, hx1]
      have d4 : y5.cell? ⟨wr.heap.size, 4, none⟩ = some (.int .i64 (n5 : Nat)) := by simp [World.cell?, hx1]
      have hrow2 := HRW5.out
      have hsz : w1.heap.size ≤ y5.heap.size := HM5'.out.size
      clear hx1 hne
      go_wp2_with (at_builtin; refine wpList_append_own _ rfl _ _ 22 rfl w1.heap.size 35 i0 (.agg #[.string ⟨#[]⟩, .int .i64 0, .int .i64 0, .int .i64 0, .int .i64 0]) 5 48 Tryz.underlying22 hi hz0 hz1 hz2 rfl (by decide) _ _ _ rfl (hrow2.alloc _) ⟨y5.heap.size, 0, none⟩ 1 1 [.string (bs n1), .int .i64 (n2 : Nat), .int .i64 (n3 : Nat), .int .i64 (n4 : Nat), .int .i64 (n5 : Nat)] rfl rfl (cells_new y5 [.string (bs n1), .int .i64 (n2 : Nat), .int .i64 (n3 : Nat), .int .i64 (n4 : Nat), .int .i64 (n5 : Nat)] _) (by simp [Value.oneCell']) (by unfold maxLen; omega) (by omega) (by simp; omega) ?_; intro v' w5 hown' hgrow _; have hB4 : Below w1.heap.size y5 w5 := ((Below.refl _ y5).alloc hsz _).grown hgrow (by simp; omega) (fun j ej => (hrow2.lt j ej).1); have HM7 := Lib.hid (HM5'.out.andB hbl1 hB4); have HO4 := Lib.hid hown'; obtain ⟨av2, cv2, rfl⟩ := row_shape hown'; clear hown' hgrow hB4)
      go_roundw
      case rel => exact ⟨j + 1, acc ++ [⟨bs n1, (n2 : Int), (n3 : Int), (n4 : Int), (n5 : Int)⟩], r5, p15, e15, by omega, by simp [HACC.out], by go_num, by rw [← HSTEP.out]; exact HRD.out, by rw [List.flatMap_append, List.flatMap_singleton]; exact HO4.out, HST5.out, HM7.out, fun q hq => (List.mem_append.1 hq).elim (fun h => HSM.out q h) (fun h => by rw [List.mem_singleton.1 h]; show (bs n1).size ≤ 65536; rw [bs_size]; exact HNS.out)⟩
      case measure => simp [intOf]; omega
    · have HPE := Lib.hid (show (acc, rk) = P from hstop.symm.trans HRD.out)
      have HE1 := Lib.hid (show endR rk = 0 → May kS acc → IsL kS s.data.toList acc from fun h1 h2 => by have := HD.out; rw [← HPE.out] at this; exact this h1 h2)
      have HN1 := Lib.hid (show ¬ (endR rk = 0 ∧ May kS acc) → ∀ l, ¬ IsL kS s.data.toList l from fun h1 => by have := HND.out; rw [← HPE.out] at this; exact this h1)
      have CL := snpRLay_any (.slice av j cv) acc (by rw [HACC.out]; omega) (fun q hq => Nat.le_trans (HSM.out q hq) (by decide)) wr (lst_of_owns snpC_len (by decide) (by rw [HACC.out]; exact HRW.out))
      have C3 := fun w' hb => rend_any w.heap.size s p ek rk HST0.out w' hb
      have HWB := Lib.hid (HBW.out.trans (HM.out.below (Nat.le_refl _) (Nat.le_of_lt hbl1)))
      generalize endR rk = E at *
      clear hstop hek
      rcases hwhy with he | ⟨he, hjN⟩
      · have he1 : (ek == 0) = false := by simpa using he
        by_cases hlt : j < N
        · have hji : (j : Int) < (N : Int) := by omega
          clear hlt
          by_cases hm : May kS acc
          · rw [layV_yes hm] at CL
            go_wp2_with fail
            refine CL.mono ?_
            rintro e w5 ⟨rfl, hB5⟩
            have HB5 := Lib.hid hB5
            have hq5 := (hB5.block _ (lt_of_heap HM.out.here)).trans HM.out.here
            have C4 := C3 w5 hq5
            clear hB5 hq5 C3 CL
            by_cases hE : E = 0
            · subst hE
              have HIS := Lib.hid (HE1.out rfl hm)
              rw [show bs (laidL kS acc) = s by rw [(HE1.out rfl hm).2]; exact bs_self s]
              go_wp2_with fail
              refine C4.mono ?_
              rintro e w6 ⟨rfl, hB6⟩
              go_wp2_with fail
              go_ret2
              exact ⟨.inl ⟨acc, _, HIS.out, rfl, by rw [HACC.out]; exact owns_later (owns_later (Joins.ownsRow_le HRW.out (Nat.le_of_lt hbl1)) HB5.out) hB6⟩, HWB.out.trans ((HB5.out.trans (hB6.mono HB5.out.size)).mono HWB.out.size)⟩
            · have hne : (E != 0) = true := by simpa using hE
              have HNN := Lib.hid (HN1.out (fun h => hE h.1))
              go_wp2_with fail
              refine C4.mono ?_
              rintro e w6 ⟨rfl, hB6⟩
              go_wp2_with fail
              go_ret2
              exact ⟨.inr ⟨HNN.out, rfl⟩, HWB.out.trans ((HB5.out.trans (hB6.mono HB5.out.size)).mono HWB.out.size)⟩
          · rw [layV_no hm] at CL
            go_wp2_with fail
            refine CL.mono ?_
            rintro e w5 ⟨rfl, hB5⟩
            have HB5 := Lib.hid hB5
            have hq5 := (hB5.block _ (lt_of_heap HM.out.here)).trans HM.out.here
            have C4 := C3 w5 hq5
            clear hB5 hq5 C3 CL
            by_cases hE : E = 0
            · subst hE
              have HNN := Lib.hid (HN1.out (fun h => hm h.2))
              go_wp2_with fail
              refine C4.mono ?_
              rintro e w6 ⟨rfl, hB6⟩
              go_wp2_with fail
              go_ret2
              exact ⟨.inr ⟨HNN.out, rfl⟩, HWB.out.trans ((HB5.out.trans (hB6.mono HB5.out.size)).mono HWB.out.size)⟩
            · have hne : (E != 0) = true := by simpa using hE
              have HNN := Lib.hid (HN1.out (fun h => hE h.1))
              go_wp2_with fail
              refine C4.mono ?_
              rintro e w6 ⟨rfl, hB6⟩
              go_wp2_with fail
              go_ret2
              exact ⟨.inr ⟨HNN.out, rfl⟩, HWB.out.trans ((HB5.out.trans (hB6.mono HB5.out.size)).mono HWB.out.size)⟩
        · have hji : ¬ (j : Int) < (N : Int) := by omega
          clear hlt
          by_cases hm : May kS acc
          · rw [layV_yes hm] at CL
            go_wp2_with fail
            refine CL.mono ?_
            rintro e w5 ⟨rfl, hB5⟩
            have HB5 := Lib.hid hB5
            have hq5 := (hB5.block _ (lt_of_heap HM.out.here)).trans HM.out.here
            have C4 := C3 w5 hq5
            clear hB5 hq5 C3 CL
            by_cases hE : E = 0
            · subst hE
              have HIS := Lib.hid (HE1.out rfl hm)
              rw [show bs (laidL kS acc) = s by rw [(HE1.out rfl hm).2]; exact bs_self s]
              go_wp2_with fail
              refine C4.mono ?_
              rintro e w6 ⟨rfl, hB6⟩
              go_wp2_with fail
              go_ret2
              exact ⟨.inl ⟨acc, _, HIS.out, rfl, by rw [HACC.out]; exact owns_later (owns_later (Joins.ownsRow_le HRW.out (Nat.le_of_lt hbl1)) HB5.out) hB6⟩, HWB.out.trans ((HB5.out.trans (hB6.mono HB5.out.size)).mono HWB.out.size)⟩
            · have hne : (E != 0) = true := by simpa using hE
              have HNN := Lib.hid (HN1.out (fun h => hE h.1))
              go_wp2_with fail
              refine C4.mono ?_
              rintro e w6 ⟨rfl, hB6⟩
              go_wp2_with fail
              go_ret2
              exact ⟨.inr ⟨HNN.out, rfl⟩, HWB.out.trans ((HB5.out.trans (hB6.mono HB5.out.size)).mono HWB.out.size)⟩
          · rw [layV_no hm] at CL
            go_wp2_with fail
            refine CL.mono ?_
            rintro e w5 ⟨rfl, hB5⟩
            have HB5 := Lib.hid hB5
            have hq5 := (hB5.block _ (lt_of_heap HM.out.here)).trans HM.out.here
            have C4 := C3 w5 hq5
            clear hB5 hq5 C3 CL
            by_cases hE : E = 0
            · subst hE
              have HNN := Lib.hid (HN1.out (fun h => hm h.2))
              go_wp2_with fail
              refine C4.mono ?_
              rintro e w6 ⟨rfl, hB6⟩
              go_wp2_with fail
              go_ret2
              exact ⟨.inr ⟨HNN.out, rfl⟩, HWB.out.trans ((HB5.out.trans (hB6.mono HB5.out.size)).mono HWB.out.size)⟩
            · have hne : (E != 0) = true := by simpa using hE
              have HNN := Lib.hid (HN1.out (fun h => hE h.1))
              go_wp2_with fail
              refine C4.mono ?_
              rintro e w6 ⟨rfl, hB6⟩
              go_wp2_with fail
              go_ret2
              exact ⟨.inr ⟨HNN.out, rfl⟩, HWB.out.trans ((HB5.out.trans (hB6.mono HB5.out.size)).mono HWB.out.size)⟩
      · subst hjN
        subst he
        by_cases hm : May kS acc
        · rw [layV_yes hm] at CL
          go_wp2_with fail
          refine CL.mono ?_
          rintro e w5 ⟨rfl, hB5⟩
          have HB5 := Lib.hid hB5
          have hq5 := (hB5.block _ (lt_of_heap HM.out.here)).trans HM.out.here
          have C4 := C3 w5 hq5
          clear hB5 hq5 C3 CL
          by_cases hE : E = 0
          · subst hE
            have HIS := Lib.hid (HE1.out rfl hm)
            rw [show bs (laidL kS acc) = s by rw [(HE1.out rfl hm).2]; exact bs_self s]
            go_wp2_with fail
            refine C4.mono ?_
            rintro e w6 ⟨rfl, hB6⟩
            go_wp2_with fail
            go_ret2
            exact ⟨.inl ⟨acc, _, HIS.out, rfl, by rw [HACC.out]; exact owns_later (owns_later (Joins.ownsRow_le HRW.out (Nat.le_of_lt hbl1)) HB5.out) hB6⟩, HWB.out.trans ((HB5.out.trans (hB6.mono HB5.out.size)).mono HWB.out.size)⟩
          · have hne : (E != 0) = true := by simpa using hE
            have HNN := Lib.hid (HN1.out (fun h => hE h.1))
            go_wp2_with fail
            refine C4.mono ?_
            rintro e w6 ⟨rfl, hB6⟩
            go_wp2_with fail
            go_ret2
            exact ⟨.inr ⟨HNN.out, rfl⟩, HWB.out.trans ((HB5.out.trans (hB6.mono HB5.out.size)).mono HWB.out.size)⟩
        · rw [layV_no hm] at CL
          go_wp2_with fail
          refine CL.mono ?_
          rintro e w5 ⟨rfl, hB5⟩
          have HB5 := Lib.hid hB5
          have hq5 := (hB5.block _ (lt_of_heap HM.out.here)).trans HM.out.here
          have C4 := C3 w5 hq5
          clear hB5 hq5 C3 CL
          by_cases hE : E = 0
          · subst hE
            have HNN := Lib.hid (HN1.out (fun h => hm h.2))
            go_wp2_with fail
            refine C4.mono ?_
            rintro e w6 ⟨rfl, hB6⟩
            go_wp2_with fail
            go_ret2
            exact ⟨.inr ⟨HNN.out, rfl⟩, HWB.out.trans ((HB5.out.trans (hB6.mono HB5.out.size)).mono HWB.out.size)⟩
          · have hne : (E != 0) = true := by simpa using hE
            have HNN := Lib.hid (HN1.out (fun h => hE h.1))
            go_wp2_with fail
            refine C4.mono ?_
            rintro e w6 ⟨rfl, hB6⟩
            go_wp2_with fail
            go_ret2
            exact ⟨.inr ⟨HNN.out, rfl⟩, HWB.out.trans ((HB5.out.trans (hB6.mono HB5.out.size)).mono HWB.out.size)⟩
end Go.Proofs.YtffebghkmobeoaaGreatDoor

