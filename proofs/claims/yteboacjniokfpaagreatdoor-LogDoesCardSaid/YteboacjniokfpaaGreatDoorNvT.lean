/-
  The reference's logs: what Open refuses ahead of the records.
-/
import Derived.Test.YteboacjniokfpaaGreatDoorNvS
import Derived.Test.YteboacjniokfpaaGreatDoorNvK
namespace Go.Proofs.YteboacjniokfpaaGreatDoor
open Go.RowKit Go Go.Maps SM

section
variable {q r n base : Nat} {u : Value} {dead : Bool} {s : DS} {zs : List Int} {v0 v1 v2 : Value} {kp : ByteArray} {w0 w w' : World}
/-- another log in the log's place: the disk stays -/
theorem RD.put {n' : Nat} {u' : Value} {i : Nat} {x : Value} (h : RD q r n base u dead s zs v0 v2 w0 w) (ho : (w.setCell ⟨q, i, none⟩ x).heap[q]? = some (RLO r n' u' dead)) : RD q r n' base u' dead s zs v0 v2 w0 (w.setCell ⟨q, i, none⟩ x) := by
  obtain ⟨v1, kp, hr⟩ := h.ref
  have hs : Stir (· = q) w (w.setCell ⟨q, i, none⟩ x) := (Stir.refl (· = q) w).set (.inl rfl) _
  have hbl : ∀ i C t f, w.heap[i]? = some (.cells C t f) → t ≠ 51 → ¬ i = q := fun i C t f hC ht e => by
    subst e
    rw [h.obj] at hC
    simp [RLO] at hC
    exact ht hC.2.1.symm
  refine ⟨ho, ⟨v1, kp, ?_⟩, h.stir.set (.inl (.inl rfl)) _⟩
  exact ⟨hs.keep hr.obj (hbl _ _ _ _ hr.obj (by decide)), owns_stay hr.st hs (fun i hi => by obtain ⟨C, hC⟩ := owns_block hr.st hi; exact hbl _ _ _ _ hC (by decide)), owns_stay hr.lo hs (fun i hi => by obtain ⟨C, hC⟩ := owns_block hr.lo hi; exact hbl _ _ _ _ hC (by decide)),
    owns_stay hr.ba hs (fun i hi => by obtain ⟨C, hC⟩ := owns_block hr.ba hi; exact hbl _ _ _ _ hC (by decide)), hr.bads, hr.few, hr.keep, hr.kple, hr.low⟩
theorem RD.num {n' : Nat} (h : RD q r n base u dead s zs v0 v2 w0 w) : RD q r n' base u dead s zs v0 v2 w0 (w.setCell ⟨q, 1, none⟩ (.int .i64 n')) := h.put (by rw [heap_set h.obj]; simp [RLO])
theorem RD.list {u' : Value} (h : RD q r n base u dead s zs v0 v2 w0 w) : RD q r n base u' dead s zs v0 v2 w0 (w.setCell ⟨q, 2, none⟩ u') := h.put (by rw [heap_set h.obj]; simp [RLO])
theorem cut_data (x : ByteArray) (a b : Nat) : (x.extract a b).data.toList = (x.data.toList.drop a).take (b - a) := by rw [Lib.extract_data]

set_option maxRecDepth 100000 in
set_option maxHeartbeats 4000000 in
theorem rlopen_no (h : RefAt r base s zs v0 v1 v2 kp w) (hk : s.Ok) (hm : s.made < 1099511627776) (hno : s.stay.length < 5 ∨ s.readE 0 ≠ 0 ∨ openForm s = true) :
    Calls Tryz.prog 20 #[.pointer (some ⟨r, 0, none⟩)] w fun e w' => e = .returned (.tuple #[.pointer none, .int .i64 (openE s)]) ∧ openE s ≠ 0 ∧ Below w.heap.size w w' := by
  obtain ⟨a0, c00, rfl⟩ := row_shape h.st
  have c0 := RO.c0 h.obj
  have hle := hk.le
  by_cases h5 : s.stay.length < 5
  · have hE : openE s = 70 := by rw [openE, if_pos h5]
    rw [hE]
    have h5i : (s.stay.length : Int) < 5 := by omega
    generalize s.stay.length = N at *
    clear h hE
    go_enter Tryz.func20, Tryz.ntmps20
    go_wp2
    go_ret2
    exact ⟨rfl, by decide, Below.refl _ _⟩
  · have h5i : ¬ (s.stay.length : Int) < 5 := by omega
    obtain ⟨w1, hw1⟩ : ∃ w1, w.alloc (RLO r 0 (.slice none 0 0) false) = w1 := ⟨_, rfl⟩
    have hB1 : Below w.heap.size w w1 := by rw [← hw1]; exact (Below.refl _ w).alloc (Nat.le_refl _) _
    have hr1 : RD w.heap.size r 0 base (.slice none 0 0) false s zs (.slice a0 s.stay.length c00) v2 w1 w1 := ⟨by rw [← hw1]; exact heap_alloc_new _ _, ⟨_, _, h.below hB1⟩, Stir.refl _ _⟩
    have CR := rread_at (h.below hB1) hk hm 0 ⟨by decide, by decide⟩
    by_cases hr : s.readE 0 = 0
    · have hf : openForm s = true := by
        rcases hno with e | e | e
        · exact absurd e h5
        · exact absurd hr e
        · exact e
      have hE : openE s = 70 := by rw [openE, if_neg h5, if_neg (by simpa using hr), if_pos hf]
      rw [hE]
      rw [hr] at CR
      have hx := hk.readS_size hr
      obtain ⟨X, hX⟩ : ∃ X, s.readS 0 = X := ⟨_, rfl⟩
      rw [hX] at CR hx
      have hG : valN (X.extract 2 8).data.toList = saidG X := by rw [cut_data]; rfl
      have hU : valN (X.extract 8 12).data.toList = saidU X := by rw [cut_data]; rfl
      have CV := fun w => rval_any (X.extract 2 8) (by rw [ByteArray.size_extract]; omega) w
      have CU := fun w => rval_any (X.extract 8 12) (by rw [ByteArray.size_extract]; omega) w
      rw [hG] at CV
      rw [hU] at CU
      have hgl := saidG_le X
      have hul := saidU_le X
      have CH := fun w => rhead_any (saidG X) (saidU X) (by omega) (by omega) w
      have hc : 1099511627776 < saidG X ∨ (¬ 1099511627776 < saidG X ∧ 64 * halfN s < saidU X) ∨ (¬ 1099511627776 < saidG X ∧ ¬ 64 * halfN s < saidU X ∧ headB (saidG X) (saidU X) ≠ X) := by
        have h1 := hf
        rw [openForm, openU, hX] at h1
        by_cases g1 : 1099511627776 < saidG X
        · exact .inl g1
        · by_cases g2 : 64 * halfN s < saidU X
          · exact .inr (.inl ⟨g1, g2⟩)
          · refine .inr (.inr ⟨g1, g2, fun e => ?_⟩)
            have := (saidOk_is X).2 ⟨by omega, e.symm⟩
            rw [this] at h1
            simp at h1
            omega
      have hR2 := hr1.num (n' := saidG X)
      have HR2 := Lib.hid hR2
      have CF := rhalf_any hR2 hk
      have hB2 : Below w.heap.size w (w1.setCell ⟨w.heap.size, 1, none⟩ (.int .i64 (saidG X))) := hB1.trans (((Stir.refl (· = w.heap.size) w1).set (.inl rfl) _).below (fun k e => Nat.le_of_eq e.symm) hB1.size)
      have HB2 := Lib.hid hB2
      have d1 : (w1.setCell ⟨w.heap.size, 1, none⟩ (.int .i64 (saidG X))).cell? ⟨w.heap.size, 1, none⟩ = some (.int .i64 (saidG X)) := RLO.c1 hR2.obj
      have f1 : w1.frozen? ⟨w.heap.size, 1, none⟩ = false := RLO.fr hr1.obj 1
      have e1 : w1.cell? ⟨w.heap.size, 1, none⟩ = some (.int .i64 0) := RLO.c1 hr1.obj
      have hhl : halfN s ≤ 8192 := by unfold halfN; omega
      have hm1 : IntKind.i64.wrap (64 * ((halfN s : Nat) : Int)) = 64 * ((halfN s : Nat) : Int) := IntWalk.i64_in _ (by omega)
      obtain ⟨w2, hw2⟩ : ∃ w2, w1.setCell ⟨w.heap.size, 1, none⟩ (.int .i64 (saidG X)) = w2 := ⟨_, rfl⟩
      rw [hw2] at CF HB2 d1
      clear hR2 HR2 hB2 hG hU hf hE hX hr hr1 h hno
      generalize saidG X = G at *
      generalize saidU X = U at *
      generalize halfN s = M at *
      generalize s.stay.length = N at *
      have hw1 : w.alloc (.cells #[.pointer (some ⟨r, 0, none⟩), .int .i64 0, .slice none 0 0, .bool false] 51 (0, 0)) = w1 := hw1
      rcases hc with g1 | ⟨g1, g2⟩ | ⟨g1, g2, g3⟩
      · have g1i : (1099511627776 : Int) < (G : Int) := by omega
        go_enter Tryz.func20, Tryz.ntmps20
        go_wp2_with fail
        refine CR.mono ?_
        rintro e w' ⟨rfl, rfl⟩
        go_wp2_with fail
        refine (CV _).mono ?_
        rintro e w' ⟨rfl, rfl⟩
        go_wp2_with fail
        refine (CU _).mono ?_
        rintro e w' ⟨rfl, rfl⟩
        go_wp2
        go_ret2
        exact ⟨rfl, by decide, HB2.out⟩
      · have g1i : ¬ (1099511627776 : Int) < (G : Int) := by omega
        have g2i : 64 * (M : Int) < (U : Int) := by omega
        go_enter Tryz.func20, Tryz.ntmps20
        go_wp2_with fail
        refine CR.mono ?_
        rintro e w' ⟨rfl, rfl⟩
        go_wp2_with fail
        refine (CV _).mono ?_
        rintro e w' ⟨rfl, rfl⟩
        go_wp2_with fail
        refine (CU _).mono ?_
        rintro e w' ⟨rfl, rfl⟩
        go_wp2_with fail
        refine CF.mono ?_
        rintro e w' ⟨rfl, rfl⟩
        go_wp2
        go_ret2
        exact ⟨rfl, by decide, HB2.out⟩
      · have g1i : ¬ (1099511627776 : Int) < (G : Int) := by omega
        have g2i : ¬ 64 * (M : Int) < (U : Int) := by omega
        obtain ⟨t1, t2⟩ := texts_ne g3
        clear g3
        generalize headB G U = Y at *
        go_enter Tryz.func20, Tryz.ntmps20
        go_wp2_with fail
        refine CR.mono ?_
        rintro e w' ⟨rfl, rfl⟩
        go_wp2_with fail
        refine (CV _).mono ?_
        rintro e w' ⟨rfl, rfl⟩
        go_wp2_with fail
        refine (CU _).mono ?_
        rintro e w' ⟨rfl, rfl⟩
        go_wp2_with fail
        refine CF.mono ?_
        rintro e w' ⟨rfl, rfl⟩
        go_wp2_with fail
        refine (CH _).mono ?_
        rintro e w3 ⟨rfl, hB3⟩
        have HB3 := Lib.hid (HB2.out.trans (hB3.mono HB2.out.size))
        clear hB3
        go_wp2
        go_ret2
        exact ⟨rfl, by decide, HB3.out⟩
    · have hE : openE s = s.readE 0 := by rw [openE, if_neg h5, if_pos hr]
      rw [hE]
      have HB1 := Lib.hid hB1
      obtain ⟨X, hX⟩ : ∃ X, s.readS 0 = X := ⟨_, rfl⟩
      obtain ⟨E, hE2⟩ : ∃ E, s.readE 0 = E := ⟨_, rfl⟩
      rw [hX, hE2] at CR
      rw [hE2] at hr ⊢
      have hne : (E != 0) = true := by simpa using hr
      have HE := Lib.hid hr
      generalize s.stay.length = N at *
      have hw1 : w.alloc (.cells #[.pointer (some ⟨r, 0, none⟩), .int .i64 0, .slice none 0 0, .bool false] 51 (0, 0)) = w1 := hw1
      clear hr1 h hE hE2 hX hr hno hB1
      go_enter Tryz.func20, Tryz.ntmps20
      go_wp2_with fail
      refine CR.mono ?_
      rintro e w' ⟨rfl, rfl⟩
      go_wp2
      go_ret2
      exact ⟨rfl, HE.out, HB1.out⟩
end
end Go.Proofs.YteboacjniokfpaaGreatDoor

