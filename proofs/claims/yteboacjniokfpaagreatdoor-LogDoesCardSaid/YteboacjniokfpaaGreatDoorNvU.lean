/-
  The reference's logs: Open, the records.
-/
import Derived.Test.YteboacjniokfpaaGreatDoorNvT
import Derived.Test.YteboacjniokfpaaGreatDoorNvR
namespace Go.Proofs.YteboacjniokfpaaGreatDoor
open Go.RowKit Go Go.Maps SM

section
variable {q r n base : Nat} {u : Value} {dead : Bool} {s : DS} {zs : List Int} {v0 v1 v2 : Value} {kp : ByteArray} {w0 w w' : World}
theorem RD.made {q r n base : Nat} {u : Value} {dead : Bool} {s : DS} {zs : List Int} {v0 v2 : Value} {w0 w : World} (h : RD q r n base u dead s zs v0 v2 w0 w) (hk : s.Ok) (hm : s.made < 1099511627776) (i : Int) (hi : I64 i) :
    Calls Tryz.prog 77 #[.pointer (some ⟨r, 0, none⟩), .int .i64 i] w fun e w' => e = .returned (.tuple #[.string (s.readS i), .int .i64 (s.readE i)]) ∧ w = w' := by
  obtain ⟨v1, kp, hr⟩ := h.ref
  exact rread_at hr hk hm i hi
def sizeOf7 : Value → Nat
  | .string x => x.size
  | _ => 0
set_option maxRecDepth 100000 in
set_option maxHeartbeats 8000000 in
theorem rlopen_yes (h : RefAt r base s zs v0 v1 v2 kp w) (hk : s.Ok) (hm : s.made < 1099511627776) (h5 : ¬ s.stay.length < 5) (hr : s.readE 0 = 0) (hf : openForm s = false) :
    Calls Tryz.prog 20 #[.pointer (some ⟨r, 0, none⟩)] w fun e w' =>
      (openE s ≠ 0 ∧ e = .returned (.tuple #[.pointer none, .int .i64 (openE s)]) ∧ Below w.heap.size w w') ∨
      (openE s = 0 ∧ ∃ q u, e = .returned (.tuple #[.pointer (some ⟨q, 0, none⟩), .int .i64 0]) ∧ RD q r (openG s) base u false s zs v0 v2 w' w' ∧ (w'.ownsRow w.heap.size 9 1 u ((openRecs s).getD []).length (strVals ((openRecs s).getD [])) ∧ w.heap.size ≤ q) ∧ Below w.heap.size w w') := by
  obtain ⟨a0, c00, rfl⟩ := row_shape h.st
  have c0 := RO.c0 h.obj
  have hle := hk.le
  have H0 := Lib.hid h
  obtain ⟨i0, hi0, hz0, hz1, hz2⟩ : ∃ i0, Tryz.prog.info? 9 = some i0 ∧ i0.zero = some (.string ⟨#[]⟩) ∧ i0.size = 1 ∧ i0.bytes = 16 := by
    have h := infoR
    cases h2 : Tryz.prog.info? 9 with
    | none => rw [h2] at h; cases h
    | some i => rw [h2] at h; simp at h; exact ⟨i, rfl, h.1, h.2.1, h.2.2⟩
  have h5i : ¬ (s.stay.length : Int) < 5 := by omega
  obtain ⟨w1, hw1⟩ : ∃ w1, w.alloc (RLO r 0 (.slice none 0 0) false) = w1 := ⟨_, rfl⟩
  have hB1 : Below w.heap.size w w1 := by rw [← hw1]; exact (Below.refl _ w).alloc (Nat.le_refl _) _
  have hr1 : RD w.heap.size r 0 base (.slice none 0 0) false s zs (.slice a0 s.stay.length c00) v2 w1 w1 := ⟨by rw [← hw1]; exact heap_alloc_new _ _, ⟨_, _, h.below hB1⟩, Stir.refl _ _⟩
  have CR := hr1.made hk hm 0 ⟨by decide, by decide⟩
  have HOpen := Lib.hid (show openE s = if (openL s).1 ≠ 0 then (openL s).1 else if (openRecs s).isSome then 0 else 70 by rw [openE, if_neg h5, if_neg (by simpa using hr), hf]; rfl)
  rw [hr] at CR
  have hx := hk.readS_size hr
  obtain ⟨X, hX⟩ : ∃ X, s.readS 0 = X := ⟨_, rfl⟩
  rw [hX] at CR hx
  have hG : valN (X.extract 2 8).data.toList = saidG X := by rw [cut_data]; rfl
  have hU : valN (X.extract 8 12).data.toList = saidU X := by rw [cut_data]; rfl
  have CV := fun w => rval_any (X.extract 2 8) (by rw [ByteArray.size_extract]; omega) w
  have CU := fun w => rval_any (X.extract 8 12) (by rw [ByteArray.size_extract]; omega) w
  rw [hG] at CV
  rw [hU] at CU
  have hc : (¬ 1099511627776 < saidG X ∧ ¬ 64 * halfN s < saidU X) ∧ headB (saidG X) (saidU X) = X := by
    rw [openForm, openU, hX] at hf
    simp only [Bool.or_eq_false_iff, Bool.not_eq_false', decide_eq_false_iff_not] at hf
    obtain ⟨e1, e2⟩ := hf
    obtain ⟨g1, g2⟩ := (saidOk_is X).1 e1
    exact ⟨⟨by omega, e2⟩, g2.symm⟩
  have CH := fun w => rhead_any (saidG X) (saidU X) (by have := saidG_le X; omega) (by have := saidU_le X; omega) w
  obtain ⟨⟨g1, g2⟩, g3⟩ := hc
  rw [g3] at CH
  have hR2 := hr1.num (n' := saidG X)
  have hB2 : Below w.heap.size w (w1.setCell ⟨w.heap.size, 1, none⟩ (.int .i64 (saidG X))) := hB1.trans (((Stir.refl (· = w.heap.size) w1).set (.inl rfl) _).below (fun k e => Nat.le_of_eq e.symm) hB1.size)
  have f1 : w1.frozen? ⟨w.heap.size, 1, none⟩ = false := RLO.fr hr1.obj 1
  have e1 : w1.cell? ⟨w.heap.size, 1, none⟩ = some (.int .i64 0) := RLO.c1 hr1.obj
  have hhl : halfN s ≤ 8192 := by unfold halfN; omega
  have hm1 : IntKind.i64.wrap (64 * ((halfN s : Nat) : Int)) = 64 * ((halfN s : Nat) : Int) := IntWalk.i64_in _ (by omega)
  have HGe := Lib.hid (show openG s = saidG X by rw [openG, hX])
  have HUe := Lib.hid (show openU s = saidU X by rw [openU, hX])
  have HLe := Lib.hid (show openL s = loads s (1 + saidG X % 2 * halfN s) ((saidU X + 63) / 64) 0 by rw [openL, HGe.out, HUe.out]; rfl)
  have HK := Lib.hid (And.intro hk hm)
  have HFit := Lib.hid (show (1 + saidG X % 2 * halfN s) + (saidU X + 63) / 64 ≤ s.stay.length by
    have : saidG X % 2 = 0 ∨ saidG X % 2 = 1 := by omega
    rcases this with e | e <;> rw [e] <;> unfold halfN at * <;> omega)
  obtain ⟨w2, hw2⟩ : ∃ w2, w1.setCell ⟨w.heap.size, 1, none⟩ (.int .i64 (saidG X)) = w2 := ⟨_, rfl⟩
  rw [hw2] at hR2 hB2
  have d1 : w2.cell? ⟨w.heap.size, 1, none⟩ = some (.int .i64 (saidG X)) := RLO.c1 hR2.obj
  have CF := rhalf_any hR2 hk
  have HR2 := Lib.hid hR2
  have HB2 := Lib.hid hB2
  have t2 : (X.toList != X.toList) = false := by simp
  have HLen := Lib.hid hle
  have g1i : ¬ (1099511627776 : Int) < (saidG X : Int) := by omega
  have g2i : ¬ 64 * ((halfN s : Nat) : Int) < (saidU X : Int) := by omega
  clear hR2 hB2 hG hU hf hX hr hr1 h hm hk hB1
  generalize saidG X = G at *
  generalize saidU X = U at *
  have hw1 : w.alloc (.cells #[.pointer (some ⟨r, 0, none⟩), .int .i64 0, .slice none 0 0, .bool false] 51 (0, 0)) = w1 := hw1
  obtain ⟨N, hN⟩ : ∃ N, s.stay.length = N := ⟨_, rfl⟩
  rw [hN] at c0 h5i HR2 HLen HFit
  have HN := Lib.hid hN
  have HH := Lib.hid (show halfN s = (N - 1) / 2 by unfold halfN; rw [hN])
  obtain ⟨M, hMe⟩ : ∃ M, halfN s = M := ⟨_, rfl⟩
  rw [hMe] at CF hhl hm1 g2 g2i HLe HFit
  have HM := Lib.hid hMe
  clear hN hMe h5 hle g3
  go_enter Tryz.func20, Tryz.ntmps20
  go_wp2_with fail
  refine CR.mono ?_
  rintro e w' ⟨rfl, rfl⟩
  go_wp2_with fail
  refine (CV _).mono ?_
  rintro e w' ⟨rfl, rfl⟩
  go_wp2_with fail
  refine (CU _).mono ?_
  rintro e w' ⟨rfl, rfl⟩
  go_wp2_with fail
  refine CF.mono ?_
  rintro e w' ⟨rfl, rfl⟩
  go_wp2_with fail
  refine (CH _).mono ?_
  rintro e w3 ⟨rfl, hB3⟩
  have R3 := Lib.hid (HR2.out.below hB3)
  have HB3 := Lib.hid (HB2.out.trans (hB3.mono HB2.out.size))
  clear hB3 HR2 HB2 CR CV CU CF CH d1 e1 f1 hw1 hw2 t2 c0 h5i hx
  go_wp2
  go_loopw [8, 9] (fun t i wr => ∃ (k : Nat) (L : List UInt8), k ≤ (U + 63) / 64 ∧ i = .int .i64 k ∧ t = .string (bsL L) ∧ Hid (RD w.heap.size r G base (.slice none 0 0) false s zs (.slice a0 N c00) v2 w1 wr) ∧ Hid (Below w.heap.size w wr) ∧ Hid (L.length = 64 * k ∧ openL s = ((loads s (1 + G % 2 * M) ((U + 63) / 64 - k) k).1, L ++ (loads s (1 + G % 2 * M) ((U + 63) / 64 - k) k).2))) (fun _ i _ => (U + 63) / 64 - (intOf i).toNat)
  case atStart => exact ⟨0, [], Nat.zero_le _, rfl, rfl, R3, HB3, Lib.hid ⟨rfl, HLe.out⟩⟩
  case round =>
    obtain ⟨k, L, hk, rfl, rfl, HR, HB, HP⟩ := hrel
    clear R3 HB3
    have hU1 : U ≤ 524288 := by omega
    by_cases hlt : 64 * k < U
    · have hki : 64 * (k : Int) < (U : Int) := by omega
      have hm2 : IntKind.i64.wrap (64 * (k : Int)) = 64 * (k : Int) := IntWalk.i64_in _ (by omega)
      obtain ⟨A, hA⟩ : ∃ A, G % 2 = A := ⟨_, rfl⟩
      have hA2 : A < 2 := by omega
      have hGi : (G : Int) % 2 = (A : Int) := by omega
      have hGt : (G : Int).tmod 2 = (A : Int) := by rw [Int.tmod_eq_emod_of_nonneg (by omega)]; exact hGi
      obtain ⟨F, hF⟩ : ∃ F, A * M = F := ⟨_, rfl⟩
      have hFle : F ≤ 8192 := by
        have : A = 0 ∨ A = 1 := by omega
        rcases this with rfl | rfl <;> omega
      have hFi : (A : Int) * (M : Int) = (F : Int) := by rw [← hF]; simp
      have hm3 : IntKind.i64.wrap (F : Int) = (F : Int) := IntWalk.i64_in _ (by omega)
      have hm4 : IntKind.i64.wrap (1 + (F : Int)) = 1 + (F : Int) := IntWalk.i64_in _ (by omega)
      have hm5 : IntKind.i64.wrap (1 + (F : Int) + (k : Int)) = ((1 + F + k : Nat) : Int) := by rw [IntWalk.i64_in _ (by omega)]; omega
      rw [hA, hF] at HP
      have HRd := Lib.hid (HR.out.drew)
      have d1 : wr.drew.cell? ⟨w.heap.size, 1, none⟩ = some (.int .i64 G) := RLO.c1 HRd.out.obj
      have CF := rhalf_any HRd.out HK.out.1
      rw [HM.out] at CF
      have CR := HRd.out.made HK.out.1 HK.out.2 ((1 + F + k : Nat) : Int) ⟨by omega, by omega⟩
      have HBd := Lib.hid (show Below w.heap.size w wr.drew from HB.out.drew)
      have hstep : (U + 63) / 64 - k = ((U + 63) / 64 - (k + 1)) + 1 := by omega
      have HGo := Lib.hid (fun h => loads_go (s := s) (f := 1 + F) (k := (U + 63) / 64 - (k + 1)) (i := k) h)
      have HStop := Lib.hid (fun h => loads_stop (s := s) (f := 1 + F) (k := (U + 63) / 64 - (k + 1)) (i := k) h)
      rw [hstep] at HP
      have HKk := Lib.hid hlt
      have HS := Lib.hid hstep
      clear hstep hk hlt
      by_cases hE : s.readE ((1 + F + k : Nat) : Int) = 0
      · have hsz := HK.out.1.readS_size hE
        have HG2 := Lib.hid (HGo.out hE)
        rw [hE] at CR
        generalize s.readS ((1 + F + k : Nat) : Int) = Y at *
        have s1 : (bsL L).size ≤ 1048576 := by rw [size_bsL, HP.out.1]; omega
        have HE := Lib.hid (show bsL L ++ Y = bsL (L ++ Y.data.toList) by rw [bsL_append, bsL_data])
        have HSz := Lib.hid hsz
        clear HGo HStop hE
        go_wp2_with fail
        go_region_held3 (fun w' => w'.cell? ⟨w.heap.size, 1, none⟩ = some (.int .i64 G)) (first | exact d1)
          (first
            | (go_at_call 59; refine CF.mono ?_; rintro e w' ⟨rfl, rfl⟩)
            | (go_at_call 77; refine CR.mono ?_; rintro e w' ⟨rfl, rfl⟩))
        all_goals (
          go_wp2_with fail
          go_roundw
          case rel => exact ⟨k + 1, L ++ Y.data.toList, by have := HKk.out; omega, by go_num, by rw [← HE.out], HRd, HBd, Lib.hid ⟨by rw [List.length_append, HP.out.1, len_of, HSz.out]; omega, by rw [hA, hF, HP.out.2, HG2.out, List.append_assoc]⟩⟩
          case measure => have := HKk.out; simp [intOf]; omega)
      · have HG2 := Lib.hid (HStop.out hE)
        generalize s.readS ((1 + F + k : Nat) : Int) = Y at *
        have hEb : (s.readE ((1 + F + k : Nat) : Int) != 0) = true := by simpa using hE
        have HE0 := Lib.hid hE
        generalize s.readE ((1 + F + k : Nat) : Int) = E at *
        clear HGo HStop hE
        go_wp2_with fail
        go_region_held3 (fun w' => w'.cell? ⟨w.heap.size, 1, none⟩ = some (.int .i64 G)) (first | exact d1)
          (first
            | (go_at_call 59; refine CF.mono ?_; rintro e w' ⟨rfl, rfl⟩)
            | (go_at_call 77; refine CR.mono ?_; rintro e w' ⟨rfl, rfl⟩))
        all_goals (
          go_wp2_with fail
          go_ret2
          refine .inl ?_
          have hz : (openL s).1 = E := by rw [HP.out.2, HG2.out]
          have hoe : openE s = E := by rw [HOpen.out, hz, if_pos HE0.out]
          rw [hoe]
          exact ⟨HE0.out, rfl, HBd.out⟩)
    · have hkK : (U + 63) / 64 - k = 0 := by omega
      have hki : ¬ 64 * (k : Int) < (U : Int) := by omega
      have hm2 : IntKind.i64.wrap (64 * (k : Int)) = 64 * (k : Int) := IntWalk.i64_in _ (by omega)
      have hoL : openL s = (0, L) := by rw [HP.out.2, hkK]; simp [loads]
      have hLl := HP.out.1
      have hsz : (bsL L).size = L.length := size_bsL _
      have hsl : ∀ W, (Instr.slice 9 (.string (bsL L)) none (some (.int .i64 (U : Int))) none).run Tryz.prog W = .ok (.string (bsL (L.take U))) W := fun W => by
        rw [run_slice_string_to_if (P := Tryz.prog) (w := W) 9 (bsL L) .i64 (U : Int) Tryz.underlying9, if_pos ⟨by omega, by omega⟩, Int.toNat_natCast]
        congr 2
        apply ByteArray.ext
        apply Array.toList_inj.1
        rw [Lib.extract_data, List.drop_zero, Nat.sub_zero, data_bsL, data_bsL]
      have hoR : openRecs s = recsOf (L.take U) := by rw [openRecs, hoL, HUe.out]
      have hoE : openE s = if (openRecs s).isSome then 0 else 70 := by rw [HOpen.out, hoL]; simp
      have hTl : (L.take U).length = U := by rw [List.length_take]; omega
      have O0 := Lib.hid HR.out.obj
      have HX := Lib.hid (And.intro hoE hoR)
      have HT := Lib.hid hTl
      clear hoL hoE hoR hTl HP HOpen HLe hkK hLl HR
      generalize L.take U = B0 at *
      generalize bsL L = T0 at *
      go_wp2
      go_loopw [8] (fun t wx => ∃ (B : List UInt8) (R : List ByteArray) (u : Value), t = .string (bsL B) ∧ Hid (wx.heap[w.heap.size]? = some (RLO r G u false)) ∧ Hid (wx.ownsRow w.heap.size 9 1 u R.length (strVals R)) ∧ Hid (Below w.heap.size w wx) ∧ Hid (R.length + B.length ≤ 600000 ∧ openRecs s = (recsOf B).map (R ++ ·))) (fun t _ => sizeOf7 t)
      case atStart => exact ⟨B0, [], _, rfl, O0, Lib.hid ⟨rfl, .inl ⟨rfl, rfl⟩⟩, HB, Lib.hid ⟨by have := HT.out; simp; omega, by rw [HX.out.2]; cases recsOf B0 <;> simp⟩⟩
      case round =>
        clear O0 HB
        obtain ⟨B, R, u, rfl, HO, HRow, HB, HP⟩ := hrel
        have hsT : (bsL B).size = B.length := size_bsL _
        have hsTi : ((bsL B).size : Int) = (B.length : Int) := by omega
        by_cases hB0 : B.length = 0
        · obtain rfl : B = [] := List.eq_nil_of_length_eq_zero hB0
          have hT : bsL [] = (⟨#[]⟩ : ByteArray) := rfl
          rw [hT]
          have HR2 := Lib.hid (show openRecs s = some R by rw [HP.out.2, recsOf_nil]; simp)
          clear hB0 hT hsT hsTi
          go_wp2
          go_ret2
          refine .inr ⟨by rw [HX.out.1, HR2.out]; rfl, _, u, rfl, ?_, ?_, HB.out⟩
          · rw [HGe.out]
            exact ⟨HO.out, ⟨_, _, H0.out.below HB.out⟩, Stir.refl _ _⟩
          · rw [HR2.out]
            exact ⟨HRow.out, Nat.le_refl _⟩
        · have hne : bsL B ≠ (⟨#[]⟩ : ByteArray) := fun e => by
            have : (bsL B).size = 0 := by rw [e]; rfl
            omega
          have t1 : (bsL B).toList.isEmpty = false := by
            rw [ByteArray.toList_eq, data_bsL]
            cases B with
            | nil => simp at hB0
            | cons b B => rfl
          have hsl2 : 2 ≤ B.length → ∀ W, (Instr.slice 9 (.string (bsL B)) none (some (.int .i64 2)) none).run Tryz.prog W = .ok (.string (bsL (B.take 2))) W := fun h2 W => by
            rw [run_slice_string_to_if (P := Tryz.prog) (w := W) 9 (bsL B) .i64 2 Tryz.underlying9, if_pos ⟨by omega, by omega⟩]
            congr 2
            apply ByteArray.ext
            apply Array.toList_inj.1
            rw [Lib.extract_data, List.drop_zero, data_bsL, data_bsL]
            rfl
          have hV := fun w => rval_any (bsL (B.take 2)) (by rw [size_bsL, List.length_take]; omega) w
          rw [data_bsL] at hV
          have hVl := valN_few (l := B.take 2) (k := 2) (by rw [List.length_take]; omega)
          obtain ⟨V, hVe⟩ : ∃ V, valN (B.take 2) = V := ⟨_, rfl⟩
          rw [hVe] at hV hVl
          have hBl : B.length ≤ 600000 := by have := HP.out.1; omega
          have hmS : IntKind.i64.wrap ((B.length : Int) - 2) = (B.length : Int) - 2 := IntWalk.i64_in _ (by omega)
          have hcase : (B.length < 2 ∨ (2 ≤ B.length ∧ 1300 < V) ∨ (2 ≤ B.length ∧ ¬ 1300 < V ∧ B.length - 2 < V)) ∨ (2 ≤ B.length ∧ ¬ 1300 < V ∧ ¬ B.length - 2 < V) := by omega
          rcases hcase with hbad | ⟨h2, h3, h4⟩
          · have HR2 := Lib.hid (show openRecs s = none by rw [HP.out.2, recsOf_bad hB0 (by rw [hVe]; omega)]; rfl)
            have HE7 := Lib.hid (show openE s = 70 by rw [HX.out.1, HR2.out]; rfl)
            rcases hbad with h2 | ⟨h2, h3⟩ | ⟨h2, h3, h4⟩
            · have h2i : (B.length : Int) < 2 := by omega
              clear hsl2
              generalize bsL B = T at *
              go_wp2
              go_ret2
              exact .inl ⟨by rw [HE7.out]; decide, by rw [HE7.out]; rfl, HB.out⟩
            · have h2i : ¬ (B.length : Int) < 2 := by omega
              have h3i : (1300 : Int) < (V : Int) := by omega
              have hsl2 := hsl2 h2
              generalize bsL (B.take 2) = P2 at *
              generalize bsL B = T at *
              go_wp2_with fail
              refine (hV _).mono ?_
              rintro e w' ⟨rfl, rfl⟩
              go_wp2
              go_ret2
              exact .inl ⟨by rw [HE7.out]; decide, by rw [HE7.out]; rfl, HB.out⟩
            · have h2i : ¬ (B.length : Int) < 2 := by omega
              have h3i : ¬ (1300 : Int) < (V : Int) := by omega
              have h4i : (B.length : Int) - 2 < (V : Int) := by omega
              have hsl2 := hsl2 h2
              generalize bsL (B.take 2) = P2 at *
              generalize bsL B = T at *
              go_wp2_with fail
              refine (hV _).mono ?_
              rintro e w' ⟨rfl, rfl⟩
              go_wp2_with fail
              refine (hV _).mono ?_
              rintro e w' ⟨rfl, rfl⟩
              go_wp2
              go_ret2
              exact .inl ⟨by rw [HE7.out]; decide, by rw [HE7.out]; rfl, HB.out⟩
          · obtain ⟨ua, uc, rfl⟩ := row_shape HRow.out
            have hRm := recsOf_more hB0 (by rw [hVe]; omega)
            rw [hVe] at hRm
            have h2i : ¬ (B.length : Int) < 2 := by omega
            have h3i : ¬ (1300 : Int) < (V : Int) := by omega
            have h4i : ¬ (B.length : Int) - 2 < (V : Int) := by omega
            have hmV : IntKind.i64.wrap (2 + (V : Int)) = 2 + (V : Int) := IntWalk.i64_in _ (by omega)
            have hsl2 := hsl2 h2
            have hslM : ∀ W, (Instr.slice 9 (.string (bsL B)) (some (.int .i64 2)) (some (.int .i64 (2 + (V : Int)))) none).run Tryz.prog W = .ok (.string (bsL ((B.drop 2).take V))) W := fun W => by
              rw [run_slice_string (P := Tryz.prog) W 9 (bsL B) .i64 .i64 2 (2 + (V : Int)) Tryz.underlying9 (by omega) (by omega) (by omega)]
              congr 2
              apply ByteArray.ext
              apply Array.toList_inj.1
              rw [Lib.extract_data, data_bsL, data_bsL, show (2 + (V : Int)).toNat - (2 : Int).toNat = V by omega]
              rfl
            have hslF : ∀ W, (Instr.slice 9 (.string (bsL B)) (some (.int .i64 (2 + (V : Int)))) none none).run Tryz.prog W = .ok (.string (bsL (B.drop (2 + V)))) W := fun W => by
              rw [run_slice_string_from_if (P := Tryz.prog) (w := W) 9 (bsL B) .i64 (2 + (V : Int)) Tryz.underlying9, if_pos ⟨by omega, by omega⟩]
              congr 2
              apply ByteArray.ext
              apply Array.toList_inj.1
              rw [Lib.extract_data, data_bsL, data_bsL, show (2 + (V : Int)).toNat = 2 + V by omega, hsT, List.take_of_length_le (by rw [List.length_drop]; omega)]
            have hZl : (B.drop (2 + V)).length = B.length - (2 + V) := List.length_drop
            have hsZ : (bsL (B.drop (2 + V))).size = (B.drop (2 + V)).length := size_bsL _
            have HMea := Lib.hid (show (bsL (B.drop (2 + V))).size < (bsL B).size by omega)
            have HPn := Lib.hid (show (R ++ [bsL ((B.drop 2).take V)]).length + (B.drop (2 + V)).length ≤ 600000 ∧ openRecs s = (recsOf (B.drop (2 + V))).map ((R ++ [bsL ((B.drop 2).take V)]) ++ ·) by
              refine ⟨by rw [List.length_append, List.length_singleton, hZl]; have := HP.out.1; omega, ?_⟩
              rw [HP.out.2, hRm]
              cases recsOf (B.drop (2 + V)) <;> simp)
            have hRl : R.length ≤ 600000 := by have := HP.out.1; omega
            have hnl : (Value.slice ua R.length uc).ownBlock ≠ some w.heap.size := fun e => by
              obtain ⟨C, hC⟩ := owns_block HRow.out e
              rw [HO.out] at hC
              simp [RLO] at hC
            have hlow : w.heap.size < wr.heap.size := (Array.getElem?_eq_some_iff.1 HO.out).1
            clear hRm hsZ hZl hVe hsT hB0 hne HP
            generalize B.drop (2 + V) = Z at *
            generalize bsL ((B.drop 2).take V) = Y at *
            generalize bsL (B.take 2) = P2 at *
            generalize bsL B = TT at *
            have HFin := Lib.hid (show ∀ (v2 : Value) (w6 : World), w6.heap[w.heap.size]? = some (RLO r G (.slice ua R.length uc) false) → w6.ownsRow w.heap.size 9 1 v2 (R.length + 1) (strVals R ++ [.string Y]) → Below w.heap.size w w6 → v2.ownBlock ≠ some w.heap.size →
                ((w6.setCell ⟨w.heap.size, 2, none⟩ v2).heap[w.heap.size]? = some (RLO r G v2 false) ∧ (w6.setCell ⟨w.heap.size, 2, none⟩ v2).ownsRow w.heap.size 9 1 v2 (R ++ [Y]).length (strVals (R ++ [Y])) ∧ Below w.heap.size w (w6.setCell ⟨w.heap.size, 2, none⟩ v2)) from
              fun v2 w6 ho hr hb hn => by
                have hs : Stir (· = w.heap.size) w6 (w6.setCell ⟨w.heap.size, 2, none⟩ v2) := (Stir.refl (· = w.heap.size) w6).set (.inl rfl) _
                refine ⟨by rw [heap_set ho]; simp [RLO], ?_, hb.trans (hs.below (fun k e => Nat.le_of_eq e.symm) hb.size)⟩
                rw [strVals_snoc, List.length_append]
                exact owns_stay hr hs (fun k e e2 => hn (by rw [e, e2])))
            have c2 : wr.drew.cell? ⟨w.heap.size, 2, none⟩ = some (.slice ua R.length uc) := RLO.c2 HO.out
            have HBd := Lib.hid HB.out
            have hszq : w.heap.size ≤ wr.heap.size := Nat.le_of_lt hlow
            have RA := Lib.hid (show ((wr.alloc (.cells #[.string Y] 9)).drew).ownsRow w.heap.size 9 1 (.slice ua R.length uc) R.length (strVals R) from HRow.out.alloc _)
            have OA := Lib.hid (show ((wr.alloc (.cells #[.string Y] 9)).drew).heap[w.heap.size]? = some (RLO r G (.slice ua R.length uc) false) from (Below.heap_alloc wr _ w.heap.size hlow).trans HO.out)
            have c2b : ((wr.alloc (.cells #[.string Y] 9)).drew).cell? ⟨w.heap.size, 2, none⟩ = some (.slice ua R.length uc) := RLO.c2 OA.out
            go_wp2_with fail
            refine (hV _).mono ?_
            rintro e w' ⟨rfl, rfl⟩
            go_wp2_with fail
            refine (hV _).mono ?_
            rintro e w' ⟨rfl, rfl⟩
            go_wp2_with fail
            refine (hV _).mono ?_
            rintro e w' ⟨rfl, rfl⟩
            clear hV hsl2 t1 hmS h2i h3i h4i
            go_wp2_with fail
            go_region_law (first
              | (refine step_append_own _ (by rfl) (.tmp 119) (.tmp 124) _ (by rfl) w.heap.size 9 i0 _ 1 16 Tryz.underlying45 hi0 hz0 hz1 hz2 rfl (by decide) _ R.length (strVals R) (by rfl) RA.out ⟨wr.heap.size, 0, none⟩ 1 1 [.string Y] (by rfl) rfl (cell_one_new wr.drew _ _) (by simp [Value.oneCell']) (by unfold maxLen; omega) (by omega) (by simp; omega) ?_; intro v2 w6 hown2 hgrow2 hat2 hnn2; clear hnn2; obtain ⟨a3, c3, rfl⟩ := row_shape hown2; have ob6 : w6.heap[w.heap.size]? = some (RLO r G (.slice ua R.length uc) false) := (hgrow2.block w.heap.size (by simp; omega) (fun e => hnl e.symm)).trans OA.out; have c6 := RLO.c2 ob6; have f6 := RLO.fr ob6 2; have HF := Lib.hid (HFin.out _ w6 ob6 hown2 (((HBd.out.alloc hszq _).drew).grown hgrow2 (by simp; omega) (fun j e => (RA.out.lt j e).1)) (fun e => by rcases hat2 with h | h; exact hnl (h.symm.trans e); rw [e] at h; simp at h; omega)); clear ob6 hown2 hgrow2 hat2))
            all_goals (
              go_wp2_with fail
              go_roundw
              case rel => exact ⟨Z, R ++ [Y], _, rfl, Lib.hid HF.out.1, Lib.hid HF.out.2.1, Lib.hid HF.out.2.2, HPn⟩
              case measure => exact HMea.out)
end
end Go.Proofs.YteboacjniokfpaaGreatDoor

