/-
  The reference's Open of a volume.
-/
import Derived.Test.YtknfakaklmpboaaGreatDoorBlkI
import Derived.Test.YtknfakaklmpboaaGreatDoorBlkS
import Derived.Test.YtknfakaklmpboaaGreatDoorNvS
namespace Go.Proofs.YtknfakaklmpboaaGreatDoor
open Go.RowKit Go Go.Maps SM

theorem rLen_at (x : ByteArray) (hx : 8 < x.size) : rLen x = (x[8]'hx).toNat := by
  unfold rLen
  have h1 : 8 < x.data.toList.length := by simpa using hx
  have : (x.data.toList.drop 8).take 1 = [x[8]'hx] := by
    rw [List.drop_eq_getElem_cons h1]
    simp
    rfl
  rw [this]
  simp [valN]
theorem index_eight (x : ByteArray) (hx : x.size = 64) (W : World) : (Instr.index 9 (.string x) (.int .i64 8)).run Tryz.prog W = .ok (.int .u8 (rLen x : Nat)) W := by
  have h8 : 8 < x.size := by omega
  have := run_index_string (P := Tryz.prog) (w := W) 9 x .i64 8 Tryz.underlying9
  rw [this, rLen_at x h8, dif_pos ⟨by omega, by omega⟩]
  rfl
section
variable {r base : Nat} {s : DS} {zs : List Int} {v0 v1 v2 : Value} {kp : ByteArray} {w w' : World}
theorem RVO.set1 {q r n c : Nat} {t t' : ByteArray} {dead : Bool} {w : World} (h : w.heap[q]? = some (RVO r t n c dead)) : (w.setCell ⟨q, 1, none⟩ (.string t')).heap[q]? = some (RVO r t' n c dead) := by
  rw [heap_set h]; rfl
theorem RVO.set2 {q r n n' c : Nat} {t : ByteArray} {dead : Bool} {w : World} (h : w.heap[q]? = some (RVO r t n c dead)) : (w.setCell ⟨q, 2, none⟩ (.int .i64 n')).heap[q]? = some (RVO r t n' c dead) := by
  rw [heap_set h]; rfl
set_option maxRecDepth 100000 in
set_option maxHeartbeats 8000000 in
theorem rvopen_any (h : RefAt r base s zs v0 v1 v2 kp w) (hk : s.Ok) (hm : s.made < 900000000) :
    Calls Tryz.prog 20 #[.pointer (some ⟨r, 0, none⟩)] w fun e w' => ∃ p, e = .returned (.tuple #[.pointer p, .int .i64 (vopenE s)]) ∧ RVMade r (roots s).2.2 (roots s).2.1 p (vopenE s) w w' ∧ Below w.heap.size w w' := by
  have CO := rof_any h hk
  have H := Lib.hid h
  obtain ⟨E, hE⟩ : ∃ E, vopenE s = E := ⟨_, rfl⟩
  rw [hE]
  cases hb : badV s with
  | true =>
    obtain rfl : 80 = E := by rw [← hE, vopenE, hb]; rfl
    clear h hE
    go_enter Tryz.func20, Tryz.ntmps20
    go_wp2_with fail
    refine CO.mono ?_
    rintro e w1 ⟨p, E1, rfl, hor, hB1⟩
    rcases hor with ⟨_, rfl, rfl⟩ | ⟨e, _⟩
    · have HB1 := Lib.hid hB1
      clear hB1 CO
      go_wp2
      go_ret2
      exact ⟨none, rfl, .inr ⟨by decide, rfl⟩, HB1.out⟩
    · rw [hb] at e; cases e
  | false =>
    have hl32 := (big_is hb).2.2
    have HEE := Lib.hid (show E = if s.dead then 2 else if (rootsTo s 2).2.1 = 0 then (rootsTo s 2).1 else 0 by rw [← hE, vopenE, hb, if_neg (by decide), roots_to])
    have HRk := Lib.hid (fun k => rootsTo_ok s k)
    have HRn := Lib.hid (fun k => rootsTo_ne s k)
    have H32 := Lib.hid hl32
    have HRR := Lib.hid (roots_to s)
    have HRD := fun W (hB : Below w.heap.size w W) (k : Int) (hkk : I64 k) => rread_at (h.below hB) hk (by omega) k hkk
    have HOk := Lib.hid hk
    clear h hE hl32 hk
    go_enter Tryz.func20, Tryz.ntmps20
    go_wp2_with fail
    refine CO.mono ?_
    rintro e w1 ⟨p, E1, rfl, hor, hB1⟩
    obtain ⟨q, c, rfl, rfl, hv⟩ : ∃ q c, p = some ⟨q, 0, none⟩ ∧ E1 = 0 ∧ RVNew q r c none0 0 w w1 := by
      rcases hor with ⟨e, _⟩ | ⟨_, e0, q, c, e1, e2⟩
      · rw [hb] at e; cases e
      · exact ⟨q, c, e1, e0, e2⟩
    have HV := Lib.hid hv
    have HB1 := Lib.hid hB1
    clear hv hB1 hor hb CO
    go_wp2
    go_loopw [6, 7] (fun y i wr => ∃ (k : Nat) (a : Int × Nat × ByteArray), k ≤ 2 ∧ i = .int .i64 k ∧ y = .int .i64 a.1 ∧ Hid (a = rootsTo s k) ∧ Hid (RVNew q r c a.2.2 a.2.1 w wr) ∧ Hid (Below w.heap.size w wr) ∧ Hid (0 < k → s.dead = false)) (fun _ i _ => 2 - (intOf i).toNat)
    case atStart => exact ⟨0, (80, 0, none0), by omega, rfl, rfl, Lib.hid rfl, HV, HB1, Lib.hid (fun h => absurd h (by omega))⟩
    case round =>
      clear HV HB1
      obtain ⟨k, ⟨a1, a2, a3⟩, hk2, rfl, rfl, HA, HV, HB, HD⟩ := hrel
      by_cases hlt : k < 2
      · have hki : (k : Int) < 2 := by omega
        have CR := HRD wr HB.out (k : Int) ⟨by omega, by omega⟩
        have HTwo := Lib.hid (readE_two (s := s) (k := k) (by have := H32.out; omega))
        have HSt := Lib.hid (show rootsTo s (k + 1) = stepRoot s k (a1, a2, a3) by rw [rootsTo, ← HA.out])
        have HSz := Lib.hid (fun he => HOk.out.readS_size (n := (k : Int)) he)
        clear HRD HA
        by_cases h2 : s.readE (k : Int) = 2
        · have HE2 := Lib.hid (show E = 2 by rw [HEE.out, HTwo.out.1 h2]; rfl)
          rw [h2] at CR
          generalize s.readS (k : Int) = X at *
          clear h2 HTwo HSt HSz
          go_wp2_with fail
          refine CR.mono ?_
          rintro e w2 ⟨rfl, rfl⟩
          go_wp2
          go_ret2
          exact ⟨none, by rw [HE2.out]; rfl, .inr ⟨by rw [HE2.out]; decide, rfl⟩, HB.out⟩
        · have h2b : (s.readE (k : Int) == 2) = false := beq_eq_false_iff_ne.2 h2
          have HDk := Lib.hid (show s.dead = false from Bool.eq_false_iff.2 (fun e => h2 (HTwo.out.2 e)))
          by_cases h0 : s.readE (k : Int) = 0
          · have hsz := HSz.out h0
            rw [h0] at CR
            have HS0 := Lib.hid (show rootsTo s (k + 1) = if isRoot (s.readS (k : Int)) k && decide (a2 < rNum (s.readS (k : Int))) then (a1, rNum (s.readS (k : Int)), rText (s.readS (k : Int))) else (a1, a2, a3) by rw [HSt.out, stepRoot, if_neg (by rw [h0]; simp)])
            generalize s.readS (k : Int) = X at *
            have hsA : ∀ W, (Instr.slice 9 (.string X) (some (.int .i64 2)) (some (.int .i64 8)) none).run Tryz.prog W = .ok (.string (X.extract 2 8)) W := fun W => slice_num X 2 8 (by omega) (by omega) (by omega) W
            have hI := fun W => index_eight X hsz W
            have C1 := fun w => rval_any (X.extract 2 8) (by rw [ByteArray.size_extract]; omega) w
            rw [show valN (X.extract 2 8).data.toList = rNum X by rw [Lib.extract_data]; rfl] at C1
            have hn6 : rNum X ≤ 281474976710655 := by
              have := leN_le ((X.data.toList.drop 2).take 6) 6 (by simp; omega)
              unfold rNum; omega
            have hl1 : rLen X ≤ 255 := by
              have := leN_le ((X.data.toList.drop 8).take 1) 1 (by simp; omega)
              unfold rLen; omega
            have c2 := RVO.c2 HV.out.obj
            have hm1 : (rNum X : Int) % 2 = ((rNum X % 2 : Nat) : Int) := by omega
            have hm2 : (rNum X : Int).tmod 2 = ((rNum X % 2 : Nat) : Int) := by rw [Int.tmod_eq_emod_of_nonneg (by omega)]; omega
            clear h2 h0 HTwo HSt HSz h2b
            have hbad : 40 < rLen X ∨ (¬ 40 < rLen X ∧ rNum X < 1) ∨ (¬ 40 < rLen X ∧ ¬ rNum X < 1 ∧ 1099511627776 < rNum X) ∨ (¬ 40 < rLen X ∧ ¬ rNum X < 1 ∧ ¬ 1099511627776 < rNum X ∧ rNum X % 2 ≠ k) ∨ (¬ 40 < rLen X ∧ ¬ rNum X < 1 ∧ ¬ 1099511627776 < rNum X ∧ rNum X % 2 = k ∧ ¬ a2 < rNum X) ∨ (¬ 40 < rLen X ∧ ¬ rNum X < 1 ∧ ¬ 1099511627776 < rNum X ∧ rNum X % 2 = k ∧ a2 < rNum X) := by omega
            rcases hbad with h1 | ⟨h1, h2⟩ | ⟨h1, h2, h3⟩ | ⟨h1, h2, h3, h4⟩ | ⟨h1, h2, h3, h4, h5⟩ | ⟨h1, h2, h3, h4, h5⟩
            · have HS2 := Lib.hid (show rootsTo s (k + 1) = (a1, a2, a3) by rw [HS0.out, if_neg (by rw [isRoot]; simp; omega)])
              clear HS0
              generalize rNum X % 2 = p at *
              generalize rNum X = n at *
              generalize rLen X = L at *
              have g1 : ¬ (L : Int) ≤ 40 := by omega
              clear h1 hsz
              go_wp2_with fail
              refine CR.mono ?_
              rintro e w2 ⟨rfl, rfl⟩
              go_wp2_with fail
              go_region_with (go_at_call 69; refine (C1 _).mono ?_; rintro e w' ⟨rfl, rfl⟩)
              all_goals (
                go_wp2
                go_roundw
                case rel => exact ⟨k + 1, (a1, a2, a3), by omega, by go_num, rfl, Lib.hid HS2.out.symm, Lib.hid ⟨HV.out.obj, HV.out.kept, HV.out.low⟩, Lib.hid HB.out.drew, Lib.hid (fun _ => HDk.out)⟩
                case measure => simp [intOf]; omega)
            · have HS2 := Lib.hid (show rootsTo s (k + 1) = (a1, a2, a3) by rw [HS0.out, if_neg (by rw [isRoot]; simp; omega)])
              clear HS0
              generalize rNum X % 2 = p at *
              generalize rNum X = n at *
              generalize rLen X = L at *
              have g1 : (L : Int) ≤ 40 := by omega
              have g2 : ¬ 1 ≤ (n : Int) := by omega
              clear h1 h2 hsz
              go_wp2_with fail
              refine CR.mono ?_
              rintro e w2 ⟨rfl, rfl⟩
              go_wp2_with fail
              go_region_with (go_at_call 69; refine (C1 _).mono ?_; rintro e w' ⟨rfl, rfl⟩)
              all_goals (
                go_wp2
                go_roundw
                case rel => exact ⟨k + 1, (a1, a2, a3), by omega, by go_num, rfl, Lib.hid HS2.out.symm, Lib.hid ⟨HV.out.obj, HV.out.kept, HV.out.low⟩, Lib.hid HB.out.drew, Lib.hid (fun _ => HDk.out)⟩
                case measure => simp [intOf]; omega)
            · have HS2 := Lib.hid (show rootsTo s (k + 1) = (a1, a2, a3) by rw [HS0.out, if_neg (by rw [isRoot]; simp; omega)])
              clear HS0
              generalize rNum X % 2 = p at *
              generalize rNum X = n at *
              generalize rLen X = L at *
              have g1 : (L : Int) ≤ 40 := by omega
              have g2 : 1 ≤ (n : Int) := by omega
              have g3 : ¬ (n : Int) ≤ 1099511627776 := by omega
              clear h1 h2 h3 hsz
              go_wp2_with fail
              refine CR.mono ?_
              rintro e w2 ⟨rfl, rfl⟩
              go_wp2_with fail
              go_region_with (go_at_call 69; refine (C1 _).mono ?_; rintro e w' ⟨rfl, rfl⟩)
              all_goals (
                go_wp2
                go_roundw
                case rel => exact ⟨k + 1, (a1, a2, a3), by omega, by go_num, rfl, Lib.hid HS2.out.symm, Lib.hid ⟨HV.out.obj, HV.out.kept, HV.out.low⟩, Lib.hid HB.out.drew, Lib.hid (fun _ => HDk.out)⟩
                case measure => simp [intOf]; omega)
            · have HS2 := Lib.hid (show rootsTo s (k + 1) = (a1, a2, a3) by rw [HS0.out, if_neg (by rw [isRoot]; simp; omega)])
              clear HS0
              generalize rNum X % 2 = p at *
              generalize rNum X = n at *
              generalize rLen X = L at *
              have g1 : (L : Int) ≤ 40 := by omega
              have g2 : 1 ≤ (n : Int) := by omega
              have g3 : (n : Int) ≤ 1099511627776 := by omega
              have g4 : ((p : Int) == (k : Int)) = false := by rw [beq_eq_false_iff_ne]; omega
              clear h1 h2 h3 h4 hsz
              go_wp2_with fail
              refine CR.mono ?_
              rintro e w2 ⟨rfl, rfl⟩
              go_wp2_with fail
              go_region_with (go_at_call 69; refine (C1 _).mono ?_; rintro e w' ⟨rfl, rfl⟩)
              all_goals (
                go_wp2
                go_roundw
                case rel => exact ⟨k + 1, (a1, a2, a3), by omega, by go_num, rfl, Lib.hid HS2.out.symm, Lib.hid ⟨HV.out.obj, HV.out.kept, HV.out.low⟩, Lib.hid HB.out.drew, Lib.hid (fun _ => HDk.out)⟩
                case measure => simp [intOf]; omega)
            · have HS2 := Lib.hid (show rootsTo s (k + 1) = (a1, a2, a3) by rw [HS0.out, if_neg (by rw [isRoot]; simp; omega)])
              clear HS0
              generalize rNum X % 2 = p at *
              generalize rNum X = n at *
              generalize rLen X = L at *
              have g1 : (L : Int) ≤ 40 := by omega
              have g2 : 1 ≤ (n : Int) := by omega
              have g3 : (n : Int) ≤ 1099511627776 := by omega
              have g4 : ((p : Int) == (k : Int)) = true := by rw [beq_iff_eq]; omega
              have g5 : ¬ (a2 : Int) < (n : Int) := by omega
              clear h1 h2 h3 h4 h5 hsz
              go_wp2_with fail
              refine CR.mono ?_
              rintro e w2 ⟨rfl, rfl⟩
              go_wp2_with fail
              go_region_with (go_at_call 69; refine (C1 _).mono ?_; rintro e w' ⟨rfl, rfl⟩)
              all_goals (
                go_wp2
                go_roundw
                case rel => exact ⟨k + 1, (a1, a2, a3), by omega, by go_num, rfl, Lib.hid HS2.out.symm, Lib.hid ⟨HV.out.obj, HV.out.kept, HV.out.low⟩, Lib.hid HB.out.drew, Lib.hid (fun _ => HDk.out)⟩
                case measure => simp [intOf]; omega)
            · have HSl := Lib.hid (fun W => slice_num X 9 (9 + rLen X) (by omega) (by omega) (by omega) W)
              have ht : (rText X).size ≤ 40 := rText_size (by omega)
              have hsC : ∀ W, (Instr.slice 9 (.string X) (some (.int .i64 9)) (some (.int .i64 (9 + (rLen X : Int)))) none).run Tryz.prog W = .ok (.string (rText X)) W := fun W => by
                have := HSl.out W
                rwa [show ((9 + rLen X : Nat) : Int) = 9 + (rLen X : Int) by omega] at this
              have CS := fun w => rroot_any (rNum X) (rText X) hn6 ht w
              have HIs := Lib.hid (show (isRoot X k && decide (a2 < rNum X)) = decide (rootB (rText X) (rNum X) = X) by
                rw [isRoot, decide_eq_true h5, decide_eq_true (show 1 ≤ rNum X by omega), decide_eq_true (show rNum X ≤ 1099511627776 by omega), decide_eq_true (show rLen X ≤ 40 by omega), decide_eq_true h4]
                simp)
              have HS1 := Lib.hid (show rootsTo s (k + 1) = if decide (rootB (rText X) (rNum X) = X) then (a1, rNum X, rText X) else (a1, a2, a3) by rw [HS0.out, HIs.out])
              clear HS0 HIs HSl
              generalize rootB (rText X) (rNum X) = Y at *
              generalize rText X = T at *
              generalize rNum X % 2 = p at *
              generalize rNum X = n at *
              generalize rLen X = L at *
              have g1 : (L : Int) ≤ 40 := by omega
              have g2 : 1 ≤ (n : Int) := by omega
              have g3 : (n : Int) ≤ 1099511627776 := by omega
              have g4 : ((p : Int) == (k : Int)) = true := by rw [beq_iff_eq]; omega
              have g5 : (a2 : Int) < (n : Int) := by omega
              clear h1 h2 h3 h4 h5 hsz
              by_cases hY : Y = X
              · have HS2 := Lib.hid (show rootsTo s (k + 1) = (a1, n, T) by rw [HS1.out, if_pos (decide_eq_true hY)])
                have hYX : (Y.toList == X.toList) = true := by rw [hY]; simp
                clear hY HS1
                go_wp2_with fail
                refine CR.mono ?_
                rintro e w2 ⟨rfl, rfl⟩
                go_wp2_with fail
                go_region_with (go_at_call 69; refine (C1 _).mono ?_; rintro e w' ⟨rfl, rfl⟩)
                all_goals (
                  go_wp2_with fail
                  refine (CS _).mono ?_
                  rintro e w3 ⟨rfl, hB3⟩
                  have HB3 := Lib.hid (HB.out.drew.trans (hB3.mono HB.out.size))
                  have ho3 := keeps_of hB3 (show wr.drew.heap[q]? = some (RVO r a3 a2 c false) from HV.out.obj)
                  have hc3 := keeps_of hB3 (show wr.drew.heap[c]? = some (RKO (.slice none 0 0)) from HV.out.kept)
                  have d1 := RVO.c1 ho3
                  have d2 := RVO.c2 ho3
                  have f1 := RVO.fr ho3 1
                  have f2 := RVO.fr ho3 2
                  have hqc : c ≠ q := fun e => by rw [e, ho3] at hc3; simp [RVO, RKO] at hc3
                  have hlq := HV.out.low.1
                  have HW := Lib.hid (show RVNew q r c T n w ((w3.setCell ⟨q, 1, none⟩ (.string T)).setCell ⟨q, 2, none⟩ (.int .i64 n)) from ⟨RVO.set2 (RVO.set1 ho3), heap_set_other (heap_set_other hc3 hqc _) hqc _, HV.out.low⟩)
                  have HBw := Lib.hid (show Below w.heap.size w ((w3.setCell ⟨q, 1, none⟩ (.string T)).setCell ⟨q, 2, none⟩ (.int .i64 n)) from (HB3.out.setCell (p := ⟨q, 1, none⟩) hlq _).setCell (p := ⟨q, 2, none⟩) hlq _)
                  clear hB3 ho3 hc3 hlq hqc CR CS C1
                  go_wp2
                  go_roundw
                  case rel => exact ⟨k + 1, (a1, n, T), by omega, by go_num, rfl, Lib.hid HS2.out.symm, HW, HBw, Lib.hid (fun _ => HDk.out)⟩
                  case measure => simp [intOf]; omega)
              · have HS2 := Lib.hid (show rootsTo s (k + 1) = (a1, a2, a3) by rw [HS1.out, if_neg (by simp [hY])])
                obtain ⟨hYX, hYX2⟩ := texts_ne hY
                clear hY HS1
                go_wp2_with fail
                refine CR.mono ?_
                rintro e w2 ⟨rfl, rfl⟩
                go_wp2_with fail
                go_region_with (go_at_call 69; refine (C1 _).mono ?_; rintro e w' ⟨rfl, rfl⟩)
                all_goals (
                  go_wp2_with fail
                  refine (CS _).mono ?_
                  rintro e w3 ⟨rfl, hB3⟩
                  have HB3 := Lib.hid (HB.out.drew.trans (hB3.mono HB.out.size))
                  have HW := Lib.hid (show RVNew q r c a3 a2 w w3 from ⟨keeps_of hB3 (show wr.drew.heap[q]? = some (RVO r a3 a2 c false) from HV.out.obj), keeps_of hB3 (show wr.drew.heap[c]? = some (RKO (.slice none 0 0)) from HV.out.kept), HV.out.low⟩)
                  clear hB3 CR CS C1
                  go_wp2
                  go_roundw
                  case rel => exact ⟨k + 1, (a1, a2, a3), by omega, by go_num, rfl, Lib.hid HS2.out.symm, HW, HB3, Lib.hid (fun _ => HDk.out)⟩
                  case measure => simp [intOf]; omega)
          · have HS2 := Lib.hid (show rootsTo s (k + 1) = (s.readE (k : Int), a2, a3) by rw [HSt.out, stepRoot, if_pos h0])
            have h0b : (s.readE (k : Int) != 0) = true := by rw [bne_iff_ne]; exact h0
            generalize s.readE (k : Int) = e0 at *
            generalize s.readS (k : Int) = X at *
            clear h2 h0 HTwo HSt HSz
            go_wp2_with fail
            refine CR.mono ?_
            rintro e w2 ⟨rfl, rfl⟩
            go_wp2
            go_roundw
            case rel => exact ⟨k + 1, (e0, a2, a3), by omega, by go_num, rfl, Lib.hid HS2.out.symm, HV, HB, Lib.hid (fun _ => HDk.out)⟩
            case measure => simp [intOf]; omega
      · obtain rfl : k = 2 := by omega
        have hd := HD.out (by omega)
        have ha : (a1, a2, a3) = rootsTo s 2 := HA.out
        have c2 := RVO.c2 HV.out.obj
        have hne := HRn.out 2
        rw [← ha] at hne
        have HEa := HEE.out
        rw [hd, ← ha] at HEa
        simp only [Bool.false_eq_true, if_false] at HEa
        have HRa := Lib.hid (show roots s = (a1, a2, a3) by rw [HRR.out, ha])
        by_cases h0 : a2 = 0
        · subst h0
          have HE1 := Lib.hid (show E = a1 by rw [HEa]; rfl)
          have HN := Lib.hid hne
          clear ha hne HEa hd HRD
          go_wp2
          go_ret2
          exact ⟨none, by rw [HE1.out]; rfl, .inr ⟨by rw [HE1.out]; exact HN.out, rfl⟩, HB.out⟩
        · have HE1 := Lib.hid (show E = 0 by rw [HEa]; exact if_neg h0)
          have h0b : ((a2 : Int) == 0) = false := by rw [beq_eq_false_iff_ne]; omega
          clear ha hne HEa hd h0 HRD
          go_wp2
          go_ret2
          exact ⟨some ⟨q, 0, none⟩, by rw [HE1.out]; rfl, .inl ⟨HE1.out, q, c, rfl, by rw [HRa.out]; exact HV.out⟩, HB.out⟩
end
end Go.Proofs.YtknfakaklmpboaaGreatDoor

