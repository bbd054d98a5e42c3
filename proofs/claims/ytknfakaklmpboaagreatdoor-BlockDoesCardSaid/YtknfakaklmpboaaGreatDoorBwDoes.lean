/-
  Whatever is read, written, committed, torn, made bad, opened anew and cloned, in any order: each answer, every sector and how many steps it took are as the document says: for every number of sectors, every root and every list of calls, of which the first hundred are made.
  Conditions: none besides the row's own.
-/
import Derived.Test.YtknfakaklmpboaaGreatDoorBZ
import Derived.Test.YtknfakaklmpboaaGreatDoorBlkU
import Derived.Test.YtknfakaklmpboaaGreatDoorBlkOps
import Derived.OwnWalk
import Derived.Deep.RegionHeld3
import Derived.Deep.CutRange
namespace Go.Proofs.YtknfakaklmpboaaGreatDoor.bdoes
open Go.ChangeShapes Go.WideShapes Go.ChangeAt Go.RowKit Go SM

theorem kindO : Kind8 30 := by unfold Kind8 K8; decide
def opO (K N : Int) (S kp : ByteArray) (bd : Bool) : Array Value × TypeId := (#[.int .i64 K, .int .i64 N, .string S, .string kp, .bool bd], 30)
section
variable {w w' : World} {l b g m c q r o k n : Nat} {K N : Int} {S kp t : ByteArray} {bd : Bool} {x y : VS} {p p2 : Option Addr}
theorem opc {w0 : World} (h : BB w0 l b g m c q r o k (some (opO K N S kp bd)) x y w) : w.cell? ⟨o, 1, none⟩ = some (.int .i64 N) ∧ w.cell? ⟨o, 2, none⟩ = some (.string S) ∧ w.cell? ⟨o, 3, none⟩ = some (.string kp) ∧ w.cell? ⟨o, 4, none⟩ = some (.bool bd) := by
  obtain ⟨e, _⟩ := h.op _ rfl
  simp [World.cell?, e, opO]
theorem start_bb (h : VLaid w b g m r n t p p2 w') (he : vformE (fresh (blank n)) t = 0) :
    ∃ l c q, p = some ⟨l, 0, none⟩ ∧ p2 = some ⟨q, 0, none⟩ ∧ BB w l b g m c q r 0 1 none (vformX (fresh (blank n)) t) (vformX (fresh (blank n)) t) w' := by
  have hm0 : (vformX (fresh (blank n)) t).disk.made ≤ 40 := by
    have := (len_vformD (fresh (blank n)) t).2
    have e : (fresh (blank n)).made = 0 := rfl
    show (vformD (fresh (blank n)) t).made ≤ 40
    omega
  rcases h.vol with ⟨_, ⟨l, c, e1, e2⟩, q, c2, f1, f2, f3, f4, f5⟩ | ⟨e, _⟩
  · obtain ⟨zs, v0, v1, v2, kp, hz, hr⟩ := h.ref
    exact ⟨l, c, q, e1, f1, e2, ⟨zs, v0, v2, c2, by omega, ⟨f4, ⟨v1, kp, hr⟩, ⟨fun i => i = c2, .slice none 0 0, ⟨f5, World.ownsRow_nil _ _ _ _, fun i => by simp [Value.ownBlock], by simp [Value.ownBlock], f3⟩⟩, f2⟩⟩, by omega, by omega, fun _ e => by cases e⟩
  · exact absurd he e
theorem fail_none (h : VLaid w b g m r n t p p2 w') (he : vformE (fresh (blank n)) t ≠ 0) : p = none ∧ p2 = none := by
  rcases h.vol with ⟨e, _⟩ | ⟨_, h1, h2⟩
  · exact absurd e he
  · exact ⟨h1, h2⟩
end

set_option maxRecDepth 100000 in
set_option maxHeartbeats 16000000 in
theorem walk (z : Int) (t : ByteArray) (va : Value) (rs : List (Int × Int × ByteArray × ByteArray × Bool)) (w : World) (hz : IntOk z) (ht : t.size ≤ 140737488351232) (hOa : LOpsAt w va rs) (hza : LOpsOk rs) :
    Calls Tryz.prog 3 #[.int .i64 z, .string t, va] w fun r w' => r = .returned (.bool true) ∧ Below w.heap.size w w' := by
  obtain ⟨aa, capa, rfl, ha⟩ := hOa
  have HA := Lib.hid ha
  have HZ := Lib.hid hza
  have hza1 := hza.1
  have CL := laid_vol z t hz (by omega) w
  have CF := fun w => fixed8_any w
  clear ha hza
  go_enter Tryz.func3, Tryz.ntmps3
  go_wp2_with fail
  refine CL.mono ?_
  rintro e w1 ⟨b0, g0, m0, r, n, p, p2, rfl, hl, hn⟩
  by_cases hE : vformE (fresh (blank n)) t = 0
  · obtain ⟨l0, c0, q0, rfl, rfl, h1⟩ := start_bb hl hE
    have H1 := Lib.hid h1
    clear hl hE h1 CL hn
    generalize vformX (fresh (blank n)) t = x0 at *
    go_wp2_with fail
    go_loopw [7, 8, 10, 12] (fun dv lv kv i wr => ∃ (j l b g m c q : Nat) (x : VS), j ≤ rs.length ∧ j ≤ 100 ∧ dv = .pointer (some ⟨b, 0, none⟩) ∧ lv = .pointer (some ⟨l, 0, none⟩) ∧ kv = .pointer (some ⟨q, 0, none⟩) ∧ i = .int .i64 j ∧ BB w l b g m c q r 0 (1 + 4 * j) none x x wr) (fun _ _ _ i _ => rs.length - (intOf i).toNat)
    case atStart => exact ⟨0, l0, b0, g0, m0, c0, q0, x0, Nat.zero_le _, by omega, rfl, rfl, rfl, rfl, H1.out⟩
    case round =>
      obtain ⟨j, l, b, g, m, c, q, x, hj, hj1, rfl, rfl, rfl, rfl, hw⟩ := hrel
      clear H1
      have HLW := Lib.hid hw
      by_cases hlt : j < rs.length ∧ j < 100
      · obtain ⟨hlt1, hlt2⟩ := hlt
        obtain ⟨bb, off, rfl, hb, hc⟩ := HA.out (by rintro rfl; simp at hlt1)
        have hji : (j : Int) < (rs.length : Int) := by omega
        have hj2 : (j : Int) < 100 := by omega
        obtain ⟨c0, c1, c2, c3, c4⟩ := hc j hlt1
        have hq := HZ.out.2 rs[j] (List.getElem_mem hlt1)
        have d0 := (hw.vw.below.cell (p := ⟨bb, off + j * 5, none⟩) hb).trans c0
        have d1 := (hw.vw.below.cell (p := ⟨bb, off + j * 5 + 1, none⟩) hb).trans c1
        have d2 := (hw.vw.below.cell (p := ⟨bb, off + j * 5 + 2, none⟩) hb).trans c2
        have d3 := (hw.vw.below.cell (p := ⟨bb, off + j * 5 + 3, none⟩) hb).trans c3
        have d4 := (hw.vw.below.cell (p := ⟨bb, off + j * 5 + 4, none⟩) hb).trans c4
        generalize rs[j] = O at *
        obtain ⟨K, N, S, kp, bd⟩ := O
        simp only at d0 d1 d2 d3 d4 hq
        have HQ := Lib.hid hq
        have HJ := Lib.hid (And.intro hlt1 hlt2)
        obtain ⟨w3, hw3⟩ : ∃ w3, wr.alloc (.cells #[.int .i64 K, .int .i64 N, .string S, .string kp, .bool bd] 30) = w3 := ⟨_, rfl⟩
        have hB3 : Below wr.heap.size wr w3 := by rw [← hw3]; exact (Below.refl _ wr).alloc (Nat.le_refl _) _
        obtain ⟨o, ho⟩ : ∃ o, wr.heap.size = o := ⟨_, rfl⟩
        have ho3 : w3.heap[o]? = some (.cells (opO K N S kp bd).1 (opO K N S kp bd).2 (0, 0)) := by rw [← ho, ← hw3]; exact heap_alloc_new wr _
        have o0 : w3.cell? ⟨o, 0, none⟩ = some (.int .i64 K) := by simp [World.cell?, ho3, opO]
        have H3 := Lib.hid ((hw.later hB3).holds ho3 kindO)
        have HFi := Lib.hid hw.vw.fine
        clear c0 c1 c2 c3 c4 hc hw hlt1 hlt2 ho3 hB3 HLW hq
        go_upto_block 2 with fail
        clear o0 hw3 d0 d1 d2 d3 d4 ho
        go_cut [7, 8, 10, 14, 15, 16, 17, 18, 19] from 57 to 186 (fun dv lv kv av bv sv tv _ _ wx => ∃ (l1 b1 g1 m1 c1 q1 : Nat) (y : VS) (E : Int) (S1 : ByteArray), dv = .pointer (some ⟨b1, 0, none⟩) ∧ lv = .pointer (some ⟨l1, 0, none⟩) ∧ kv = .pointer (some ⟨q1, 0, none⟩) ∧ av = .int .i64 E ∧ bv = .int .i64 E ∧ sv = .string S1 ∧ tv = .string S1 ∧ BB w l1 b1 g1 m1 c1 q1 r o (5 + 4 * j) (some (opO K N S kp bd)) y y wx)
        case first =>
          have hcase : K = 0 ∨ K = 1 ∨ K = 2 ∨ K = 3 ∨ K = 4 ∨ K = 5 ∨ K = 6 ∨ ((K == 0) = false ∧ (K == 1) = false ∧ (K == 2) = false ∧ (K == 3) = false ∧ (K == 4) = false ∧ (K == 5) = false ∧ (K == 6) = false) := by
            simp only [beq_eq_false_iff_ne]; omega
          have hS : S.size ≤ 140737488355328 := by have := HQ.out.2.2.1; omega
          have hkp : kp.size ≤ 140737488355328 := by have := HQ.out.2.2.2; omega
          have HSK := Lib.hid (And.intro hS hkp)
          have hjb : 4 * j ≤ 400 := by have := HJ.out; omega
          clear hS hkp
          obtain ⟨a1, a2, a3, a4⟩ := opc H3.out
          rcases hcase with rfl | rfl | rfl | rfl | rfl | rfl | rfl | ⟨k0, k1, k2, k3, k4, k5, k6⟩
          · as_aux_lemma =>
              go_wp2_with fail
              refine (H3.out.read N HQ.out.2.1).mono ?_
              rintro e w4 ⟨rfl, h4⟩
              have H4 := Lib.hid h4
              clear h4 a1 a2 a3 a4
              obtain ⟨a1, a2, a3, a4⟩ := opc H4.out
              go_wp2_with fail
              refine (H4.out.rread HFi.out (by omega) N).mono ?_
              rintro e w5 ⟨rfl, h5⟩
              have H5 := Lib.hid h5
              clear h5 a1 a2 a3 a4
              go_wp2_with fail
              go_meet
              exact ⟨_, _, _, _, _, _, _, _, _, rfl, rfl, rfl, rfl, rfl, rfl, rfl, H5.out.le (by omega)⟩
          · as_aux_lemma =>
              go_wp2_with fail
              refine (H3.out.write (by omega) N HQ.out.2.1 S HSK.out.1).mono ?_
              rintro e w4 ⟨rfl, h4⟩
              have H4 := Lib.hid h4
              clear h4 a1 a2 a3 a4
              obtain ⟨a1, a2, a3, a4⟩ := opc H4.out
              go_wp2_with fail
              refine (H4.out.rwrite HFi.out (by omega) N S HSK.out.1).mono ?_
              rintro e w5 ⟨rfl, h5⟩
              have H5 := Lib.hid h5
              clear h5 a1 a2 a3 a4
              go_wp2_with fail
              go_meet
              exact ⟨_, _, _, _, _, _, _, _, _, rfl, rfl, rfl, rfl, rfl, rfl, rfl, H5.out.le (by omega)⟩
          · as_aux_lemma =>
              go_wp2_with fail
              refine (H3.out.commit (by omega) S HSK.out.1).mono ?_
              rintro e w4 ⟨rfl, h4⟩
              have H4 := Lib.hid h4
              clear h4 a1 a2 a3 a4
              obtain ⟨a1, a2, a3, a4⟩ := opc H4.out
              go_wp2_with fail
              refine (H4.out.rcommit HFi.out (by omega) S HSK.out.1).mono ?_
              rintro e w5 ⟨rfl, h5⟩
              have H5 := Lib.hid h5
              clear h5 a1 a2 a3 a4
              go_wp2_with fail
              go_meet
              exact ⟨_, _, _, _, _, _, _, _, _, rfl, rfl, rfl, rfl, rfl, rfl, rfl, H5.out.le (by omega)⟩
          · as_aux_lemma =>
              go_wp2_with fail
              refine (H3.out.arm N HQ.out.2.1 HSK.out.2).mono ?_
              rintro e w4 ⟨rfl, h4⟩
              have H4 := Lib.hid h4
              clear h4 a1 a2 a3 a4
              obtain ⟨a1, a2, a3, a4⟩ := opc H4.out
              go_wp2_with fail
              refine (H4.out.rarm N HQ.out.2.1 HSK.out.2).mono ?_
              rintro e w5 ⟨rfl, h5⟩
              have H5 := Lib.hid h5
              clear h5 a1 a2 a3 a4
              go_wp2_with fail
              go_meet
              exact ⟨_, _, _, _, _, _, _, _, _, rfl, rfl, rfl, rfl, rfl, rfl, rfl, H5.out.le (by omega)⟩
          · as_aux_lemma =>
              go_wp2_with fail
              refine (H3.out.crash (by omega) HSK.out.2).mono ?_
              rintro e w4 ⟨rfl, h4⟩
              have H4 := Lib.hid h4
              clear h4 a1 a2 a3 a4
              obtain ⟨a1, a2, a3, a4⟩ := opc H4.out
              go_wp2_with fail
              refine (H4.out.rcrash HFi.out (by omega) HSK.out.2).mono ?_
              rintro e w5 ⟨rfl, h5⟩
              have H5 := Lib.hid h5
              clear h5 a1 a2 a3 a4 H4
              generalize ({ x with disk := x.disk.crash kp } : VS) = x1 at *
              go_wp2_with fail
              refine (H5.out.revive).mono ?_
              rintro e w6 ⟨rfl, h6⟩
              have H6 := Lib.hid h6
              clear h6
              go_wp2_with fail
              refine (H6.out.rrevive).mono ?_
              rintro e w7 ⟨rfl, h7⟩
              have H7 := Lib.hid h7
              clear h7 H6 H5
              generalize ({ x1 with disk := x1.disk.revive } : VS) = x2 at *
              have HF2 := Lib.hid H7.out.vw.fine
              have CO := H7.out.open_
              have CR := fun l c x W (h : BB w l b g m c q r o (1 + 4 * j + 1 + 1 + 1 + 1) (some (opO 4 N S kp bd)) x x2 W) => h.ropen HF2.out (by omega)
              by_cases e0 : vopenE x2.disk = 0
              · rw [e0] at CO
                simp only [e0] at CR
                clear e0
                go_wp2_with fail
                refine CO.mono ?_
                rintro e w8 ⟨p, rfl, hor, _⟩
                obtain ⟨t, cc, rfl, h8⟩ : ∃ t cc, p = some ⟨t, 0, none⟩ ∧ BB w t b g m cc q r o (1 + 4 * j + 1 + 1 + 1 + 1) (some (opO 4 N S kp bd)) (vopenX x2.disk) x2 w8 := by
                  rcases hor with ⟨_, h⟩ | ⟨h, _⟩
                  · exact h
                  · exact absurd rfl h
                have H8 := Lib.hid h8
                clear h8 hor CO
                go_wp2_with fail
                refine (CR _ _ _ _ H8.out).mono ?_
                rintro e w9 ⟨p, rfl, hor, _⟩
                obtain ⟨t2, rfl, h9⟩ : ∃ t2, p = some ⟨t2, 0, none⟩ ∧ BB w t b g m cc t2 r o (1 + 4 * j + 1 + 1 + 1 + 1) (some (opO 4 N S kp bd)) (vopenX x2.disk) (vopenX x2.disk) w9 := by
                  rcases hor with ⟨_, h⟩ | ⟨h, _⟩
                  · exact h
                  · exact absurd rfl h
                have H9 := Lib.hid h9
                clear h9 hor CR H8
                go_wp2_with fail
                go_meet
                exact ⟨_, _, _, _, _, _, _, _, _, rfl, rfl, rfl, rfl, rfl, rfl, rfl, H9.out.le (by omega)⟩
              · have eb : (vopenE x2.disk != 0) = true := by simpa using e0
                have HE0 := Lib.hid e0
                generalize vopenE x2.disk = E at *
                clear e0
                go_wp2_with fail
                refine CO.mono ?_
                rintro e w8 ⟨p, rfl, hor, hB8⟩
                obtain rfl : p = none := by
                  rcases hor with ⟨h, _⟩ | ⟨_, h⟩
                  · exact absurd h HE0.out
                  · exact h
                have H8 := Lib.hid (H7.out.later hB8)
                clear hB8 hor CO
                go_wp2_with fail
                refine (CR _ _ _ _ H8.out).mono ?_
                rintro e w9 ⟨p, rfl, hor, hB9⟩
                obtain rfl : p = none := by
                  rcases hor with ⟨h, _⟩ | ⟨_, h⟩
                  · exact absurd h HE0.out
                  · exact h
                have H9 := Lib.hid (H8.out.later hB9)
                clear hB9 hor CR H8
                go_wp2_with fail
                refine (CF _).mono ?_
                rintro e w10 ⟨rfl, hB10⟩
                have H10 := Lib.hid (H9.out.later hB10)
                clear hB10
                go_wp2
                go_ret
                exact ⟨rfl, H10.out.vw.below⟩
          · as_aux_lemma =>
              go_wp2_with fail
              refine (H3.out.bad N HQ.out.2.1 bd).mono ?_
              rintro e w4 ⟨rfl, h4⟩
              have H4 := Lib.hid h4
              clear h4 a1 a2 a3 a4
              obtain ⟨a1, a2, a3, a4⟩ := opc H4.out
              go_wp2_with fail
              refine (H4.out.rbad HFi.out (by omega) N HQ.out.2.1 bd).mono ?_
              rintro e w5 ⟨rfl, h5⟩
              have H5 := Lib.hid h5
              clear h5 a1 a2 a3 a4
              go_wp2_with fail
              go_meet
              exact ⟨_, _, _, _, _, _, _, _, _, rfl, rfl, rfl, rfl, rfl, rfl, rfl, H5.out.le (by omega)⟩
          · as_aux_lemma =>
              have C1c := H3.out.clone1
              clear a1 a2 a3 a4
              go_wp2_with fail
              refine C1c.mono ?_
              rintro e w4 ⟨b', g', m', rfl, h4⟩
              have H4 := Lib.hid h4
              clear h4 C1c
              go_wp2_with fail
              refine (H4.out.clone2).mono ?_
              rintro e w5 ⟨l', c', rfl, h5⟩
              have H5 := Lib.hid h5
              clear h5
              go_wp2_with fail
              refine (H5.out.write (by omega) 1 ⟨by decide, by decide⟩ _ (by decide)).mono ?_
              rintro e w6 ⟨⟨z1, rfl⟩, x6, h6⟩
              have H6 := Lib.hid h6
              clear h6
              go_wp2_with fail
              refine (H6.out.commit (by omega) _ (by decide)).mono ?_
              rintro e w7 ⟨⟨z2, rfl⟩, x7, h7⟩
              have H7 := Lib.hid h7
              clear h7
              go_wp2_with fail
              refine (H7.out.crash (by omega) (by decide)).mono ?_
              rintro e w8 ⟨⟨z3, rfl⟩, h8⟩
              have H8 := Lib.hid h8
              clear h8
              go_wp2_with fail
              go_meet
              exact ⟨_, _, _, _, _, _, _, _, _, rfl, rfl, rfl, rfl, rfl, rfl, rfl, H8.out.le (by omega)⟩
          · as_aux_lemma =>
              clear a1 a2 a3 a4
              go_wp2_with fail
              go_meet
              exact ⟨_, _, _, _, _, _, _, _, _, rfl, rfl, rfl, rfl, rfl, rfl, rfl, H3.out.le (by omega)⟩
        case rest =>
          obtain ⟨l1, b1, g1, m1, c1, q1, y, E, S1, rfl, rfl, rfl, rfl, rfl, rfl, rfl, hx⟩ := hcut
          have HX := Lib.hid hx
          clear hx H3
          go_wp2_with fail
          refine (HX.out.root).mono ?_
          rintro e w4 ⟨rfl, hx⟩
          have HY := Lib.hid (hx.later ((Below.refl _ _).drew))
          obtain ⟨e3, e1, e2, e4⟩ := HY.out.cells
          have HFy := Lib.hid HY.out.vw.fine
          have P1 := image_any HY.out.vw.disk
          have P2 := HY.out.rimage HFy.out
          have P4 := steps_any HY.out.vw.disk
          have P8 := HY.out.vw.vdead
          clear hx HX
          generalize img y.disk.stay = Z at P1 P2
          go_wp2_with fail
          go_region_held3 (fun w' => w'.cell? ⟨r, 3, none⟩ = some (.int .i64 y.disk.made) ∧ w'.cell? ⟨q1, 1, none⟩ = some (.string y.text) ∧ w'.cell? ⟨q1, 2, none⟩ = some (.int .i64 y.num) ∧ w'.cell? ⟨q1, 4, none⟩ = some (.bool y.dead))
            (first | exact ⟨e3, e1, e2, e4⟩)
            (first
              | (go_at_call 25; refine P1.mono ?_; rintro e w' ⟨rfl, rfl⟩)
              | (go_at_call 26; refine P2.mono ?_; rintro e w' ⟨rfl, rfl⟩)
              | (go_at_call 27; refine P4.mono ?_; rintro e w' ⟨rfl, rfl⟩)
              | (go_at_call 28; refine P8.mono ?_; rintro e w' ⟨rfl, rfl⟩))
          all_goals (
            clear P1 P2 P4 P8 e3 e1 e2 e4
            go_wp2_with fail
            go_roundw
            case rel => exact ⟨j + 1, l1, b1, g1, m1, c1, q1, y, by have := HJ.out; omega, by have := HJ.out; omega, rfl, rfl, rfl, by go_num, (HY.out.drop 0).le (by omega)⟩
            case measure => have := HJ.out; simp [intOf]; omega)
      · have hcase : ¬ ((j : Int) < (rs.length : Int)) ∨ ((j : Int) < (rs.length : Int) ∧ ¬ (j : Int) < 100) := by omega
        clear hlt hw
        rcases hcase with hge | ⟨hlt1, hge⟩
        all_goals (
          go_wp2_with fail
          refine (CF _).mono ?_
          rintro e w5 ⟨rfl, hB5⟩
          have HB5 := Lib.hid (HLW.out.vw.below.trans (hB5.mono HLW.out.vw.below.size))
          clear hB5
          go_wp2
          go_ret
          exact ⟨rfl, HB5.out⟩)
  · obtain ⟨rfl, rfl⟩ := fail_none hl hE
    have HB1 := Lib.hid hl.below
    clear hl hE CL hn
    go_wp2_with fail
    go_loopw [7, 8, 10, 12] (fun dv lv kv i wr => lv = .pointer none ∧ kv = .pointer none ∧ i = .int .i64 0 ∧ wr = w1) (fun _ _ _ _ _ => 0)
    case atStart => exact ⟨rfl, rfl, rfl, rfl⟩
    case round =>
      obtain ⟨rfl, rfl, rfl, rfl⟩ := hrel
      go_wp2_with fail
      refine (CF _).mono ?_
      rintro e w5 ⟨rfl, hB5⟩
      have HB5 := Lib.hid (HB1.out.trans (hB5.mono HB1.out.size))
      clear hB5
      go_wp2
      go_ret
      exact ⟨rfl, HB5.out⟩
end Go.Proofs.YtknfakaklmpboaaGreatDoor.bdoes

