/-
  Whatever is appended, begun anew, torn, made bad, opened anew and cloned, in any order: each answer, every sector and how many steps it took are as the document says: for every number of sectors, every number of the log and every list of calls, of which the first hundred are made.
  Conditions: none besides the row's own.
-/
import Derived.Test.YteboacjniokfpaaGreatDoorNvZb
import Derived.Test.YteboacjniokfpaaGreatDoorNvR
import Derived.OwnWalk
import Derived.Deep.RegionHeld3
namespace Go.Proofs.YteboacjniokfpaaGreatDoor.logdoes
open Go.ChangeShapes Go.WideShapes Go.ChangeAt Go.RowKit Go SM

theorem kindO : Kind6 30 := by unfold Kind6; decide
def opO (K N : Int) (S kp : ByteArray) (bd : Bool) : Array Value × TypeId := (#[.int .i64 K, .int .i64 N, .string S, .string kp, .bool bd], 30)
section
variable {w0 w w' : World} {l b g m q r o k n : Nat} {K N gen : Int} {S kp : ByteArray} {bd : Bool} {x y : LS} {a a2 : Value}
theorem opc (h : LB w0 l b g m q r o k (some (opO K N S kp bd)) x y w) : w.cell? ⟨o, 1, none⟩ = some (.int .i64 N) ∧ w.cell? ⟨o, 2, none⟩ = some (.string S) ∧ w.cell? ⟨o, 3, none⟩ = some (.string kp) ∧ w.cell? ⟨o, 4, none⟩ = some (.bool bd) := by
  obtain ⟨e, _⟩ := h.op _ rfl
  simp [World.cell?, e, opO]
theorem start_lb (h : Laid w b g m r n gen a a2 w') (he : formE (fresh (blank n)) gen = 0) :
    ∃ l q, a = .pointer (some ⟨l, 0, none⟩) ∧ a2 = .pointer (some ⟨q, 0, none⟩) ∧ LB w l b g m q r 0 1 none ⟨gen.toNat, [], false, formD (fresh (blank n)) gen⟩ ⟨gen.toNat, [], false, formD (fresh (blank n)) gen⟩ w' := by
  rcases h.log with ⟨_, ⟨l, v, e1, e2, e3⟩, q, f1, f2, f3⟩ | ⟨e, _⟩
  · obtain ⟨zs, v0, v1, v2, kp, hz, hr⟩ := h.ref
    have hm : (formD (fresh (blank n)) gen).made ≤ 40 := by
      have h6 := (len_heads gen.toNat 0 (fresh (blank n))).2
      have h7 : (fresh (blank n)).made = 0 := rfl
      unfold formD
      split
      · omega
      · omega
    exact ⟨l, q, e1, f1, ⟨⟨v, e3⟩, e2, h.over, h.below⟩, ⟨zs, v0, v2, .slice none 0 0, 0, by omega, Nat.zero_le _, f2, ⟨⟨f3, ⟨v1, kp, hr⟩, Stir.refl _ _⟩, ⟨rfl, .inl ⟨rfl, rfl⟩⟩, fun _ _ e => by cases e⟩⟩, by simpa using hm, by simpa using hm, fun _ e => by cases e⟩
  · exact absurd he e
theorem fail_none (h : Laid w b g m r n gen a a2 w') (he : formE (fresh (blank n)) gen ≠ 0) : a = .pointer none ∧ a2 = .pointer none := by
  rcases h.log with ⟨e, _⟩ | ⟨_, h1, h2⟩
  · exact absurd e he
  · exact ⟨h1, h2⟩
theorem row_blk {base : Nat} {v : Value} {xs : List Value} (h : w.ownsRow base 9 1 v n xs) (hn : 0 < n) : ∃ g cap C, v = .slice (some ⟨g, 0, none⟩) n cap ∧ base ≤ g ∧ n ≤ cap ∧ w.heap[g]? = some (.cells C 9 (0, 0)) ∧ n ≤ C.size := by
  rcases h.2 with ⟨_, h0⟩ | ⟨g, cap, cur, h1, h2, h3, h4, h5, h6, h7⟩
  · omega
  · exact ⟨g, cap, cur, h1, h2, h4, h3, by omega⟩
theorem blk_set {g i : Nat} {v : Value} (h : ∃ C, w.heap[g]? = some (.cells C 9 (0, 0)) ∧ n ≤ C.size) : ∃ C, (w.setCell ⟨g, i, none⟩ v).heap[g]? = some (.cells C 9 (0, 0)) ∧ n ≤ C.size := by
  obtain ⟨C, h1, h2⟩ := h
  exact ⟨_, heap_set h1 v, by simpa using h2⟩
end

set_option maxRecDepth 100000 in
set_option maxHeartbeats 16000000 in
theorem walk (z gen : Int) (va : Value) (rs : List (Int × Int × ByteArray × ByteArray × Bool)) (w : World) (hz : IntOk z) (hgn : IntOk gen) (hOa : LOpsAt w va rs) (hza : LOpsOk rs) :
    Calls Tryz.prog 3 #[.int .i64 z, .int .i64 gen, va] w fun r w' => r = .returned (.bool true) ∧ Below w.heap.size w w' := by
  obtain ⟨aa, capa, rfl, ha⟩ := hOa
  have HA := Lib.hid ha
  have HZ := Lib.hid hza
  have hza1 := hza.1
  have CL := laid_log z gen hz hgn w
  have CF := fun w => fixed7_any w
  clear ha hza
  go_enter Tryz.func3, Tryz.ntmps3
  go_wp2_with fail
  refine CL.mono ?_
  rintro e w1 ⟨b0, g0, m0, r, n, a, a2, rfl, hl, hn⟩
  by_cases hE : formE (fresh (blank n)) gen = 0
  · obtain ⟨l0, q0, rfl, rfl, h1⟩ := start_lb hl hE
    have H1 := Lib.hid h1
    clear hl hE h1 CL hn
    generalize (⟨gen.toNat, [], false, formD (fresh (blank n)) gen⟩ : LS) = x0 at *
    go_wp2_with fail
    go_loopw [7, 8, 10, 12] (fun dv lv kv i wr => ∃ (j l b g m q : Nat) (x : LS), j ≤ rs.length ∧ j ≤ 100 ∧ dv = .pointer (some ⟨b, 0, none⟩) ∧ lv = .pointer (some ⟨l, 0, none⟩) ∧ kv = .pointer (some ⟨q, 0, none⟩) ∧ i = .int .i64 j ∧ LB w l b g m q r 0 (1 + 4 * j) none x x wr) (fun _ _ _ i _ => rs.length - (intOf i).toNat)
    case atStart => exact ⟨0, l0, b0, g0, m0, q0, x0, Nat.zero_le _, by omega, rfl, rfl, rfl, rfl, H1.out⟩
    case round =>
      obtain ⟨j, l, b, g, m, q, x, hj, hj1, rfl, rfl, rfl, rfl, hw⟩ := hrel
      clear H1
      have HLW := Lib.hid hw
      by_cases hlt : j < rs.length ∧ j < 100
      · obtain ⟨hlt1, hlt2⟩ := hlt
        obtain ⟨bb, off, rfl, hb, hc⟩ := HA.out (by rintro rfl; simp at hlt1)
        have hji : (j : Int) < (rs.length : Int) := by omega
        have hj2 : (j : Int) < 100 := by omega
        obtain ⟨c0, c1, c2, c3, c4⟩ := hc j hlt1
        have hq := HZ.out.2 rs[j] (List.getElem_mem hlt1)
        have d0 := (hw.lw.below.cell (p := ⟨bb, off + j * 5, none⟩) hb).trans c0
        have d1 := (hw.lw.below.cell (p := ⟨bb, off + j * 5 + 1, none⟩) hb).trans c1
        have d2 := (hw.lw.below.cell (p := ⟨bb, off + j * 5 + 2, none⟩) hb).trans c2
        have d3 := (hw.lw.below.cell (p := ⟨bb, off + j * 5 + 3, none⟩) hb).trans c3
        have d4 := (hw.lw.below.cell (p := ⟨bb, off + j * 5 + 4, none⟩) hb).trans c4
        generalize rs[j] = O at *
        obtain ⟨K, N, S, kp, bd⟩ := O
        simp only at d0 d1 d2 d3 d4 hq
        have HQ := Lib.hid hq
        have HJ := Lib.hid (And.intro hlt1 hlt2)
        obtain ⟨w3, hw3⟩ : ∃ w3, wr.alloc (.cells #[.int .i64 K, .int .i64 N, .string S, .string kp, .bool bd] 30) = w3 := ⟨_, rfl⟩
        have hB3 : Below wr.heap.size wr w3 := by rw [← hw3]; exact (Below.refl _ wr).alloc (Nat.le_refl _) _
        obtain ⟨o, ho⟩ : ∃ o, wr.heap.size = o := ⟨_, rfl⟩
        have ho3 : w3.heap[o]? = some (.cells (opO K N S kp bd).1 (opO K N S kp bd).2 (0, 0)) := by rw [← ho, ← hw3]; exact heap_alloc_new wr _
        have o0 : w3.cell? ⟨o, 0, none⟩ = some (.int .i64 K) := by simp [World.cell?, ho3, opO]
        have H3 := Lib.hid ((hw.later hB3).holds ho3 kindO)
        have HFi := Lib.hid hw.lw.fine
        clear c0 c1 c2 c3 c4 hc hw hlt1 hlt2 ho3 hB3 HLW hq
        go_upto_block 2 with fail
        clear o0 hw3 d0 d1 d2 d3 d4 ho
        go_cut [7, 8, 10, 14, 15, 16, 17] from 56 to 165 (fun dv lv kv av bv _ _ wx => ∃ (l1 b1 g1 m1 q1 : Nat) (y : LS) (E : Int), dv = .pointer (some ⟨b1, 0, none⟩) ∧ lv = .pointer (some ⟨l1, 0, none⟩) ∧ kv = .pointer (some ⟨q1, 0, none⟩) ∧ av = .int .i64 E ∧ bv = .int .i64 E ∧ LB w l1 b1 g1 m1 q1 r o (5 + 4 * j) (some (opO K N S kp bd)) y y wx)
        case first =>
          have hcase : K = 0 ∨ K = 1 ∨ K = 2 ∨ K = 3 ∨ K = 4 ∨ K = 5 ∨ ((K == 0) = false ∧ (K == 1) = false ∧ (K == 2) = false ∧ (K == 3) = false ∧ (K == 4) = false ∧ (K == 5) = false) := by
            simp only [beq_eq_false_iff_ne]; omega
          have hS : S.size ≤ 140737488355328 := by have := HQ.out.2.2.1; omega
          have hkp : kp.size ≤ 140737488355328 := by have := HQ.out.2.2.2; omega
          have HSK := Lib.hid (And.intro hS hkp)
          have hjb : 4 * j ≤ 400 := by have := HJ.out; omega
          clear hS hkp
          obtain ⟨a1, a2, a3, a4⟩ := opc H3.out
          rcases hcase with rfl | rfl | rfl | rfl | rfl | rfl | ⟨k0, k1, k2, k3, k4, k5⟩
          · as_aux_lemma =>
              go_wp2_with fail
              refine (H3.out.append (by omega) S HSK.out.1).mono ?_
              rintro e w4 ⟨rfl, h4⟩
              have H4 := Lib.hid h4
              clear h4 a1 a2 a3 a4
              obtain ⟨a1, a2, a3, a4⟩ := opc H4.out
              go_wp2_with fail
              refine (H4.out.rappend HFi.out (by omega) S HSK.out.1).mono ?_
              rintro e w5 ⟨rfl, h5⟩
              have H5 := Lib.hid h5
              clear h5 a1 a2 a3 a4
              go_wp2_with fail
              go_meet
              exact ⟨_, _, _, _, _, _, _, rfl, rfl, rfl, rfl, rfl, H5.out.le (by omega)⟩
          · as_aux_lemma =>
              go_wp2_with fail
              refine (H3.out.start (by omega) N HQ.out.2.1).mono ?_
              rintro e w4 ⟨rfl, h4⟩
              have H4 := Lib.hid h4
              clear h4 a1 a2 a3 a4
              obtain ⟨a1, a2, a3, a4⟩ := opc H4.out
              go_wp2_with fail
              refine (H4.out.rstart HFi.out (by omega) N HQ.out.2.1).mono ?_
              rintro e w5 ⟨rfl, h5⟩
              have H5 := Lib.hid h5
              clear h5 a1 a2 a3 a4
              go_wp2_with fail
              go_meet
              exact ⟨_, _, _, _, _, _, _, rfl, rfl, rfl, rfl, rfl, H5.out.le (by omega)⟩
          · as_aux_lemma =>
              go_wp2_with fail
              refine (H3.out.arm N HQ.out.2.1 HSK.out.2).mono ?_
              rintro e w4 ⟨rfl, h4⟩
              have H4 := Lib.hid h4
              clear h4 a1 a2 a3 a4
              obtain ⟨a1, a2, a3, a4⟩ := opc H4.out
              go_wp2_with fail
              refine (H4.out.rarm N HQ.out.2.1 HSK.out.2).mono ?_
              rintro e w5 ⟨rfl, h5⟩
              have H5 := Lib.hid h5
              clear h5 a1 a2 a3 a4
              go_wp2_with fail
              go_meet
              exact ⟨_, _, _, _, _, _, _, rfl, rfl, rfl, rfl, rfl, H5.out.le (by omega)⟩
          · as_aux_lemma =>
              go_wp2_with fail
              refine (H3.out.crash (by omega) HSK.out.2).mono ?_
              rintro e w4 ⟨rfl, h4⟩
              have H4 := Lib.hid h4
              clear h4 a1 a2 a3 a4
              obtain ⟨a1, a2, a3, a4⟩ := opc H4.out
              go_wp2_with fail
              refine (H4.out.rcrash HFi.out (by omega) HSK.out.2).mono ?_
              rintro e w5 ⟨rfl, h5⟩
              have H5 := Lib.hid h5
              clear h5 a1 a2 a3 a4 H4
              generalize ({ x with disk := x.disk.crash kp } : LS) = x1 at *
              go_wp2_with fail
              refine (H5.out.revive).mono ?_
              rintro e w6 ⟨rfl, h6⟩
              have H6 := Lib.hid h6
              clear h6
              go_wp2_with fail
              refine (H6.out.rrevive).mono ?_
              rintro e w7 ⟨rfl, h7⟩
              have H7 := Lib.hid h7
              clear h7 H6 H5
              generalize ({ x1 with disk := x1.disk.revive } : LS) = x2 at *
              have HF2 := Lib.hid H7.out.lw.fine
              have CO := H7.out.open_
              have CR := fun l x W (h : LB w l b g m q r o (1 + 4 * j + 1 + 1 + 1 + 1) (some (opO 3 N S kp bd)) x x2 W) => h.ropen HF2.out (by omega)
              have HOX := Lib.hid (show openE x2.disk = openE x2.disk from rfl)
              by_cases e0 : openE x2.disk = 0
              · rw [e0] at CO
                simp only [e0] at CR
                clear e0 HOX
                go_wp2_with fail
                refine CO.mono ?_
                rintro e w8 ⟨p, rfl, hor, _⟩
                obtain ⟨t, rfl, h8⟩ : ∃ t, p = some ⟨t, 0, none⟩ ∧ LB w t b g m q r o (1 + 4 * j + 1 + 1 + 1 + 1) (some (opO 3 N S kp bd)) (openX x2.disk) x2 w8 := by
                  rcases hor with ⟨_, h⟩ | ⟨h, _⟩
                  · exact h
                  · exact absurd rfl h
                have H8 := Lib.hid h8
                clear h8 hor CO
                go_wp2_with fail
                refine (CR _ _ _ H8.out).mono ?_
                rintro e w9 ⟨p, rfl, hor, _⟩
                obtain ⟨t2, rfl, h9⟩ : ∃ t2, p = some ⟨t2, 0, none⟩ ∧ LB w t b g m t2 r o (1 + 4 * j + 1 + 1 + 1 + 1) (some (opO 3 N S kp bd)) (openX x2.disk) (openX x2.disk) w9 := by
                  rcases hor with ⟨_, h⟩ | ⟨h, _⟩
                  · exact h
                  · exact absurd rfl h
                have H9 := Lib.hid h9
                clear h9 hor CR H8
                go_wp2_with fail
                go_meet
                exact ⟨_, _, _, _, _, _, _, rfl, rfl, rfl, rfl, rfl, H9.out.le (by omega)⟩
              · have eb : (openE x2.disk != 0) = true := by simpa using e0
                have HE0 := Lib.hid e0
                generalize openE x2.disk = E at *
                clear e0 HOX
                go_wp2_with fail
                refine CO.mono ?_
                rintro e w8 ⟨p, rfl, hor, hB8⟩
                obtain rfl : p = none := by
                  rcases hor with ⟨h, _⟩ | ⟨_, h⟩
                  · exact absurd h HE0.out
                  · exact h
                have H8 := Lib.hid (H7.out.later hB8)
                clear hB8 hor CO
                go_wp2_with fail
                refine (CR _ _ _ H8.out).mono ?_
                rintro e w9 ⟨p, rfl, hor, hB9⟩
                obtain rfl : p = none := by
                  rcases hor with ⟨h, _⟩ | ⟨_, h⟩
                  · exact absurd h HE0.out
                  · exact h
                have H9 := Lib.hid (H8.out.later hB9)
                clear hB9 hor CR H8
                go_wp2_with fail
                refine (CF _).mono ?_
                rintro e w10 ⟨rfl, hB10⟩
                have H10 := Lib.hid (H9.out.later hB10)
                clear hB10
                go_wp2
                go_ret
                exact ⟨rfl, H10.out.lw.below⟩
          · as_aux_lemma =>
              go_wp2_with fail
              refine (H3.out.bad N HQ.out.2.1 bd).mono ?_
              rintro e w4 ⟨rfl, h4⟩
              have H4 := Lib.hid h4
              clear h4 a1 a2 a3 a4
              obtain ⟨a1, a2, a3, a4⟩ := opc H4.out
              go_wp2_with fail
              refine (H4.out.rbad HFi.out (by omega) N HQ.out.2.1 bd).mono ?_
              rintro e w5 ⟨rfl, h5⟩
              have H5 := Lib.hid h5
              clear h5 a1 a2 a3 a4
              go_wp2_with fail
              go_meet
              exact ⟨_, _, _, _, _, _, _, rfl, rfl, rfl, rfl, rfl, H5.out.le (by omega)⟩
          · as_aux_lemma =>
              have C1c := H3.out.clone1
              clear a1 a2 a3 a4
              go_wp2_with fail
              refine C1c.mono ?_
              rintro e w4 ⟨b', g', m', rfl, h4⟩
              have H4 := Lib.hid h4
              clear h4 C1c
              go_wp2_with fail
              refine (H4.out.clone2).mono ?_
              rintro e w5 ⟨l', rfl, h5⟩
              have H5 := Lib.hid h5
              clear h5
              go_wp2_with fail
              refine (H5.out.append (by omega) _ (by decide)).mono ?_
              rintro e w6 ⟨⟨z1, rfl⟩, h6⟩
              have H6 := Lib.hid h6
              clear h6
              go_wp2_with fail
              refine (H6.out.write (by omega) 0 ⟨by decide, by decide⟩ _).mono ?_
              rintro e w7 ⟨⟨z2, rfl⟩, h7⟩
              have H7 := Lib.hid h7
              clear h7
              go_wp2_with fail
              refine (H7.out.crash (by omega) (by decide)).mono ?_
              rintro e w8 ⟨⟨z3, rfl⟩, h8⟩
              have H8 := Lib.hid h8
              clear h8
              go_wp2_with fail
              go_meet
              exact ⟨_, _, _, _, _, _, _, rfl, rfl, rfl, rfl, rfl, H8.out.le (by omega)⟩
          · as_aux_lemma =>
              clear a1 a2 a3 a4
              go_wp2_with fail
              go_meet
              exact ⟨_, _, _, _, _, _, _, rfl, rfl, rfl, rfl, rfl, H3.out.le (by omega)⟩
        case rest =>
          obtain ⟨l1, b1, g1, m1, q1, y, E, rfl, rfl, rfl, rfl, rfl, hx⟩ := hcut
          have HY := Lib.hid (hx.later ((Below.refl _ _).drew))
          obtain ⟨u0, c3, c1, -, cd, -⟩ := HY.out.cells
          have HFy := Lib.hid HY.out.lw.fine
          have P1 := image_any HY.out.lw.disk
          have P2 := HY.out.rimage HFy.out
          have P4 := steps_any HY.out.lw.disk
          have P5 := HY.out.lw.gen
          have P6 := (HY.out.lw.room).mono fun _ _ hh => And.intro hh.1 hh.2.2
          have P7 := fun W (h : LB w l1 b1 g1 m1 q1 r o (5 + 4 * j) (some (opO K N S kp bd)) y y W) => h.rroom HFy.out
          have P8 := fun W (h : LB w l1 b1 g1 m1 q1 r o (5 + 4 * j) (some (opO K N S kp bd)) y y W) => h.lw.ldead
          clear hx H3
          generalize img y.disk.stay = Z at P1 P2
          go_wp2_with fail
          go_region_held3 (fun w' => w'.cell? ⟨r, 3, none⟩ = some (.int .i64 y.disk.made) ∧ w'.cell? ⟨q1, 1, none⟩ = some (.int .i64 y.gen) ∧ w'.cell? ⟨q1, 3, none⟩ = some (.bool y.dead))
            (first | exact ⟨c3, c1, cd⟩ | exact ⟨e3, e1, ed⟩ | exact ⟨f3, f1, fd⟩)
            (first
              | (go_at_call 25; refine P1.mono ?_; rintro e w' ⟨rfl, rfl⟩)
              | (go_at_call 26; refine P2.mono ?_; rintro e w' ⟨rfl, rfl⟩)
              | (go_at_call 27; refine P4.mono ?_; rintro e w' ⟨rfl, rfl⟩)
              | (go_at_call 28; refine P5.mono ?_; rintro e w' ⟨rfl, rfl⟩)
              | (go_at_call 29; refine P6.mono ?_; rintro e w5 ⟨rfl, hB5⟩; have H5 := Lib.hid (HY.out.later hB5); obtain ⟨-, e3, e1, -, ed, -⟩ := H5.out.cells; clear hB5)
              | (go_at_call 30; refine (P7 _ H5.out).mono ?_; rintro e w6 ⟨rfl, hB6⟩; have H6 := Lib.hid (H5.out.later hB6); obtain ⟨-, f3, f1, -, fd, -⟩ := H6.out.cells; clear hB6)
              | (go_at_call 31; refine (P8 _ H6.out).mono ?_; rintro e w' ⟨rfl, rfl⟩))
          all_goals (
            clear P1 P2 P4 P5 P6 P7 P8 c3 c1 cd e3 e1 ed f3 f1 fd
            go_wp2_with fail
            go_loopw [18] (fun tv wt => ∃ t : Nat, t ≤ 2 ∧ tv = .int .i64 t ∧ LB w l1 b1 g1 m1 q1 r 0 (5 + 4 * j) none y y wt) (fun tv _ => 2 - (intOf tv).toNat)
            case atStart => exact ⟨0, by omega, rfl, H6.out.drop 0⟩
            case round =>
              obtain ⟨t, ht2, rfl, hw⟩ := hrel
              obtain ⟨wt, rfl⟩ : ∃ wt, wt = wr := ⟨_, rfl⟩
              have HW := Lib.hid hw
              by_cases hlt : t < 2
              · have hti : (t : Int) < 2 := by omega
                have CR := hw.lw.records
                clear hw H5 H6 HY
                go_wp2_with fail
                refine CR.mono ?_
                rintro e w7 ⟨ja, jc, rfl, ho7, _, hB7⟩
                have H7 := Lib.hid (HW.out.later hB7)
                obtain ⟨u, -, -, k2, -, ht⟩ := H7.out.cells
                have hfew := HFy.out.few
                have CS := rsame_any (texts_of_row ho7) ht (by omega) (by omega)
                rw [decide_eq_true rfl] at CS
                have HO7 := Lib.hid ho7
                have HB7 := Lib.hid hB7
                clear ho7 hB7 ht CR
                go_wp2_with fail
                refine CS.mono ?_
                rintro e w8 ⟨rfl, hB8⟩
                have HB8 := Lib.hid (HB7.out.trans (hB8.mono HB7.out.size))
                have HO8 := Lib.hid (owns_stay HO7.out (Stir.of_below (F := fun _ => False) hB8) (fun _ _ e => e))
                clear hB8 CS k2 HO7 H7 HB7
                obtain ⟨nr, hnr⟩ : ∃ nr, y.recs.length = nr := ⟨_, rfl⟩
                rw [hnr] at HO8 hfew ⊢
                by_cases hn0 : nr = 0
                · subst hn0
                  go_wp2_with fail
                  go_loopw [20] (fun jv wi => jv = .int .i64 0 ∧ wi = w8) (fun _ _ => 0)
                  case atStart => exact ⟨rfl, rfl⟩
                  case round =>
                    obtain ⟨rfl, rfl⟩ := hrel
                    go_wp2_with fail
                    go_roundw
                    case rel => exact ⟨t + 1, by omega, by go_num, HW.out.later HB8.out⟩
                    case measure => simp [intOf]; omega
                · obtain ⟨gr, cap, C, e9, hgl, hcp, hC, hCs⟩ := row_blk HO8.out (by omega)
                  simp only [Value.slice.injEq] at e9
                  obtain ⟨rfl, -, rfl⟩ := e9
                  have HC := Lib.hid (show ∃ C, w8.heap[gr]? = some (.cells C 9 (0, 0)) ∧ nr ≤ C.size from ⟨C, hC, hCs⟩)
                  have hcpi : (nr : Int) ≤ (jc : Int) := by omega
                  clear hC hCs HO8
                  go_wp2_with fail
                  go_loopw [20] (fun jv wi => ∃ i : Nat, i ≤ nr ∧ jv = .int .i64 i ∧ Hid (∃ C, wi.heap[gr]? = some (.cells C 9 (0, 0)) ∧ nr ≤ C.size) ∧ Hid (Below wt.heap.size wt wi)) (fun jv _ => nr - (intOf jv).toNat)
                  case atStart => exact ⟨0, Nat.zero_le _, rfl, HC, HB8⟩
                  case round =>
                    clear HC HB8
                    obtain ⟨i, hi, rfl, HC, HB⟩ := hrel
                    by_cases hli : i < nr
                    · have hii : (i : Int) < (nr : Int) := by omega
                      obtain ⟨C, hC, hCs⟩ := HC.out
                      have cc : wr.cell? ⟨gr, i, none⟩ = some (C[i]'(by omega)) := by simp [World.cell?, hC, show i < C.size by omega]
                      have cf : wr.frozen? ⟨gr, i, none⟩ = false := by simp [World.frozen?, hC]
                      clear hC
                      generalize C[i]'(by omega) = ci at cc
                      go_wp2_with fail
                      go_roundw
                      case rel => exact ⟨i + 1, by omega, by go_num, Lib.hid (blk_set HC.out), Lib.hid (HB.out.setCell (p := ⟨gr, i, none⟩) hgl _)⟩
                      case measure => simp [intOf]; omega
                    · have hii : ¬ (i : Int) < (nr : Int) := by omega
                      go_wp2_with fail
                      go_roundw
                      case rel => exact ⟨t + 1, by omega, by go_num, HW.out.later HB.out⟩
                      case measure => simp [intOf]; omega
              · have hti : ¬ (t : Int) < 2 := by omega
                clear hw H5 H6 HY
                go_wp2_with fail
                go_roundw
                case rel => exact ⟨j + 1, l1, b1, g1, m1, q1, y, by have := HJ.out; omega, by have := HJ.out; omega, rfl, rfl, rfl, by go_num, HW.out.le (by omega)⟩
                case measure => have := HJ.out; simp [intOf]; omega)
      · have hcase : ¬ ((j : Int) < (rs.length : Int)) ∨ ((j : Int) < (rs.length : Int) ∧ ¬ (j : Int) < 100) := by omega
        clear hlt hw
        rcases hcase with hge | ⟨hlt1, hge⟩
        all_goals (
          go_wp2_with fail
          refine (CF _).mono ?_
          rintro e w5 ⟨rfl, hB5⟩
          have HB5 := Lib.hid (HLW.out.lw.below.trans (hB5.mono HLW.out.lw.below.size))
          clear hB5
          go_wp2
          go_ret
          exact ⟨rfl, HB5.out⟩)
  · obtain ⟨rfl, rfl⟩ := fail_none hl hE
    have HB1 := Lib.hid hl.below
    clear hl hE CL hn
    go_wp2_with fail
    go_loopw [7, 8, 10, 12] (fun dv lv kv i wr => lv = .pointer none ∧ kv = .pointer none ∧ i = .int .i64 0 ∧ wr = w1) (fun _ _ _ _ _ => 0)
    case atStart => exact ⟨rfl, rfl, rfl, rfl⟩
    case round =>
      obtain ⟨rfl, rfl, rfl, rfl⟩ := hrel
      go_wp2_with fail
      refine (CF _).mono ?_
      rintro e w5 ⟨rfl, hB5⟩
      have HB5 := Lib.hid (HB1.out.trans (hB5.mono HB1.out.size))
      clear hB5
      go_wp2
      go_ret
      exact ⟨rfl, HB5.out⟩

theorem reads (os : Os) {H : Type} (enc : TypeId × Value → H) : ∃ places, DataW.whole enc Tryz.prog ((laidWorld os).forCall (fun _ _ => 0) ⟨#[], #[.int .i64 0, .int .i64 0, .slice none 0 0], []⟩).memory Tryz.f3.params.toList Rows.logDoesSpec.vars false (#[.int .i64 0, .int .i64 0, .slice none 0 0] : Array Value).toList 8 = some ([.lit (.int .i64 0), .lit (.int .i64 0), .nil], [], places) :=
  ⟨[], by kernel_rfl⟩

theorem plain (f : FuncId) (fn : Func) (hf : Tryz.pinned.checked.prog.funcNamed "stillage/stillagelaw07.LogDoes" = some f) (hfn : Tryz.pinned.checked.prog.funcs[f]? = some fn) :
    true = Tryz.pinned.checked.prog.looks [] ∧ ∀ (j : Nat) t, fn.params[j]? = some t → Tryz.pinned.checked.prog.wantsStandIn t = false := by
  obtain rfl : f = 3 := Option.some.inj ((show Tryz.prog.funcNamed "stillage/stillagelaw07.LogDoes" = some 3 by kernel_rfl).symm.trans hf) |>.symm
  obtain rfl : fn = Tryz.f3 := (Option.some.inj (Tryz.func3.symm.trans hfn)).symm
  refine ⟨by kernel_rfl, fun j t ht => ?_⟩
  rw [Tryz.params3] at ht
  have hm : t ∈ [3, 3, 22] := by simpa using Array.mem_of_getElem? ht
  have hall : ([3, 3, 22].all fun u => !Tryz.prog.wantsStandIn u) = true := by kernel_rfl
  exact (show Tryz.prog.wantsStandIn t = false by simpa using List.all_eq_true.1 hall t hm)

end Go.Proofs.YteboacjniokfpaaGreatDoor.logdoes

