/-
  What is opened has the root of the last Commit that counts, or of the one in which the power went, and what was written ahead of it, crash by crash: for every list of calls, of which the first two hundred are made.
  Conditions: none besides the row's own.
-/
import Derived.Test.YthnpdiopaeommaaGreatBlkU
import Derived.Test.YthnpdiopaeommaaGreatBlkV0
import Derived.Test.YthnpdiopaeommaaGreatBlkM
import Derived.Test.YthnpdiopaeommaaGreatBlkOps
import Derived.OwnWalk
import Derived.Deep.CutRange
namespace Go.Proofs.YthnpdiopaeommaaGreat.bkeeps
open Go.ChangeShapes Go.WideShapes Go.ChangeAt Go.RowKit Go

theorem op_cells {w : World} {o : Nat} {K N : Int} {S kp : ByteArray} {bd : Bool} (h : w.heap[o]? = some (.cells #[.int .i64 K, .int .i64 N, .string S, .string kp, .bool bd] 37 (0, 0))) :
    w.cell? ⟨o, 1, none⟩ = some (.int .i64 N) ∧ w.cell? ⟨o, 2, none⟩ = some (.string S) ∧ w.cell? ⟨o, 3, none⟩ = some (.string kp) := by simp [World.cell?, h]
theorem and_seven (z : Int) : ∃ A : Nat, bits .and .i64 z 7 = (A : Int) ∧ A < 8 := by
  have h : (BitVec.ofInt 64 z &&& BitVec.ofInt 64 7).toNat ≤ 7 := by
    rw [BitVec.toNat_and]
    exact Nat.and_le_right
  refine ⟨(BitVec.ofInt 64 z &&& BitVec.ofInt 64 7).toNat, ?_, by omega⟩
  show IntKind.i64.wrap ((BitVec.ofInt 64 z &&& BitVec.ofInt 64 7).toNat : Int) = _
  exact IntWalk.i64_in _ (by omega)
def empty8 : ByteArray := ⟨#[]⟩
set_option maxRecDepth 100000 in
theorem new_kept : vformE (fresh (blank 32)) empty8 = 0 ∧ Kept (vformX (fresh (blank 32)) empty8) NT.new := by
  obtain ⟨a, b, c, d, e⟩ := format_blank (n := 32) (by omega) (by omega) (t := empty8) (by decide)
  exact ⟨a, b, d, rfl, fun k _ _ => .inr ⟨rfl, fun h => by cases h⟩⟩
set_option maxRecDepth 100000 in
set_option maxHeartbeats 8000000 in
theorem walk (va : Value) (rs : List (Int × Int × ByteArray × ByteArray × Bool)) (w : World) (hOa : LOpsAt w va rs) (hza : LOpsOk rs) :
    Calls Tryz.prog 4 #[va] w fun r w' => r = .returned (.bool true) ∧ Below w.heap.size w w' := by
  obtain ⟨aa, capa, rfl, ha⟩ := hOa
  have HA := Lib.hid ha
  have HZ := Lib.hid hza
  have hza1 := hza.1
  have CL := laid_vol 32 empty8 ⟨by decide, by decide⟩ (by decide) w
  have CF := fun w => fixed8_any w
  have CN := fun w => newNotes_any w
  clear ha hza
  unfold empty8 at CL
  go_enter Tryz.func4, Tryz.ntmps4
  go_wp2_with fail
  refine CL.mono ?_
  rintro e w1 ⟨b, g, m, r, n, p, p2, rfl, hl, hn⟩
  obtain rfl : n = 32 := by omega
  obtain ⟨f0, f1⟩ := new_kept
  have hm0 : (vformX (fresh (blank 32)) empty8).disk.made ≤ 5 := by
    have := (len_vformD (fresh (blank 32)) empty8).2
    have e : (fresh (blank 32)).made = 0 := rfl
    show (vformD (fresh (blank 32)) empty8).made ≤ 5
    omega
  obtain ⟨l, c, q0, rfl, rfl, h1⟩ := hl.vw f0
  have H1 := Lib.hid h1
  have C0 := Lib.hid (And.intro f1 (And.intro (show (vformX (fresh (blank 32)) empty8).num ≤ 1 from Nat.le_refl 1) hm0))
  clear hl f0 f1 h1 CL hn hm0
  generalize hx0 : vformX (fresh (blank 32)) empty8 = x0 at C0
  have H1' := Lib.hid (show VW w l b g m c x0 w1 by rw [← hx0]; exact H1.out)
  clear H1 hx0
  go_wp2_with fail
  refine (CN _).mono ?_
  rintro e w2 ⟨q, hp, np, sp, lp, rfl, hn2, hB2⟩
  have H2 := Lib.hid (H1'.out.later hB2)
  have hn3 : NotesAt w.heap.size q hp np sp lp NT.new w2 := ⟨hn2.obj, hn2.has, hn2.now, hn2.sure, hn2.loose, ⟨Nat.le_trans H1'.out.below.size hn2.low.1, Nat.le_trans H1'.out.below.size hn2.low.2.1, Nat.le_trans H1'.out.below.size hn2.low.2.2.1, Nat.le_trans H1'.out.below.size hn2.low.2.2.2.1, Nat.le_trans H1'.out.below.size hn2.low.2.2.2.2⟩, hn2.two⟩
  have N2 := Lib.hid hn3
  clear hn2 hn3 hB2 H1' CN
  go_wp2
  go_loopw [4, 9] (fun lv i wr => ∃ (j t c : Nat) (x : VS) (n : NT), j ≤ rs.length ∧ j ≤ 200 ∧ lv = .pointer (some ⟨t, 0, none⟩) ∧ i = .int .i64 j ∧ Hid (VW w t b g m c x wr) ∧ Hid (NotesAt w.heap.size q hp np sp lp n wr) ∧ Hid (Kept x n ∧ x.num ≤ 1 + j ∧ x.disk.made ≤ 5 + 6 * j)) (fun _ i _ => rs.length - (intOf i).toNat)
  case atStart => exact ⟨0, l, c, x0, NT.new, Nat.zero_le _, by omega, rfl, rfl, H2, N2, Lib.hid C0.out⟩
  case round =>
    obtain ⟨j, t, c, x, n, hj, hj1, rfl, rfl, HV, HN, HG⟩ := hrel
    clear H2 N2 C0
    by_cases hlt : j < rs.length ∧ j < 200
    · obtain ⟨hlt1, hlt2⟩ := hlt
      obtain ⟨bb, off, rfl, hb, hc⟩ := HA.out (by rintro rfl; simp at hlt1)
      have hji : (j : Int) < (rs.length : Int) := by omega
      have hj2 : (j : Int) < 200 := by omega
      obtain ⟨c0, c1, c2, c3, c4⟩ := hc j hlt1
      have hq := HZ.out.2 rs[j] (List.getElem_mem hlt1)
      have d0 := (HV.out.below.cell (p := ⟨bb, off + j * 5, none⟩) hb).trans c0
      have d1 := (HV.out.below.cell (p := ⟨bb, off + j * 5 + 1, none⟩) hb).trans c1
      have d2 := (HV.out.below.cell (p := ⟨bb, off + j * 5 + 2, none⟩) hb).trans c2
      have d3 := (HV.out.below.cell (p := ⟨bb, off + j * 5 + 3, none⟩) hb).trans c3
      have d4 := (HV.out.below.cell (p := ⟨bb, off + j * 5 + 4, none⟩) hb).trans c4
      generalize rs[j] = O at *
      obtain ⟨K, N, S, kp, bd⟩ := O
      simp only at d0 d1 d2 d3 d4 hq
      have HQ := Lib.hid hq
      have HJ := Lib.hid (And.intro hlt1 hlt2)
      obtain ⟨w3, hw3⟩ : ∃ w3, wr.alloc (.cells #[.int .i64 K, .int .i64 N, .string S, .string kp, .bool bd] 37) = w3 := ⟨_, rfl⟩
      have hB3 : Below wr.heap.size wr w3 := by rw [← hw3]; exact (Below.refl _ wr).alloc (Nat.le_refl _) _
      obtain ⟨o, ho⟩ : ∃ o, wr.heap.size = o := ⟨_, rfl⟩
      have hq3 : w3.heap[o]? = some (.cells #[.int .i64 K, .int .i64 N, .string S, .string kp, .bool bd] 37 (0, 0)) := by rw [← ho, ← hw3]; exact heap_alloc_new wr _
      have q0 : w3.cell? ⟨o, 0, none⟩ = some (.int .i64 K) := by simp [World.cell?, hq3]
      have Q3 := Lib.hid hq3
      have V3 := Lib.hid (HV.out.later hB3)
      have N3 := Lib.hid (HN.out.later hB3)
      obtain ⟨a0, a1, a2, a3, a4, _⟩ := notesO.cells N3.out.obj
      have hmx : x.disk.made < 900000000 := by have := HG.out.2.2; omega
      clear c0 c1 c2 c3 c4 hc hlt1 hlt2 hq3 hB3 HV HN
      go_upto_block 2 with fail
      clear q0 hw3 d0 d1 d2 d3 d4 ho
      have hcase : K = 1 ∨ K = 2 ∨ K = 3 ∨ K = 4 ∨ ((K == 1) = false ∧ (K == 2) = false ∧ (K == 3) = false ∧ (K == 4) = false) := by
        simp only [beq_eq_false_iff_ne]; omega
      obtain ⟨p1, p2', p3⟩ := op_cells Q3.out
      rcases hcase with rfl | rfl | rfl | rfl | ⟨k0, k1, k2, k3⟩
      · -- Write
        obtain ⟨A, hA, hA8⟩ := and_seven N
        have hl64 := HQ.out.2.2.1
        by_cases hs : 240 < S.size
        · have hsi : (240 : Int) < (S.size : Int) := by omega
          have HG2 := Lib.hid (And.intro HG.out.1 (And.intro (show x.num ≤ 1 + (j + 1) by have := HG.out.2.1; omega) (show x.disk.made ≤ 5 + 6 * (j + 1) by have := HG.out.2.2; omega)))
          go_wp2
          go_roundw
          case rel => exact ⟨j + 1, t, c, x, n, by have := HJ.out; omega, by have := HJ.out; omega, rfl, by go_num, V3, N3, HG2⟩
          case measure => have := HJ.out; simp [intOf]; omega
        · have hsi : ¬ (240 : Int) < (S.size : Int) := by omega
          by_cases hA0 : A = 0
          · subst hA0
            have HG2 := Lib.hid (And.intro HG.out.1 (And.intro (show x.num ≤ 1 + (j + 1) by have := HG.out.2.1; omega) (show x.disk.made ≤ 5 + 6 * (j + 1) by have := HG.out.2.2; omega)))
            go_wp2
            go_roundw
            case rel => exact ⟨j + 1, t, c, x, n, by have := HJ.out; omega, by have := HJ.out; omega, rfl, by go_num, V3, N3, HG2⟩
            case measure => have := HJ.out; simp [intOf]; omega
          · have hA1 : ((A : Int) == 0) = false := by simp; omega
            have hAi : (A : Int) < 8 := by omega
            have CA := fun W (h : VW w t b g m c x W) => h.write hmx (A : Int) ⟨by omega, by omega⟩ S (by omega)
            have hmd := made_vwrite x (A : Int) S
            have hk := HG.out.1.write (k := A) (by omega) hA8 (p := S) (by omega) n.root
            have hnum : x.num ≤ 1 + (j + 1) := by have := HG.out.2.1; omega
            have hmd2 : (x.write (A : Int) S).2.disk.made ≤ 5 + 6 * (j + 1) := by have := HG.out.2.2; omega
            generalize (x.write (A : Int) S).2 = y at *
            generalize (x.write (A : Int) S).1 = E at *
            clear hmd
            have HKk := Lib.hid hk
            clear hk
            go_wp2_with fail
            refine (CA _ V3.out).mono ?_
            rintro e w4 ⟨rfl, h4, k4⟩
            have V3' := Lib.hid h4
            have N3' := Lib.hid (N3.out.keep k4)
            have Q4 := Lib.hid (k4.keep Q3.out (by decide) (by decide) (by decide) (by decide) (by decide))
            clear h4 k4 CA V3 N3 Q3 a0 a1 a2 a3 a4 p1 p2' p3
            obtain ⟨a0, a1, a2, a3, a4, _⟩ := notesO.cells N3'.out.obj
            obtain ⟨p1, p2', p3⟩ := op_cells Q4.out
            obtain ⟨h5, s5⟩ := N3'.out.setNow A S
            obtain ⟨w5, hw5⟩ : ∃ w5, (w4.setCell ⟨np, A, none⟩ (.string S)).drew = w5 := ⟨_, rfl⟩
            replace s5 := s5.drew
            replace h5 := h5.drew
            rw [hw5] at h5 s5
            obtain ⟨h6, s6⟩ := h5.setLoose A true
            obtain ⟨w6, hw6⟩ : ∃ w6, w5.setCell ⟨lp, A, none⟩ (.bool true) = w6 := ⟨_, rfl⟩
            rw [hw6] at h6 s6
            obtain ⟨b0, b1, b2, b3, b4, _⟩ := notesO.cells h5.obj
            have c2 := strsO.cell N3'.out.now hA8
            have c2f := strsO.fr N3'.out.now
            have c4 := boolsO.cell h5.loose hA8
            have c4f := boolsO.fr h5.loose
            have V4 := Lib.hid (vw_notes (vw_notes V3'.out N3'.out s5) h5 s6)
            have N4 := Lib.hid (show NotesAt w.heap.size q hp np sp lp (n.note A S) w6 from h6)
            clear h5 h6 s5 s6 V3' N3' Q4
            go_wp2
            go_region
            clear a0 a1 a2 a3 a4 c2 c2f p1 p2' p3 hw5
            rcases HKk.out with ⟨hK, hn⟩ | ⟨hd, hK⟩
            · have HG2 := Lib.hid (show Kept y (n.note A S) ∧ y.num ≤ 1 + (j + 1) ∧ y.disk.made ≤ 5 + 6 * (j + 1) from ⟨hK, by rw [hn]; exact hnum, hmd2⟩)
              clear hK hn hnum hmd2 HKk
              have KD := fun W (h : VW w t b g m c y W) => h.ddead
              rw [HG2.out.1.sound.alive.dead] at KD
              go_wp2_with fail
              refine (KD _ V4.out).mono ?_
              rintro e w5 ⟨rfl, rfl⟩
              go_wp2
              go_roundw
              case rel => exact ⟨j + 1, t, c, y, n.note A S, by have := HJ.out; omega, by have := HJ.out; omega, rfl, by go_num, V4, N4, HG2⟩
              case measure => have := HJ.out; simp [intOf]; omega
            · have HT := Lib.hid (show y.disk.dead = true ∧ Torn8 y.disk (n.note A S) n.root x.num ∧ x.num ≤ 1 + (j + 1) ∧ y.disk.made ≤ 5 + 6 * (j + 1) from ⟨hd, hK, hnum, hmd2⟩)
              clear hK hd hnum hmd2 HKk
              have KD := fun W (h : VW w t b g m c y W) => h.ddead
              rw [HT.out.1] at KD
              have Hm1 := HT.out.2.2.1
              have Hm2 := HT.out.2.2.2
              obtain ⟨r, mm, hmm, hor⟩ := HT.out.2.1
              have hop : vopenE y.revived.disk = 0 ∧ vopenX y.revived.disk = ⟨y.revived.disk, r, mm, [], false⟩ ∧ Sound ⟨y.revived.disk, r, mm, [], false⟩ ∧ y.revived.disk.stay.length = 32 := by
                rcases hor with ⟨_, h⟩ | ⟨_, _, h⟩
                · exact ⟨h.opens.1, h.opens.2.1, h.opens.2.2, h.len⟩
                · exact ⟨h.opens.1, h.opens.2.1, h.opens.2.2, h.len⟩
              obtain ⟨o1, o2, o3, o4⟩ := hop
              have KO := fun W (h : VW w t b g m c y.revived W) => h.open_
              obtain ⟨z, hz⟩ : ∃ z : VS, (⟨y.revived.disk, r, mm, [], false⟩ : VS) = z := ⟨_, rfl⟩
              rw [o1, o2, hz] at KO
              rw [hz] at o3
              have HO := Lib.hid hor
              have HZ1 := Lib.hid (show Sound z ∧ z.disk = y.disk.revive ∧ z.text = r ∧ z.num = mm ∧ z.disk.stay.length = 32 ∧ z.disk.made ≤ 5 + 6 * (j + 1) ∧ mm ≤ 1 + (j + 1) from ⟨o3, by rw [← hz]; rfl, by rw [← hz], by rw [← hz], by rw [← hz]; exact o4, by rw [← hz]; exact Hm2, by omega⟩)
              clear o1 o2 o3 o4 hz hor hmm HT Hm1 Hm2
              go_wp2_with fail
              refine (KD _ V4.out).mono ?_
              rintro e w5 ⟨rfl, rfl⟩
              go_wp2_with fail
              refine (V4.out.revive).mono ?_
              rintro e w6 ⟨rfl, h6, k6⟩
              have V6 := Lib.hid h6
              have N6 := Lib.hid (N4.out.keep k6)
              clear h6 k6 V4 N4 KD
              go_wp2_with fail
              refine (KO _ V6.out).mono ?_
              rintro e w7 ⟨tp, rfl, hpp, _, hB7⟩
              obtain ⟨t2, c2', rfl, h7⟩ : ∃ t2 k, tp = some ⟨t2, 0, none⟩ ∧ VW w t2 b g m k z w7 := by
                rcases hpp with ⟨_, h⟩ | ⟨e, _⟩
                · exact h
                · exact absurd rfl e
              have V7 := Lib.hid h7
              have N7 := Lib.hid (N6.out.later hB7)
              clear h7 hB7 hpp V6 N6 KO
              have KR := fun W (h : VW w t2 b g m c2' z W) => h.root
              rw [HZ1.out.2.2.1, HZ1.out.2.2.2.1] at KR
              go_wp2_with fail
              refine (KR _ V7.out).mono ?_
              rintro e w8 ⟨rfl, h8, hB8⟩
              have V8 := Lib.hid h8
              have N8 := Lib.hid (N7.out.later hB8)
              clear h8 hB8 V7 N7 KR
              obtain ⟨a0, a1, a2, a3, a4, _⟩ := notesO.cells N8.out.obj
              clear a1 a2 a3 a4
              rcases HO.out with ⟨hr, hl⟩ | ⟨hne, hr2, hl⟩
              · have hT : (r.toList == ((n.note A S).root).toList) = true := by rw [hr]; simp
                have CH := nholds_any V8.out N8.out HZ1.out.1 HZ1.out.2.2.2.2.1 (fun k k1 k2 e1 e2 => by rw [HZ1.out.2.1]; exact ⟨(hl.sure k1 k2 e1 e2).1, (hl.sure k1 k2 e1 e2).2.2⟩)
                have HLf := Lib.hid (And.intro hl hr)
                clear hl hr
                go_wp2_with fail
                refine CH.mono ?_
                rintro e w9 ⟨rfl, y2, h9, n9, s9, d9, t9, m9⟩
                have V9 := Lib.hid h9
                have N9 := Lib.hid n9
                have HG9 := Lib.hid (show Kept y2 ((n.note A S).hld 8) ∧ y2.num ≤ 1 + (j + 1) ∧ y2.disk.made ≤ 5 + 6 * (j + 1) from ⟨HLf.out.1.kept HLf.out.2 s9 (d9.trans HZ1.out.2.1) (t9.trans HZ1.out.2.2.1), by rw [m9, HZ1.out.2.2.2.1]; exact HZ1.out.2.2.2.2.2.2, by rw [d9]; exact HZ1.out.2.2.2.2.2.1⟩)
                clear h9 n9 s9 d9 t9 m9 CH
                go_wp2
                go_roundw
                case rel => exact ⟨j + 1, t2, c2', y2, (n.note A S).hld 8, by have := HJ.out; omega, by have := HJ.out; omega, rfl, by go_num, V9, N9, HG9⟩
                case measure => have := HJ.out; simp [intOf]; omega
              · obtain ⟨hT0, hT1⟩ := texts_ne hne
                have hT2 : (r.toList != (n.root).toList) = false := by rw [hr2]; simp
                have hT3 : (r.toList == (n.root).toList) = true := by rw [hr2]; simp
                have CC := fun W (h : NotesAt w.heap.size q hp np sp lp (n.note A S) W) => counts_any h r
                have HLf := Lib.hid hl
                clear hl hne hr2
                go_wp2_with fail
                refine (CC _ N8.out).mono ?_
                rintro e w9 ⟨rfl, n9, s9⟩
                have V9 := Lib.hid (vw_notes V8.out N8.out s9)
                have N9 := Lib.hid n9
                clear n9 s9 V8 N8 CC a0
                have CH := nholds_any V9.out N9.out HZ1.out.1 HZ1.out.2.2.2.2.1 (fun k k1 k2 e1 e2 => by rw [HZ1.out.2.1]; exact ⟨(HLf.out.sure k1 k2 e1 e2).1, (HLf.out.sure k1 k2 e1 e2).2.2⟩)
                go_wp2_with fail
                refine CH.mono ?_
                rintro e w10 ⟨rfl, y2, h9, n9, s9, d9, t9, m9⟩
                have V10 := Lib.hid h9
                have N10 := Lib.hid n9
                have HG9 := Lib.hid (show Kept y2 (((n.note A S).cts r 8).hld 8) ∧ y2.num ≤ 1 + (j + 1) ∧ y2.disk.made ≤ 5 + 6 * (j + 1) from ⟨HLf.out.kept rfl s9 (d9.trans HZ1.out.2.1) (t9.trans HZ1.out.2.2.1), by rw [m9, HZ1.out.2.2.2.1]; exact HZ1.out.2.2.2.2.2.2, by rw [d9]; exact HZ1.out.2.2.2.2.2.1⟩)
                clear h9 n9 s9 d9 t9 m9 CH
                go_wp2
                go_roundw
                case rel => exact ⟨j + 1, t2, c2', y2, ((n.note A S).cts r 8).hld 8, by have := HJ.out; omega, by have := HJ.out; omega, rfl, by go_num, V10, N10, HG9⟩
                case measure => have := HJ.out; simp [intOf]; omega
      · -- Commit
        have hl64 := HQ.out.2.2.1
        by_cases hs : 40 < S.size
        · have hsi : (40 : Int) < (S.size : Int) := by omega
          have HG2 := Lib.hid (And.intro HG.out.1 (And.intro (show x.num ≤ 1 + (j + 1) by have := HG.out.2.1; omega) (show x.disk.made ≤ 5 + 6 * (j + 1) by have := HG.out.2.2; omega)))
          go_wp2
          go_roundw
          case rel => exact ⟨j + 1, t, c, x, n, by have := HJ.out; omega, by have := HJ.out; omega, rfl, by go_num, V3, N3, HG2⟩
          case measure => have := HJ.out; simp [intOf]; omega
        · have hsi : ¬ (40 : Int) < (S.size : Int) := by omega
          have CA := fun W (h : VW w t b g m c x W) => h.commit hmx S (by omega)
          have hmd := made_vcommit x S
          have hk := HG.out.1.commit (t := S) (by omega) (by have := HG.out.2.1; omega)
          have hnum : x.num + 1 ≤ 1 + (j + 1) := by have := HG.out.2.1; omega
          have hmd2 : (x.commit S).2.disk.made ≤ 5 + 6 * (j + 1) := by have := HG.out.2.2; omega
          generalize (x.commit S).2 = y at *
          generalize (x.commit S).1 = E at *
          clear hmd
          rcases hk with ⟨rfl, hK, hn⟩ | ⟨rfl, hd, hK⟩
          · have HG2 := Lib.hid (show Kept y (n.cts S 8) ∧ y.num ≤ 1 + (j + 1) ∧ y.disk.made ≤ 5 + 6 * (j + 1) from ⟨hK, by rw [hn]; exact hnum, hmd2⟩)
            clear hK hn hnum hmd2
            go_wp2_with fail
            refine (CA _ V3.out).mono ?_
            rintro e w4 ⟨rfl, h4, k4⟩
            have V3' := Lib.hid h4
            have N3' := Lib.hid (N3.out.keep k4)
            have CC := fun W (h : NotesAt w.heap.size q hp np sp lp n W) => counts_any h S
            clear h4 k4 CA V3 N3 Q3 a0 a1 a2 a3 a4 p1 p2' p3
            go_wp2_with fail
            refine (CC _ N3'.out).mono ?_
            rintro e w4 ⟨rfl, n9, s9⟩
            have V4 := Lib.hid (vw_notes V3'.out N3'.out s9)
            have N4 := Lib.hid n9
            clear n9 s9 V3' N3' CC
            have KD := fun W (h : VW w t b g m c y W) => h.ddead
            rw [HG2.out.1.sound.alive.dead] at KD
            go_wp2_with fail
            refine (KD _ V4.out).mono ?_
            rintro e w5 ⟨rfl, rfl⟩
            go_wp2
            go_roundw
            case rel => exact ⟨j + 1, t, c, y, n.cts S 8, by have := HJ.out; omega, by have := HJ.out; omega, rfl, by go_num, V4, N4, HG2⟩
            case measure => have := HJ.out; simp [intOf]; omega
          · have HT := Lib.hid (show y.disk.dead = true ∧ Torn8 y.disk n S (x.num + 1) ∧ x.num + 1 ≤ 1 + (j + 1) ∧ y.disk.made ≤ 5 + 6 * (j + 1) from ⟨hd, hK, hnum, hmd2⟩)
            clear hK hd hnum hmd2
            go_wp2_with fail
            refine (CA _ V3.out).mono ?_
            rintro e w4 ⟨rfl, h4, k4⟩
            have V4 := Lib.hid h4
            have N4 := Lib.hid (N3.out.keep k4)
            clear h4 k4 CA V3 N3 Q3 a0 a1 a2 a3 a4 p1 p2' p3
            have KD := fun W (h : VW w t b g m c y W) => h.ddead
            rw [HT.out.1] at KD
            have Hm1 := HT.out.2.2.1
            have Hm2 := HT.out.2.2.2
            obtain ⟨r, mm, hmm, hor⟩ := HT.out.2.1
            have hop : vopenE y.revived.disk = 0 ∧ vopenX y.revived.disk = ⟨y.revived.disk, r, mm, [], false⟩ ∧ Sound ⟨y.revived.disk, r, mm, [], false⟩ ∧ y.revived.disk.stay.length = 32 := by
              rcases hor with ⟨_, h⟩ | ⟨_, _, h⟩
              · exact ⟨h.opens.1, h.opens.2.1, h.opens.2.2, h.len⟩
              · exact ⟨h.opens.1, h.opens.2.1, h.opens.2.2, h.len⟩
            obtain ⟨o1, o2, o3, o4⟩ := hop
            have KO := fun W (h : VW w t b g m c y.revived W) => h.open_
            obtain ⟨z, hz⟩ : ∃ z : VS, (⟨y.revived.disk, r, mm, [], false⟩ : VS) = z := ⟨_, rfl⟩
            rw [o1, o2, hz] at KO
            rw [hz] at o3
            have HO := Lib.hid hor
            have HZ1 := Lib.hid (show Sound z ∧ z.disk = y.disk.revive ∧ z.text = r ∧ z.num = mm ∧ z.disk.stay.length = 32 ∧ z.disk.made ≤ 5 + 6 * (j + 1) ∧ mm ≤ 1 + (j + 1) from ⟨o3, by rw [← hz]; rfl, by rw [← hz], by rw [← hz], by rw [← hz]; exact o4, by rw [← hz]; exact Hm2, by omega⟩)
            clear o1 o2 o3 o4 hz hor hmm HT Hm1 Hm2
            go_wp2_with fail
            refine (KD _ V4.out).mono ?_
            rintro e w5 ⟨rfl, rfl⟩
            go_wp2_with fail
            refine (V4.out.revive).mono ?_
            rintro e w6 ⟨rfl, h6, k6⟩
            have V6 := Lib.hid h6
            have N6 := Lib.hid (N4.out.keep k6)
            clear h6 k6 V4 N4 KD
            go_wp2_with fail
            refine (KO _ V6.out).mono ?_
            rintro e w7 ⟨tp, rfl, hpp, _, hB7⟩
            obtain ⟨t2, c2', rfl, h7⟩ : ∃ t2 k, tp = some ⟨t2, 0, none⟩ ∧ VW w t2 b g m k z w7 := by
              rcases hpp with ⟨_, h⟩ | ⟨e, _⟩
              · exact h
              · exact absurd rfl e
            have V7 := Lib.hid h7
            have N7 := Lib.hid (N6.out.later hB7)
            clear h7 hB7 hpp V6 N6 KO
            have KR := fun W (h : VW w t2 b g m c2' z W) => h.root
            rw [HZ1.out.2.2.1, HZ1.out.2.2.2.1] at KR
            go_wp2_with fail
            refine (KR _ V7.out).mono ?_
            rintro e w8 ⟨rfl, h8, hB8⟩
            have V8 := Lib.hid h8
            have N8 := Lib.hid (N7.out.later hB8)
            clear h8 hB8 V7 N7 KR
            obtain ⟨a0, a1, a2, a3, a4, _⟩ := notesO.cells N8.out.obj
            clear a1 a2 a3 a4
            rcases HO.out with ⟨hr, hl⟩ | ⟨hne, hr2, hl⟩
            · have hT : (r.toList == (n.root).toList) = true := by rw [hr]; simp
              have CH := nholds_any V8.out N8.out HZ1.out.1 HZ1.out.2.2.2.2.1 (fun k k1 k2 e1 e2 => by rw [HZ1.out.2.1]; exact ⟨(hl.sure k1 k2 e1 e2).1, (hl.sure k1 k2 e1 e2).2.2⟩)
              have HLf := Lib.hid (And.intro hl hr)
              clear hl hr
              go_wp2_with fail
              refine CH.mono ?_
              rintro e w9 ⟨rfl, y2, h9, n9, s9, d9, t9, m9⟩
              have V9 := Lib.hid h9
              have N9 := Lib.hid n9
              have HG9 := Lib.hid (show Kept y2 ((n).hld 8) ∧ y2.num ≤ 1 + (j + 1) ∧ y2.disk.made ≤ 5 + 6 * (j + 1) from ⟨HLf.out.1.kept HLf.out.2 s9 (d9.trans HZ1.out.2.1) (t9.trans HZ1.out.2.2.1), by rw [m9, HZ1.out.2.2.2.1]; exact HZ1.out.2.2.2.2.2.2, by rw [d9]; exact HZ1.out.2.2.2.2.2.1⟩)
              clear h9 n9 s9 d9 t9 m9 CH
              go_wp2
              go_roundw
              case rel => exact ⟨j + 1, t2, c2', y2, (n).hld 8, by have := HJ.out; omega, by have := HJ.out; omega, rfl, by go_num, V9, N9, HG9⟩
              case measure => have := HJ.out; simp [intOf]; omega
            · obtain ⟨hT0, hT1⟩ := texts_ne hne
              have hT2 : (r.toList != (S).toList) = false := by rw [hr2]; simp
              have hT3 : (r.toList == (S).toList) = true := by rw [hr2]; simp
              have CC := fun W (h : NotesAt w.heap.size q hp np sp lp (n) W) => counts_any h r
              have HLf := Lib.hid hl
              clear hl hne hr2
              go_wp2_with fail
              refine (CC _ N8.out).mono ?_
              rintro e w9 ⟨rfl, n9, s9⟩
              have V9 := Lib.hid (vw_notes V8.out N8.out s9)
              have N9 := Lib.hid n9
              clear n9 s9 V8 N8 CC a0
              have CH := nholds_any V9.out N9.out HZ1.out.1 HZ1.out.2.2.2.2.1 (fun k k1 k2 e1 e2 => by rw [HZ1.out.2.1]; exact ⟨(HLf.out.sure k1 k2 e1 e2).1, (HLf.out.sure k1 k2 e1 e2).2.2⟩)
              go_wp2_with fail
              refine CH.mono ?_
              rintro e w10 ⟨rfl, y2, h9, n9, s9, d9, t9, m9⟩
              have V10 := Lib.hid h9
              have N10 := Lib.hid n9
              have HG9 := Lib.hid (show Kept y2 (((n).cts r 8).hld 8) ∧ y2.num ≤ 1 + (j + 1) ∧ y2.disk.made ≤ 5 + 6 * (j + 1) from ⟨HLf.out.kept rfl s9 (d9.trans HZ1.out.2.1) (t9.trans HZ1.out.2.2.1), by rw [m9, HZ1.out.2.2.2.1]; exact HZ1.out.2.2.2.2.2.2, by rw [d9]; exact HZ1.out.2.2.2.2.2.1⟩)
              clear h9 n9 s9 d9 t9 m9 CH
              go_wp2
              go_roundw
              case rel => exact ⟨j + 1, t2, c2', y2, ((n).cts r 8).hld 8, by have := HJ.out; omega, by have := HJ.out; omega, rfl, by go_num, V10, N10, HG9⟩
              case measure => have := HJ.out; simp [intOf]; omega
      · -- Arm
        have CA := fun W (h : VW w t b g m c x W) => h.arm N HQ.out.2.1 (keep := kp) (by have := HQ.out.2.2.2; omega)
        have HK := HG.out.1.arm (k := N) (by have := HQ.out.2.1.2; omega) (keep := kp) (by have := HQ.out.2.2.2; omega)
        have HG2 := Lib.hid (And.intro HK (And.intro (show (x.armed N kp).num ≤ 1 + (j + 1) by have := HG.out.2.1; show x.num ≤ _; omega) (show (x.armed N kp).disk.made ≤ 5 + 6 * (j + 1) by have := HG.out.2.2; have := made_arm8 (x := x) N kp; omega)))
        clear HK
        generalize x.armed N kp = y at *
        go_wp2_with fail
        refine (CA _ V3.out).mono ?_
        rintro e w4 ⟨rfl, h4, k4⟩
        have V4 := Lib.hid h4
        have N4 := Lib.hid (N3.out.keep k4)
        clear h4 k4 CA V3 N3 Q3 a0 a1 a2 a3 a4 p1 p2' p3
        have KD := fun W (h : VW w t b g m c y W) => h.ddead
        rw [HG2.out.1.sound.alive.dead] at KD
        go_wp2_with fail
        refine (KD _ V4.out).mono ?_
        rintro e w5 ⟨rfl, rfl⟩
        go_wp2
        go_roundw
        case rel => exact ⟨j + 1, t, c, y, n, by have := HJ.out; omega, by have := HJ.out; omega, rfl, by go_num, V4, N4, HG2⟩
        case measure => have := HJ.out; simp [intOf]; omega
      · -- Crash
        have CA := fun W (h : VW w t b g m c x W) => h.crash hmx (keep := kp) (by have := HQ.out.2.2.2; omega)
        have HK := HG.out.1.crash kp n.root
        have HT := Lib.hid (show (x.crashed kp).disk.dead = true ∧ Torn8 (x.crashed kp).disk n n.root x.num ∧ x.num ≤ 1 + (j + 1) ∧ (x.crashed kp).disk.made ≤ 5 + 6 * (j + 1) from ⟨HK.1, HK.2, by have := HG.out.2.1; omega, by have := HG.out.2.2; have := made_crash8 (x := x) kp; omega⟩)
        clear HK
        generalize x.crashed kp = y at *
        go_wp2_with fail
        refine (CA _ V3.out).mono ?_
        rintro e w4 ⟨rfl, h4, k4⟩
        have V4 := Lib.hid h4
        have N4 := Lib.hid (N3.out.keep k4)
        clear h4 k4 CA V3 N3 Q3 a0 a1 a2 a3 a4 p1 p2' p3
        have KD := fun W (h : VW w t b g m c y W) => h.ddead
        rw [HT.out.1] at KD
        have Hm1 := HT.out.2.2.1
        have Hm2 := HT.out.2.2.2
        obtain ⟨r, mm, hmm, hor⟩ := HT.out.2.1
        have hop : vopenE y.revived.disk = 0 ∧ vopenX y.revived.disk = ⟨y.revived.disk, r, mm, [], false⟩ ∧ Sound ⟨y.revived.disk, r, mm, [], false⟩ ∧ y.revived.disk.stay.length = 32 := by
          rcases hor with ⟨_, h⟩ | ⟨_, _, h⟩
          · exact ⟨h.opens.1, h.opens.2.1, h.opens.2.2, h.len⟩
          · exact ⟨h.opens.1, h.opens.2.1, h.opens.2.2, h.len⟩
        obtain ⟨o1, o2, o3, o4⟩ := hop
        have KO := fun W (h : VW w t b g m c y.revived W) => h.open_
        obtain ⟨z, hz⟩ : ∃ z : VS, (⟨y.revived.disk, r, mm, [], false⟩ : VS) = z := ⟨_, rfl⟩
        rw [o1, o2, hz] at KO
        rw [hz] at o3
        have HO := Lib.hid hor
        have HZ1 := Lib.hid (show Sound z ∧ z.disk = y.disk.revive ∧ z.text = r ∧ z.num = mm ∧ z.disk.stay.length = 32 ∧ z.disk.made ≤ 5 + 6 * (j + 1) ∧ mm ≤ 1 + (j + 1) from ⟨o3, by rw [← hz]; rfl, by rw [← hz], by rw [← hz], by rw [← hz]; exact o4, by rw [← hz]; exact Hm2, by omega⟩)
        clear o1 o2 o3 o4 hz hor hmm HT Hm1 Hm2
        go_wp2_with fail
        refine (KD _ V4.out).mono ?_
        rintro e w5 ⟨rfl, rfl⟩
        go_wp2_with fail
        refine (V4.out.revive).mono ?_
        rintro e w6 ⟨rfl, h6, k6⟩
        have V6 := Lib.hid h6
        have N6 := Lib.hid (N4.out.keep k6)
        clear h6 k6 V4 N4 KD
        go_wp2_with fail
        refine (KO _ V6.out).mono ?_
        rintro e w7 ⟨tp, rfl, hpp, _, hB7⟩
        obtain ⟨t2, c2', rfl, h7⟩ : ∃ t2 k, tp = some ⟨t2, 0, none⟩ ∧ VW w t2 b g m k z w7 := by
          rcases hpp with ⟨_, h⟩ | ⟨e, _⟩
          · exact h
          · exact absurd rfl e
        have V7 := Lib.hid h7
        have N7 := Lib.hid (N6.out.later hB7)
        clear h7 hB7 hpp V6 N6 KO
        have KR := fun W (h : VW w t2 b g m c2' z W) => h.root
        rw [HZ1.out.2.2.1, HZ1.out.2.2.2.1] at KR
        go_wp2_with fail
        refine (KR _ V7.out).mono ?_
        rintro e w8 ⟨rfl, h8, hB8⟩
        have V8 := Lib.hid h8
        have N8 := Lib.hid (N7.out.later hB8)
        clear h8 hB8 V7 N7 KR
        obtain ⟨a0, a1, a2, a3, a4, _⟩ := notesO.cells N8.out.obj
        clear a1 a2 a3 a4
        rcases HO.out with ⟨hr, hl⟩ | ⟨hne, hr2, hl⟩
        · have hT : (r.toList == (n.root).toList) = true := by rw [hr]; simp
          have CH := nholds_any V8.out N8.out HZ1.out.1 HZ1.out.2.2.2.2.1 (fun k k1 k2 e1 e2 => by rw [HZ1.out.2.1]; exact ⟨(hl.sure k1 k2 e1 e2).1, (hl.sure k1 k2 e1 e2).2.2⟩)
          have HLf := Lib.hid (And.intro hl hr)
          clear hl hr
          go_wp2_with fail
          refine CH.mono ?_
          rintro e w9 ⟨rfl, y2, h9, n9, s9, d9, t9, m9⟩
          have V9 := Lib.hid h9
          have N9 := Lib.hid n9
          have HG9 := Lib.hid (show Kept y2 ((n).hld 8) ∧ y2.num ≤ 1 + (j + 1) ∧ y2.disk.made ≤ 5 + 6 * (j + 1) from ⟨HLf.out.1.kept HLf.out.2 s9 (d9.trans HZ1.out.2.1) (t9.trans HZ1.out.2.2.1), by rw [m9, HZ1.out.2.2.2.1]; exact HZ1.out.2.2.2.2.2.2, by rw [d9]; exact HZ1.out.2.2.2.2.2.1⟩)
          clear h9 n9 s9 d9 t9 m9 CH
          go_wp2
          go_roundw
          case rel => exact ⟨j + 1, t2, c2', y2, (n).hld 8, by have := HJ.out; omega, by have := HJ.out; omega, rfl, by go_num, V9, N9, HG9⟩
          case measure => have := HJ.out; simp [intOf]; omega
        · exact absurd hr2 hne
      · -- nothing
        have HG2 := Lib.hid (And.intro HG.out.1 (And.intro (show x.num ≤ 1 + (j + 1) by have := HG.out.2.1; omega) (show x.disk.made ≤ 5 + 6 * (j + 1) by have := HG.out.2.2; omega)))
        have KD := fun W (h : VW w t b g m c x W) => h.ddead
        rw [HG2.out.1.sound.alive.dead] at KD
        clear a0 a1 a2 a3 a4 p1 p2' p3
        go_wp2_with fail
        refine (KD _ V3.out).mono ?_
        rintro e w5 ⟨rfl, rfl⟩
        go_wp2
        go_roundw
        case rel => exact ⟨j + 1, t, c, x, n, by have := HJ.out; omega, by have := HJ.out; omega, rfl, by go_num, V3, N3, HG2⟩
        case measure => have := HJ.out; simp [intOf]; omega
    · have hlt' : ((j : Int) < (rs.length : Int) ∧ ¬ (j : Int) < 200) ∨ ¬ (j : Int) < (rs.length : Int) := by omega
      clear hlt HG HN
      rcases hlt' with ⟨hji, hj2⟩ | hji
      all_goals (
        go_wp2_with fail
        refine (CF _).mono ?_
        rintro e w3 ⟨rfl, hB3⟩
        have HB3 := Lib.hid (HV.out.below.trans (hB3.mono HV.out.below.size))
        clear hB3
        go_wp2
        go_ret
        exact ⟨rfl, HB3.out⟩)
set_option maxRecDepth 100000 in
/-- WHAT THE WALK GIVES, for every argument that can be read. -/
theorem contract (H : Type) (enc : TypeId × Value → H) (W : World) (base : Nat) (args : Array Value) (ds gs : List (DataW H)) (before : List MemPlace)
    (hval : ∀ (j : Nat) t v, Tryz.f4.params[j]? = some t → args[j]? = some v → Value.okWide Tryz.prog W .any base t v)
    (hW : DataW.Whole enc Tryz.prog Tryz.f4.params.toList Rows.blockKeepsSpec.vars false W args.toList ds gs before)
    (hreach : (DataW.weightsEach Tryz.prog (Tryz.f4.params.toList) ds).all (· ≤ reachBytes) = true) :
    Calls Tryz.prog 4 args W fun e W' => ∃ v, e = .returned v ∧ Rows.blockKeepsSpec.post enc Tryz.prog Tryz.f4 false true false false W args v W' := by
  have hW' := hW
  obtain ⟨p, q, hA0, hV, rfl, hfz, hnd⟩ := hW
  have hA : DataW.TrodAll enc Tryz.prog W 0 (fun _ => true) true Tryz.f4.params.toList args.toList ds p := hA0
  rw [Tryz.params4] at hA hval hreach
  obtain ⟨v0, d0, rfl, rfl, h0⟩ := trodAll_one hA
  obtain ⟨rfl, rfl⟩ := trodVars_none hV
  have lt0 : ∀ x ∈ p, x.block < W.heap.size := fun x hx => hW'.lt x (by simp [hx])
  obtain ⟨l0, k0, r0⟩ := lops_open (hval 0 27 v0 rfl rfl) h0 lt0 hreach (j := 0) rfl rfl
  clear hA0 hval
  simp only [List.append_nil] at hW'
  refine (walk v0 l0 W k0 r0).mono fun e W' ⟨he, hB⟩ => ?_
  subst he
  exact ⟨_, rfl, post_of_below (pa := p) (pv := []) hW' (fun _ _ _ => trodAll_mk1 (shut_bool Tryz.underlying4 _)) (fun sp hsp => trodAll_mk1 (WideElems.Trod_stays laidOut (by kernel_rfl) (of_decide_eq_true (by kernel_rfl)) h0 (fun x hx => hB.same (lt0 x hx)) (fun x hx => hsp x (by simp [hx])))) (fun _ _ => rfl) (by simp) hB (ok_one (by kernel_rfl) rfl (okWide_bool_mk Tryz.underlying4 _))⟩

theorem reads (os : Os) {H : Type} (enc : TypeId × Value → H) : ∃ places, DataW.whole enc Tryz.prog ((laidWorld os).forCall (fun _ _ => 0) ⟨#[], #[.slice none 0 0], []⟩).memory Tryz.f4.params.toList Rows.blockKeepsSpec.vars false (#[.slice none 0 0] : Array Value).toList 8 = some ([.nil], [], places) :=
  ⟨[], by kernel_rfl⟩

set_option maxRecDepth 100000 in
theorem lifted (os : Os) (started : os.Started) (H : Type) (enc : TypeId × Value → H) (F : Stop.Interp) :
    ReturnsInHanded {} Tryz.checked os 4 .any ((OpenSpec.ofChange Rows.blockKeepsSpec).preRow enc Tryz.prog Tryz.f4 Rows.blockKeepsRow.domain false Rows.blockKeepsRow.laid) (((OpenSpec.ofChange Rows.blockKeepsSpec).at F).post enc Tryz.prog Tryz.f4 false true false false) := by
  obtain ⟨places, hx⟩ := reads os enc
  refine returnsInHanded_of_row (C := Tryz.checked) (s := OpenSpec.ofChange Rows.blockKeepsSpec) own started (by kernel_rfl) Tryz.func4
    (witness_row_at (enc := enc) (C := Tryz.checked) false (laidWorld os) #[.slice none 0 0] rfl (by kernel_rfl) (by kernel_rfl) (by kernel_rfl)
      (OpenSpec.preRow_of_cond 8 hx (by kernel_rfl) (fun k hk => by cases hk) (by kernel_rfl) (laid_met os _))) ?_
  intro W base args ds gs before hval hW _ hcond hreach hL _ _
  obtain ⟨p, q, hA0, hV, hpq, hfz, hnd⟩ := id hW
  obtain ⟨rfl, _⟩ := trodVars_none hV
  rw [List.append_nil] at hreach
  exact contract H enc W base args ds [] before hval hW hreach

theorem said : Rows.BlockKeepsSaid :=
  OpenClaim.holds_of_cond 4 Tryz.f4 rfl rfl rfl rfl rfl rfl rfl ⟨rfl, rfl, rfl, rfl, rfl⟩ rfl rfl rfl rfl rfl (by kernel_rfl) Tryz.func4 (by kernel_rfl)
    (of_decide_eq_true (by kernel_rfl)) (by unfold Func.isWrapper; first | (rw [if_pos (by decide +kernel)]; kernel_rfl) | (rw [if_neg (by decide +kernel)]; exact ⟨rfl, rfl⟩))
    (fun os started H enc _ F => by rw [OpenClaim.pre_eq_preRow]; exact lifted os started H enc F)



end Go.Proofs.YthnpdiopaeommaaGreat.bkeeps

