/-
  Whatever is read, written, synced, made bad, torn and cloned, in any order, each answer, and each sector, is as the document says: for every number of sectors (cut to 1 to 40), and every list of calls, of which the first two hundred are done.
  Conditions: none besides the row's own.
-/
import Derived.Test.YtickjomnmifmjaaDoorDskZe
import Derived.Deep.RegionHeld3
import Derived.Deep.QuietTactic
import Derived.Deep.CutBlock
import Derived.BigQuiet
namespace Go.Proofs.YtickjomnmifmjaaDoor.does
open Go.ChangeShapes Go.WideShapes Go.ChangeAt Go.RowKit Go Go.Maps SM

theorem call5 {w0 w : World} {b g m r q k : Nat} {s t : DS} {K j y mo : Int} {kp : ByteArray} {bd : Bool} (h : Half w0 b g m r q k (some (K, j, y, mo, kp, bd)) s t w) :
    w.cell? ⟨q, 1, none⟩ = some (.int .i64 j) ∧ w.cell? ⟨q, 2, none⟩ = some (.int .u8 y) ∧ w.cell? ⟨q, 3, none⟩ = some (.int .i64 mo) ∧ w.cell? ⟨q, 4, none⟩ = some (.string kp) ∧ w.cell? ⟨q, 5, none⟩ = some (.bool bd) := h.call

set_option maxRecDepth 100000 in
set_option maxHeartbeats 16000000 in
theorem walk (n0 : Int) (va : Value) (l : List (Int × Int × Int × Int × ByteArray × Bool)) (w : World) (_r0 : IntOk n0) (hO : OpsAt w va l) (hl : OpsOk l) :
    Calls Tryd.prog 4 #[.int .i64 n0, va] w fun r w' => r = .returned (.bool true) ∧ Below w.heap.size w w' := by
  obtain ⟨aa, capa, rfl, ha⟩ := hO
  have HA := Lib.hid ha
  have hl1 := hl.1
  have HL := Lib.hid hl.2
  obtain ⟨P, n, ⟨p1, p2, p3⟩, ⟨q1, q2, q3⟩, hn1, hn2⟩ := clampN n0
  have HN := Lib.hid (And.intro hn1 hn2)
  have N1 := fun w => new_yes n hn1 (by omega) w
  have N2 := fun w => rnew_yes n hn1 (by omega) w
  clear ha hl hn1 hn2
  go_enter Tryd.func4, Tryd.ntmps4
  go_wp2_with fail
  refine (N1 _).mono ?_
  rintro e w1 ⟨b0, g0, m0, rfl, h1, ho, hB1⟩
  have H1 := Lib.hid h1
  have HO := Lib.hid (show Over w.heap.size b0 g0 m0 from ho)
  have HB1 := Lib.hid hB1
  clear h1 ho hB1 N1 p1 p2 p3 q1 q2 q3
  go_wp2_with fail
  refine (N2 _).mono ?_
  rintro e w2 ⟨r, rfl, h2⟩
  have H2 := Lib.hid (half_new HN.out.1 (by have := HN.out.2; omega) HB1.out H1.out HO.out h2)
  clear h2 N2 HB1 H1 HO
  go_wp2_with fail
  go_loopw [6, 10] (fun d i wr => ∃ (k b g m : Nat) (s : DS), k ≤ l.length ∧ k ≤ 200 ∧ d = .pointer (some ⟨b, 0, none⟩) ∧ i = .int .i64 k ∧ Half w b g m r 0 (8 * k) none s s wr) (fun _ i _ => 200 - (intOf i).toNat)
  case atStart => exact ⟨0, _, _, _, _, Nat.zero_le _, Nat.zero_le _, rfl, rfl, H2.out⟩
  case round =>
    clear H2
    obtain ⟨k, b, g, m, s, hk1, hk2, rfl, rfl, hd⟩ := hrel
    have HD := Lib.hid hd
    clear hd
    by_cases hlt : k < l.length ∧ k < 200
    · obtain ⟨t1, t2⟩ := hlt
      obtain ⟨ba, off, rfl, hba, hcells⟩ := HA.out (by intro e; rw [e] at t1; simp at t1)
      obtain ⟨c0, c1, c2, c3, c4, c5⟩ := hcells k t1
      obtain ⟨-, z1, z2, -, z4⟩ := HL.out _ (List.getElem_mem t1)
      generalize l[k].1 = K at c0
      generalize l[k].2.1 = j at c1 z1
      generalize l[k].2.2.1 = y at c2 z2
      generalize l[k].2.2.2.1 = mo at c3
      generalize l[k].2.2.2.2.1 = kp at c4 z4
      generalize l[k].2.2.2.2.2 = bd at c5
      have HK := Lib.hid (And.intro t1 t2)
      have HZ := Lib.hid (show I64 j ∧ ByteOk y ∧ kp.size ≤ 140737488355328 from ⟨z1, z2, by omega⟩)
      have old : ∀ i, wr.cell? ⟨ba, i, none⟩ = w.cell? ⟨ba, i, none⟩ := fun i => HD.out.below.cell (p := ⟨ba, i, none⟩) hba
      rw [← old] at c0 c1 c2 c3 c4 c5
      obtain ⟨w3, hw3⟩ : ∃ w3, wr.alloc (.cells #[.int .i64 K, .int .i64 j, .int .u8 y, .int .i64 mo, .string kp, .bool bd] 37) = w3 := ⟨_, rfl⟩
      have hB3 : Below wr.heap.size wr w3 := by rw [← hw3]; exact (Below.refl _ wr).alloc (Nat.le_refl _) _
      obtain ⟨q, hq⟩ : ∃ q, wr.heap.size = q := ⟨_, rfl⟩
      have hq3 : w3.heap[q]? = some (opObj (K, j, y, mo, kp, bd)) := by rw [← hq, ← hw3]; exact heap_alloc_new wr _
      have h3 : Half w b g m r q (8 * k) (some (K, j, y, mo, kp, bd)) s s w3 := (HD.out.later hB3).holds hq3
      have q0 : w3.cell? ⟨q, 0, none⟩ = some (.int .i64 K) := by simp [World.cell?, hq3, opObj]
      have H3 := Lib.hid h3
      have e1 : (k : Int) < (l.length : Int) := by omega
      have e2 : (k : Int) < 200 := by omega
      clear old hcells hk1 hk2 t1 t2 hB3 hq3 h3 z1 z2 z4 HD
      go_upto_block 2 with fail
      clear q0 hw3 c0 c1 c2 c3 c4 c5
      go_cut [6, 12, 13, 14, 15, 16] from 60 to 159 (fun d a b' s' t' _ wx => ∃ (b1 g1 m1 : Nat) (S : DS) (E : Int) (X : ByteArray), d = .pointer (some ⟨b1, 0, none⟩) ∧ a = .int .i64 E ∧ b' = .int .i64 E ∧ s' = .string X ∧ t' = .string X ∧ Half w b1 g1 m1 r q (8 * k + 8) (some (K, j, y, mo, kp, bd)) S S wx)
      case first =>
        have hcase : K = 0 ∨ K = 1 ∨ K = 2 ∨ K = 3 ∨ K = 4 ∨ K = 5 ∨ K = 6 ∨ K = 7 ∨ ((K == 0) = false ∧ (K == 1) = false ∧ (K == 2) = false ∧ (K == 3) = false ∧ (K == 4) = false ∧ (K == 5) = false ∧ (K == 6) = false ∧ (K == 7) = false) := by
          simp only [beq_eq_false_iff_ne]; omega
        obtain ⟨a1, a2, a3, a4, a5⟩ := call5 H3.out
        rcases hcase with rfl | rfl | rfl | rfl | rfl | rfl | rfl | rfl | ⟨k0, k1, k2, k3, k4, k5, k6, k7⟩
        · as_aux_lemma =>
            go_wp2_with fail
            refine (H3.out.read j HZ.out.1).mono ?_
            rintro e w4 ⟨rfl, h4⟩
            have H4 := Lib.hid h4
            clear a1 a2 a3 a4 a5 h4
            obtain ⟨a1, a2, a3, a4, a5⟩ := call5 H4.out
            go_wp2_with fail
            refine (H4.out.rread (by have := HK.out; omega) j HZ.out.1).mono ?_
            rintro e w5 ⟨rfl, rfl⟩
            clear a1 a2 a3 a4 a5
            go_wp2_with fail
            go_meet
            exact ⟨_, _, _, _, _, _, rfl, rfl, rfl, rfl, rfl, H4.out.le (by omega)⟩
        · as_aux_lemma =>
            have HY := Lib.hid (H3.out.later ((Below.refl _ _).drew))
            clear a1 a2 a3 a4 a5
            obtain ⟨a1, a2, a3, -, -⟩ := call5 HY.out
            go_wp2_with fail
            go_region_held3 (fun w' => w'.cell? ⟨q, 1, none⟩ = some (.int .i64 j) ∧ w'.cell? ⟨q, 2, none⟩ = some (.int .u8 y) ∧ w'.cell? ⟨q, 3, none⟩ = some (.int .i64 mo))
              (first | exact ⟨a1, a2, a3⟩ | exact ⟨b1, b2, b3⟩ | exact ⟨d1, d2, d3⟩)
              (first
                | (go_at_call 21; refine (sector_int y HZ.out.2.1 mo _).mono ?_; rintro e w4 ⟨rfl, hB4⟩; have H4 := Lib.hid (HY.out.later hB4); obtain ⟨b1, b2, b3, -, -⟩ := call5 H4.out; clear hB4)
                | (go_at_call 20; refine (H4.out.write (by have := HK.out; omega) j HZ.out.1 _).mono ?_; rintro e w5 ⟨rfl, h5⟩; have H5 := Lib.hid h5; obtain ⟨d1, d2, d3, -, -⟩ := call5 H5.out; clear h5))
            all_goals (
              clear a1 a2 a3 b1 b2 b3 d1 d2 d3 H4 HY H3
              have HY := Lib.hid (H5.out.later ((Below.refl _ _).drew))
              obtain ⟨a1, a2, a3, -, -⟩ := call5 HY.out
              go_wp2_with fail
              go_region_held3 (fun w' => w'.cell? ⟨q, 1, none⟩ = some (.int .i64 j) ∧ w'.cell? ⟨q, 2, none⟩ = some (.int .u8 y) ∧ w'.cell? ⟨q, 3, none⟩ = some (.int .i64 mo))
                (first | exact ⟨a1, a2, a3⟩ | exact ⟨b1, b2, b3⟩ | exact ⟨d1, d2, d3⟩)
                (first
                  | (go_at_call 21; refine (sector_int y HZ.out.2.1 mo _).mono ?_; rintro e w6 ⟨rfl, hB6⟩; have H6 := Lib.hid (HY.out.later hB6); obtain ⟨b1, b2, b3, -, -⟩ := call5 H6.out; clear hB6)
                  | (go_at_call 22; refine (H6.out.rwrite (by have := HK.out; omega) j HZ.out.1 _).mono ?_; rintro e w7 ⟨rfl, h7⟩; have H7 := Lib.hid h7; obtain ⟨d1, d2, d3, -, -⟩ := call5 H7.out; clear h7))
              all_goals (
                clear a1 a2 a3 b1 b2 b3 d1 d2 d3
                go_wp2_with fail
                go_meet
                exact ⟨_, _, _, _, _, _, rfl, rfl, rfl, rfl, rfl, H7.out.le (by omega)⟩))
        · as_aux_lemma =>
            go_wp2_with fail
            refine (H3.out.sync (by have := HK.out; omega)).mono ?_
            rintro e w4 ⟨rfl, h4⟩
            have H4 := Lib.hid h4
            clear a1 a2 a3 a4 a5 h4
            obtain ⟨a1, a2, a3, a4, a5⟩ := call5 H4.out
            go_wp2_with fail
            refine (H4.out.rsync (by have := HK.out; omega)).mono ?_
            rintro e w5 ⟨rfl, h5⟩
            have H5 := Lib.hid h5
            clear h5
            clear a1 a2 a3 a4 a5
            go_wp2_with fail
            go_meet
            exact ⟨_, _, _, _, _, _, rfl, rfl, rfl, rfl, rfl, H5.out.le (by omega)⟩
        · as_aux_lemma =>
            go_wp2_with fail
            refine (H3.out.bad j HZ.out.1 bd).mono ?_
            rintro e w4 ⟨rfl, h4⟩
            have H4 := Lib.hid h4
            clear a1 a2 a3 a4 a5 h4
            obtain ⟨a1, a2, a3, a4, a5⟩ := call5 H4.out
            go_wp2_with fail
            refine (H4.out.rbad (by have := HK.out; omega) j HZ.out.1 bd).mono ?_
            rintro e w5 ⟨rfl, h5⟩
            have H5 := Lib.hid h5
            clear h5
            clear a1 a2 a3 a4 a5
            go_wp2_with fail
            go_meet
            exact ⟨_, _, _, _, _, _, rfl, rfl, rfl, rfl, rfl, H5.out.le (by omega)⟩
        · as_aux_lemma =>
            go_wp2_with fail
            refine (H3.out.arm j HZ.out.1 HZ.out.2.2).mono ?_
            rintro e w4 ⟨rfl, h4⟩
            have H4 := Lib.hid h4
            clear a1 a2 a3 a4 a5 h4
            obtain ⟨a1, a2, a3, a4, a5⟩ := call5 H4.out
            go_wp2_with fail
            refine (H4.out.rarm j HZ.out.1 HZ.out.2.2).mono ?_
            rintro e w5 ⟨rfl, h5⟩
            have H5 := Lib.hid h5
            clear h5
            clear a1 a2 a3 a4 a5
            go_wp2_with fail
            go_meet
            exact ⟨_, _, _, _, _, _, rfl, rfl, rfl, rfl, rfl, H5.out.le (by omega)⟩
        · as_aux_lemma =>
            go_wp2_with fail
            refine (H3.out.crash (by have := HK.out; omega) HZ.out.2.2).mono ?_
            rintro e w4 ⟨rfl, h4⟩
            have H4 := Lib.hid h4
            clear a1 a2 a3 a4 a5 h4
            obtain ⟨a1, a2, a3, a4, a5⟩ := call5 H4.out
            go_wp2_with fail
            refine (H4.out.rcrash (by have := HK.out; omega) HZ.out.2.2).mono ?_
            rintro e w5 ⟨rfl, h5⟩
            have H5 := Lib.hid h5
            clear h5
            clear a1 a2 a3 a4 a5
            go_wp2_with fail
            go_meet
            exact ⟨_, _, _, _, _, _, rfl, rfl, rfl, rfl, rfl, H5.out.le (by omega)⟩
        · as_aux_lemma =>
            go_wp2_with fail
            refine (H3.out.revive).mono ?_
            rintro e w4 ⟨rfl, h4⟩
            have H4 := Lib.hid h4
            clear a1 a2 a3 a4 a5 h4
            obtain ⟨a1, a2, a3, a4, a5⟩ := call5 H4.out
            go_wp2_with fail
            refine (H4.out.rrevive).mono ?_
            rintro e w5 ⟨rfl, h5⟩
            have H5 := Lib.hid h5
            clear h5
            clear a1 a2 a3 a4 a5
            go_wp2_with fail
            go_meet
            exact ⟨_, _, _, _, _, _, rfl, rfl, rfl, rfl, rfl, H5.out.le (by omega)⟩
        · as_aux_lemma =>
            have i0 : I64 0 := ⟨by decide, by decide⟩
            clear a1 a2 a3 a4 a5
            go_wp2_with fail
            refine (H3.out.clone).mono ?_
            rintro e w4 ⟨b2, g2, m2, rfl, h4⟩
            have H4 := Lib.hid h4
            clear h4
            go_wp2_with fail
            refine (sector_int 108 ⟨by decide, by decide⟩ 0 _).mono ?_
            rintro e w5 ⟨rfl, hB5⟩
            have H5 := Lib.hid (H4.out.later hB5)
            clear hB5
            go_wp2_with fail
            refine (H5.out.write (by have := HK.out; omega) 0 i0 _).mono ?_
            rintro e w6 ⟨rfl, h6⟩
            have H6 := Lib.hid h6
            clear h6
            go_wp2_with fail
            refine (H6.out.bad 0 i0 true).mono ?_
            rintro e w7 ⟨rfl, h7⟩
            have H7 := Lib.hid h7
            clear h7
            go_wp2_with fail
            refine (H7.out.sync (by have := HK.out; omega)).mono ?_
            rintro e w8 ⟨rfl, h8⟩
            have H8 := Lib.hid h8
            clear h8
            go_wp2_with fail
            refine (H8.out.crash (by have := HK.out; omega) (kp := ⟨#[]⟩) (by decide)).mono ?_
            rintro e w9 ⟨rfl, h9⟩
            have H9 := Lib.hid h9
            clear h9
            go_wp2_with fail
            go_meet
            exact ⟨_, _, _, _, _, _, rfl, rfl, rfl, rfl, rfl, H9.out.half.le (by omega)⟩
        · as_aux_lemma =>
            clear a1 a2 a3 a4 a5
            go_wp2_with fail
            go_meet
            exact ⟨_, _, _, _, _, _, rfl, rfl, rfl, rfl, rfl, H3.out.le (by omega)⟩
      case rest =>
        obtain ⟨b1, g1, m1, S, E, X, rfl, rfl, rfl, rfl, rfl, hx⟩ := hcut
        have HY := Lib.hid (hx.later ((Below.refl _ _).drew))
        obtain ⟨a1, k1, c1, c3, c6⟩ := HY.out.cells
        have C1 := image_any HY.out.dk
        have C2 := HY.out.rimage
        have C3 := loose_any HY.out.dk
        have C4 := steps_any HY.out.dk
        have C5 := dead_any HY.out.dk
        clear hx H3
        generalize img S.stay = Z at C1 C2
        generalize S.loose.length = NL at c1 C3
        generalize S.made = M at c3 C4
        generalize S.dead = D at c6 C5
        go_wp2_with fail
        go_region_held3 (fun w' => w'.cell? ⟨r, 1, none⟩ = some (.slice a1 NL k1) ∧ w'.cell? ⟨r, 3, none⟩ = some (.int .i64 M) ∧ w'.cell? ⟨r, 6, none⟩ = some (.bool D))
          (exact ⟨c1, c3, c6⟩)
          (first
            | (go_at_call 34; refine C1.mono ?_; rintro e w' ⟨rfl, rfl⟩)
            | (go_at_call 35; refine C2.mono ?_; rintro e w' ⟨rfl, rfl⟩)
            | (go_at_call 15; refine C3.mono ?_; rintro e w' ⟨rfl, rfl⟩)
            | (go_at_call 17; refine C4.mono ?_; rintro e w' ⟨rfl, rfl⟩)
            | (go_at_call 16; refine C5.mono ?_; rintro e w' ⟨rfl, rfl⟩))
        all_goals (
          go_wp2_with fail
          go_roundw
          case rel => exact ⟨k + 1, _, _, _, _, by have := HK.out; omega, by have := HK.out; omega, rfl, by go_num, (HY.out.le (by omega)).drop 0⟩
          case measure => have := HK.out; simp [intOf]; omega)
    · have hcase : ¬ ((k : Int) < (l.length : Int)) ∨ ((k : Int) < (l.length : Int) ∧ ¬ (k : Int) < 200) := by omega
      clear hlt hk1 hk2
      rcases hcase with hge | ⟨hlt1, hge⟩
      all_goals (
        go_wp2_with fail
        refine (fixed_any _).mono ?_
        rintro e w5 ⟨rfl, hB5⟩
        have HB5 := Lib.hid (HD.out.below.trans (hB5.mono HD.out.below.size))
        clear hB5
        go_wp2
        go_ret
        exact ⟨rfl, HB5.out⟩)
set_option maxRecDepth 100000 in
/-- WHAT THE WALK GIVES, for every argument that can be read. -/
theorem contract (H : Type) (enc : TypeId × Value → H) (W : World) (base : Nat) (args : Array Value) (ds gs : List (DataW H)) (before : List MemPlace)
    (hval : ∀ (j : Nat) t v, Tryd.f4.params[j]? = some t → args[j]? = some v → Value.okWide Tryd.prog W .any base t v)
    (hW : DataW.Whole enc Tryd.prog Tryd.f4.params.toList Rows.diskDoesSpec.vars false W args.toList ds gs before)
    (hreach : (DataW.weightsEach Tryd.prog (Tryd.f4.params.toList) ds).all (· ≤ reachBytes) = true) :
    Calls Tryd.prog 4 args W fun e W' => ∃ v, e = .returned v ∧ Rows.diskDoesSpec.post enc Tryd.prog Tryd.f4 false true false false W args v W' := by
  have hW' := hW
  obtain ⟨p, q, hA0, hV, rfl, hfz, hnd⟩ := hW
  have hA : DataW.TrodAll enc Tryd.prog W 0 (fun _ => true) true Tryd.f4.params.toList args.toList ds p := hA0
  rw [Tryd.params4] at hA hval hreach
  obtain ⟨v0, v1, d0, d1, p0, p1, rfl, rfl, rfl, h0, h1⟩ := trodAll_two hA
  obtain ⟨rfl, rfl⟩ := trodVars_none hV
  obtain ⟨n0, rfl, rfl, rfl, wn0⟩ := open_int Tryd.underlying3 (hval 0 3 v0 rfl rfl) h0
  have r0 := int_range wn0
  have lt1 : ∀ x ∈ p1, x.block < W.heap.size := fun x hx => hW'.lt x (by simp [hx])
  obtain ⟨l1, k1, r1⟩ := ops_open (hval 1 35 v1 rfl rfl) h1 lt1 hreach (j := 1) rfl rfl
  clear hA0 hval
  simp only [List.append_nil] at hW'
  refine (walk n0 v1 l1 W r0 k1 r1).mono fun e W' ⟨he, hB⟩ => ?_
  subst he
  exact ⟨_, rfl, post_of_below (pa := [] ++ (p1)) (pv := []) hW' (fun _ _ _ => trodAll_mk1 (shut_bool Tryd.underlying4 _)) (fun sp hsp => trodAll_mk2 (shut_int Tryd.underlying3 wn0) (WideElems.Trod_stays laidOut (by kernel_rfl) (of_decide_eq_true (by kernel_rfl)) h1 (fun x hx => hB.same (lt1 x hx)) (fun x hx => hsp x (by simp [hx])))) (fun _ _ => rfl) (by simp) hB (ok_one (by kernel_rfl) rfl (okWide_bool_mk Tryd.underlying4 _))⟩

theorem reads (os : Os) {H : Type} (enc : TypeId × Value → H) : ∃ places, DataW.whole enc Tryd.prog ((laidWorld os).forCall (fun _ _ => 0) ⟨#[], #[.int .i64 0, .slice none 0 0], []⟩).memory Tryd.f4.params.toList Rows.diskDoesSpec.vars false (#[.int .i64 0, .slice none 0 0] : Array Value).toList 8 = some ([.lit (.int .i64 0), .nil], [], places) :=
  ⟨[], by kernel_rfl⟩

set_option maxRecDepth 100000 in
theorem lifted (os : Os) (started : os.Started) (H : Type) (enc : TypeId × Value → H) (F : Stop.Interp) :
    ReturnsInHanded {} Tryd.checked os 4 .any ((OpenSpec.ofChange Rows.diskDoesSpec).preRow enc Tryd.prog Tryd.f4 Rows.diskDoesRow.domain false Rows.diskDoesRow.laid) (((OpenSpec.ofChange Rows.diskDoesSpec).at F).post enc Tryd.prog Tryd.f4 false true false false) := by
  obtain ⟨places, hx⟩ := reads os enc
  refine returnsInHanded_of_row (C := Tryd.checked) (s := OpenSpec.ofChange Rows.diskDoesSpec) own started (by kernel_rfl) Tryd.func4
    (witness_row_at (enc := enc) (C := Tryd.checked) false (laidWorld os) #[.int .i64 0, .slice none 0 0] rfl (by kernel_rfl) (by kernel_rfl) (by kernel_rfl)
      (OpenSpec.preRow_of_cond 8 hx (by kernel_rfl) (fun k hk => by cases hk) (by kernel_rfl) (laid_met os _))) ?_
  intro W base args ds gs before hval hW _ hcond hreach hL _ _
  obtain ⟨p, q, hA0, hV, hpq, hfz, hnd⟩ := id hW
  obtain ⟨rfl, _⟩ := trodVars_none hV
  rw [List.append_nil] at hreach
  exact contract H enc W base args ds [] before hval hW hreach

theorem said : Rows.DiskDoesSaid :=
  OpenClaim.holds_of_cond 4 Tryd.f4 rfl rfl rfl rfl rfl rfl rfl ⟨rfl, rfl, rfl, rfl, rfl⟩ rfl rfl rfl rfl rfl (by kernel_rfl) Tryd.func4 (by kernel_rfl)
    (of_decide_eq_true (by kernel_rfl)) (by unfold Func.isWrapper; first | (rw [if_pos (by decide +kernel)]; kernel_rfl) | (rw [if_neg (by decide +kernel)]; exact ⟨rfl, rfl⟩))
    (fun os started H enc _ F => by rw [OpenClaim.pre_eq_preRow]; exact lifted os started H enc F)

theorem plain (f : FuncId) (fn : Func) (hf : Tryd.pinned.checked.prog.funcNamed "stillage/stillagelaw06.DiskDoes" = some f) (hfn : Tryd.pinned.checked.prog.funcs[f]? = some fn) :
    true = Tryd.pinned.checked.prog.looks [] ∧ ∀ (j : Nat) t, fn.params[j]? = some t → Tryd.pinned.checked.prog.wantsStandIn t = false := by
  obtain rfl : f = 4 := Option.some.inj ((show Tryd.prog.funcNamed "stillage/stillagelaw06.DiskDoes" = some 4 by kernel_rfl).symm.trans hf) |>.symm
  obtain rfl : fn = Tryd.f4 := (Option.some.inj (Tryd.func4.symm.trans hfn)).symm
  refine ⟨by kernel_rfl, fun j t ht => ?_⟩
  rw [Tryd.params4] at ht
  have hm : t ∈ [3, 35] := by simpa using Array.mem_of_getElem? ht
  have hall : ([3, 35].all fun u => !Tryd.prog.wantsStandIn u) = true := by kernel_rfl
  exact (show Tryd.prog.wantsStandIn t = false by simpa using List.all_eq_true.1 hall t hm)

/-- THE CARD -/
theorem card : Rows.DiskDoesCardSaid :=
  Claim7.holds_tied_plain_at .later [] _ _ _ _ said (fun _ h => by cases h) (by kernel_rfl) (fun _ h => by cases h) diskDoes_row_tie rfl ⟨rfl, rfl⟩ (by kernel_rfl) rfl plain (by kernel_rfl)


end Go.Proofs.YtickjomnmifmjaaDoor.does
