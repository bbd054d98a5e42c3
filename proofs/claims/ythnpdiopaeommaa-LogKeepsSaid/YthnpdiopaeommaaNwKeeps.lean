/-
  What is opened has what there was behind the last call that was taken, or behind the one in which the power went, crash by crash: for every number of sectors and every list of calls, of which the first two hundred are made.
  Conditions: none besides the row's own.
-/
import Derived.Test.YthnpdiopaeommaaNvR
import Derived.OwnWalk
namespace Go.Proofs.Ythnpdiopaeommaa.keeps
open Go.ChangeShapes Go.WideShapes Go.ChangeAt Go.RowKit Go

theorem op_cells {w : World} {o : Nat} {K N : Int} {S kp : ByteArray} {bd : Bool} (h : w.heap[o]? = some (.cells #[.int .i64 K, .int .i64 N, .string S, .string kp, .bool bd] 31 (0, 0))) :
    w.cell? ⟨o, 1, none⟩ = some (.int .i64 N) ∧ w.cell? ⟨o, 2, none⟩ = some (.string S) ∧ w.cell? ⟨o, 3, none⟩ = some (.string kp) := by simp [World.cell?, h]
theorem cells_one {w : World} {p : Nat} {x : Value} {t : TypeId} (h : w.heap[p]? = some (.cells #[x] t (0, 0))) : ∀ j u, [x][j]? = some u → w.cell? ((⟨p, 0, none⟩ : Addr).add j) = some u := by
  intro j u hu
  match j with
  | 0 => rw [Addr.add_lit]; simp only [World.cell?, h]; simpa using hu
  | j + 1 => simp at hu
theorem held_alloc {w : World} {m g : Nat} {v : Value} {o : Obj} (h : w.cell? ⟨m, 2, none⟩ = some v ∧ w.heap[g]? = some o) (x : Obj) : (w.alloc x).cell? ⟨m, 2, none⟩ = some v ∧ (w.alloc x).heap[g]? = some o :=
  ⟨by rw [World.cell?_alloc_lt _ _ _ (World.block_lt_of_cell? w _ h.1)]; exact h.1, by rw [Below.heap_alloc w x g (Array.getElem?_eq_some_iff.1 h.2).1]; exact h.2⟩
theorem held_grown {w w' : World} {m g : Nat} {v : Value} {o : Obj} {row : Option Nat} (k : w.grownBy w' row) (h : w.cell? ⟨m, 2, none⟩ = some v ∧ w.heap[g]? = some o) (hm : some m ≠ row) (hg : some g ≠ row) : w'.cell? ⟨m, 2, none⟩ = some v ∧ w'.heap[g]? = some o :=
  ⟨(k.cell_far _ (World.block_lt_of_cell? w _ h.1) hm).trans h.1, (k.block g (Array.getElem?_eq_some_iff.1 h.2).1 hg).trans h.2⟩

set_option maxRecDepth 100000 in
set_option maxHeartbeats 8000000 in
theorem walk (z : Int) (va : Value) (rs : List (Int × Int × ByteArray × ByteArray × Bool)) (w : World) (hz : IntOk z) (hOa : LOpsAt w va rs) (hza : LOpsOk rs) :
    Calls Try.prog 3 #[.int .i64 z, va] w fun r w' => r = .returned (.bool true) ∧ Below w.heap.size w w' := by
  obtain ⟨aa, capa, rfl, ha⟩ := hOa
  have HA := Lib.hid ha
  have HZ := Lib.hid hza
  have hza1 := hza.1
  have CL := laid_log z 0 hz ⟨by decide, by decide⟩ w
  have CF := fun w => fixed7_any w
  obtain ⟨i0, hi0, hz0, hz1, hz2⟩ : ∃ i0, Try.prog.info? 9 = some i0 ∧ i0.zero = some (.string ⟨#[]⟩) ∧ i0.size = 1 ∧ i0.bytes = 16 := by
    have h := infoR
    cases h2 : Try.prog.info? 9 with
    | none => rw [h2] at h; cases h
    | some i => rw [h2] at h; simp at h; exact ⟨i, rfl, h.1, h.2.1, h.2.2⟩
  clear ha hza
  go_enter Try.func3, Try.ntmps3
  go_wp2_with fail
  refine CL.mono ?_
  rintro e w1 ⟨b, g, m, r, n, a, a2, rfl, hl, hn⟩
  by_cases hE : formE (fresh (blank n)) 0 = 0
  · obtain ⟨l, q, rfl, rfl, h1⟩ := hl.lw hE
    obtain ⟨-, hg0, -, hm0, -⟩ := good_new (form_five hE) (by have := hl.le; omega)
    have H1 := Lib.hid (h1.later (w' := w1.alloc (.cells #[] 9)) ((Below.refl _ w1).alloc (Nat.le_refl _) _))
    have hR0 : RowS w (w1.alloc (.cells #[] 9)) (.slice (some ⟨w1.heap.size, 0, none⟩) 0 0) [] := ⟨_, _, rfl, (World.ownsRow_made (base := w1.heap.size) (e := 9) (size := 1) w1 #[] 0 (Nat.le_refl _) (by decide) rfl).mono h1.below.size⟩
    have R0 := Lib.hid hR0
    have C0 := Lib.hid (And.intro hg0 (And.intro (show (⟨(0 : Int).toNat, [], false, formD (fresh (blank n)) 0⟩ : LS).disk.made ≤ 2 from hm0) (show (⟨(0 : Int).toNat, [], false, formD (fresh (blank n)) 0⟩ : LS).recs = [] ∧ (⟨(0 : Int).toNat, [], false, formD (fresh (blank n)) 0⟩ : LS).gen = 0 from ⟨rfl, rfl⟩)))
    clear hl hE h1 hg0 hm0 CL hn hR0
    generalize (⟨(0 : Int).toNat, [], false, formD (fresh (blank n)) 0⟩ : LS) = x0 at *
    go_wp2
    go_loopw [6, 10, 11, 12] (fun lv hv gv i wr => ∃ (j t G : Nat) (x : LS) (H : List ByteArray), j ≤ rs.length ∧ j ≤ 200 ∧ lv = .pointer (some ⟨t, 0, none⟩) ∧ gv = .int .i64 G ∧ i = .int .i64 j ∧ LW w t b g m x wr ∧ RowS w wr hv H ∧ Hid (Good x ∧ x.recs = H ∧ x.gen = G ∧ x.disk.made ≤ 2 + 30 * j)) (fun _ _ _ i _ => rs.length - (intOf i).toNat)
    case atStart => exact ⟨0, l, 0, x0, [], Nat.zero_le _, by omega, rfl, rfl, rfl, H1.out, R0.out, Lib.hid ⟨C0.out.1, C0.out.2.2.1, C0.out.2.2.2, by have := C0.out.2.1; omega⟩⟩
    case round =>
      obtain ⟨j, t, G, x, H, hj, hj1, rfl, rfl, rfl, hw, hr, HG⟩ := hrel
      clear H1 C0 R0
      have HLW := Lib.hid hw
      have HR := Lib.hid hr
      have hmx : x.disk.made < 900000000 := by have := HG.out.2.2.2; omega
      by_cases hlt : j < rs.length ∧ j < 200
      · obtain ⟨hlt1, hlt2⟩ := hlt
        obtain ⟨bb, off, rfl, hb, hc⟩ := HA.out (by rintro rfl; simp at hlt1)
        have hji : (j : Int) < (rs.length : Int) := by omega
        have hj2 : (j : Int) < 200 := by omega
        obtain ⟨c0, c1, c2, c3, c4⟩ := hc j hlt1
        have hq := HZ.out.2 rs[j] (List.getElem_mem hlt1)
        have d0 := (hw.below.cell (p := ⟨bb, off + j * 5, none⟩) hb).trans c0
        have d1 := (hw.below.cell (p := ⟨bb, off + j * 5 + 1, none⟩) hb).trans c1
        have d2 := (hw.below.cell (p := ⟨bb, off + j * 5 + 2, none⟩) hb).trans c2
        have d3 := (hw.below.cell (p := ⟨bb, off + j * 5 + 3, none⟩) hb).trans c3
        have d4 := (hw.below.cell (p := ⟨bb, off + j * 5 + 4, none⟩) hb).trans c4
        generalize rs[j] = O at *
        obtain ⟨K, N, S, kp, bd⟩ := O
        simp only at d0 d1 d2 d3 d4 hq
        have HQ := Lib.hid hq
        have HJ := Lib.hid (And.intro hlt1 hlt2)
        obtain ⟨w3, hw3⟩ : ∃ w3, wr.alloc (.cells #[.int .i64 K, .int .i64 N, .string S, .string kp, .bool bd] 31) = w3 := ⟨_, rfl⟩
        have hB3 : Below wr.heap.size wr w3 := by rw [← hw3]; exact (Below.refl _ wr).alloc (Nat.le_refl _) _
        obtain ⟨q, hq⟩ : ∃ q, wr.heap.size = q := ⟨_, rfl⟩
        have hq3 : w3.heap[q]? = some (.cells #[.int .i64 K, .int .i64 N, .string S, .string kp, .bool bd] 31 (0, 0)) := by rw [← hq, ← hw3]; exact heap_alloc_new wr _
        have q0 : w3.cell? ⟨q, 0, none⟩ = some (.int .i64 K) := by simp [World.cell?, hq3]
        have Q3 := Lib.hid hq3
        have H3 := Lib.hid (hw.later hB3)
        have R3 := Lib.hid (hr.later hB3)
        clear c0 c1 c2 c3 c4 hc hw hr hlt1 hlt2 hq3 hB3 HLW HR
        go_upto_block 2 with fail
        clear q0 hw3 d0 d1 d2 d3 d4 hq
        go_cut [10, 11, 14, 15, 16, 17] from 32 to 108 (fun hv' gv nv mv _ _ wx => ∃ (y : LS) (H' N' : List ByteArray) (G' M' : Nat), gv = .int .i64 G' ∧ mv = .int .i64 M' ∧ LW w t b g m y wx ∧ RowS w wx hv' H' ∧ RowS w wx nv N' ∧ Hid (After y H' G' N' M' ∧ y.disk.made ≤ 2 + 30 * j + 30 ∧ H'.length ≤ 700000))
        case first =>
          have hcase : K = 0 ∨ K = 1 ∨ K = 2 ∨ K = 3 ∨ ((K == 0) = false ∧ (K == 1) = false ∧ (K == 2) = false ∧ (K == 3) = false) := by
            simp only [beq_eq_false_iff_ne]; omega
          have hfew := HG.out.1.few
          rw [HG.out.2.1] at hfew
          rcases hcase with rfl | rfl | rfl | rfl | ⟨k0, k1, k2, k3⟩
          · as_aux_lemma =>
              have CA := fun W (h : LW w t b g m x W) => h.append hmx S (by have := HQ.out.2.2.1; omega)
              have hcs := after_app HG.out.1 S
              rw [HG.out.2.1, HG.out.2.2.1] at hcs
              have hmd := made_app x S
              have hmd2 : (x.app S).disk.made ≤ 2 + 30 * j + 30 := by have := HG.out.2.2.2; omega
              have HM := Lib.hid hmd2
              clear hmd hmd2
              generalize x.app S = y at *
              generalize x.appE S = E at *
              obtain ⟨a1, a2, a3⟩ := op_cells Q3.out
              go_wp2_with fail
              refine (CA _ H3.out).mono ?_
              rintro e w4 ⟨rfl, h4, k4⟩
              have H4 := Lib.hid h4
              have R4 := Lib.hid (R3.out.keep k4)
              have Q4 := Lib.hid (k4.keep Q3.out (by decide) (by decide) (by decide))
              have hqg : u10.ownBlock ≠ some q := by
                obtain ⟨g9, c9, cur9, e9, h9, _⟩ := R3.out.shape
                rw [e9]
                intro e
                have e2 : g9 = q := by simpa [Value.ownBlock] using e
                rw [e2, Q3.out] at h9
                exact absurd h9 (by simp)
              clear h4 k4 a1 a2 a3 CA H3 R3 Q3
              have hcs2 : ((E = 0 ∨ E = 2) ∧ Hid ((E = 0 → After y (H ++ [S]) G (H ++ [S]) G) ∧ (E = 2 → After y H G (H ++ [S]) G))) ∨ (((E == 0) = false ∧ (E == 2) = false) ∧ Hid (After y H G H G)) := by
                rcases hcs with ⟨e, h⟩ | ⟨e, h⟩ | ⟨e, h⟩
                · exact .inl ⟨.inl e, Lib.hid ⟨fun _ => h, fun e2 => by omega⟩⟩
                · exact .inl ⟨.inr e, Lib.hid ⟨fun e2 => by omega, fun _ => h⟩⟩
                · exact .inr ⟨e, Lib.hid h⟩
              clear hcs
              rcases hcs2 with ⟨hE2, HC⟩ | ⟨⟨e0, e2⟩, HC⟩
              · obtain ⟨hg, hc, cur, rfl, hb4, hbl, hN1⟩ := R4.out.shape
                have N1 := Lib.hid hN1
                have O0 := Lib.hid (show (w4.drew.alloc (.cells #[] 9)).ownsRow w4.heap.size 9 1 (.slice (some ⟨w4.heap.size, 0, none⟩) 0 0) 0 [] from World.ownsRow_made (base := w4.heap.size) (e := 9) (size := 1) w4.drew #[] 0 (Nat.le_refl _) (by decide) rfl)
                have O0b := Lib.hid (show (((w4.alloc (.cells #[] 9)).alloc (.cells #[.string S] 9)).drew).ownsRow w4.heap.size 9 1 (.slice (some ⟨w4.heap.size, 0, none⟩) 0 0) 0 [] from (World.ownsRow_made (base := w4.heap.size) (e := 9) (size := 1) w4 #[] 0 (Nat.le_refl _) (by decide) rfl).alloc _)
                have EB := Lib.hid (show (((w4.alloc (.cells #[] 9)).alloc (.cells #[.string S] 9)).drew).heap[w4.heap.size + 1]? = some (.cells #[.string S] 9 (0, 0)) by
                  have h := heap_alloc_new (w4.alloc (.cells #[] 9)) (.cells #[.string S] 9)
                  rw [show (w4.alloc (.cells #[] 9)).heap.size = w4.heap.size + 1 by simp] at h
                  exact h)
                have O0c := Lib.hid (show (((w4.alloc (.cells #[.string S] 9)).alloc (.cells #[] 9)).drew).ownsRow w4.heap.size 9 1 (.slice (some ⟨w4.heap.size + 1, 0, none⟩) 0 0) 0 [] by
                  have h := World.ownsRow_made (base := w4.heap.size) (e := 9) (size := 1) (w4.alloc (.cells #[.string S] 9)) #[] 0 (by simp) (by decide) rfl
                  rw [show (w4.alloc (.cells #[.string S] 9)).heap.size = w4.heap.size + 1 by simp] at h
                  exact h)
                have EC := Lib.hid (show (((w4.alloc (.cells #[.string S] 9)).alloc (.cells #[] 9)).drew).heap[w4.heap.size]? = some (.cells #[.string S] 9 (0, 0)) from
                  (Below.heap_alloc (w4.alloc (.cells #[.string S] 9)) _ w4.heap.size (by simp)).trans (heap_alloc_new w4 _))
                have HV := Lib.hid (strVals_one H)
                have hVl : (strVals H).length = H.length * 1 := by simp [strVals]
                have hql := (Array.getElem?_eq_some_iff.1 Q4.out).1
                obtain ⟨a1, a2, a3⟩ := op_cells (w := w4.drew) Q4.out
                have hb5 : w4.drew.heap[hg]? = some (.cells cur 9 (0, 0)) := hb4
                clear a1 a3 hN1 hb4
                rcases hE2 with rfl | rfl
                all_goals (
                  go_wp2_with fail
                  go_region_held3 (fun w' => w'.cell? ⟨q, 2, none⟩ = some (.string S) ∧ w'.heap[hg]? = some (.cells cur 9 (0, 0)))
                    (first
                      | exact ⟨a2, hb5⟩
                      | (go_split_ands; exact held_alloc ⟨by assumption, by assumption⟩ _)
                      | (go_split_ands; exact held_grown hgrow1 ⟨by assumption, by assumption⟩ (by simp [Value.ownBlock]; omega) (by simp [Value.ownBlock]; omega))
                      | (go_split_ands; exact held_grown hgrow2 ⟨by assumption, by assumption⟩ (fun e => by rcases hat1 with h | h <;> rw [← e] at h <;> simp [Value.ownBlock] at h <;> omega) (fun e => by rcases hat1 with h | h <;> rw [← e] at h <;> simp [Value.ownBlock] at h <;> omega))
                      | go_keep)
                    (first
                      | (refine step_append_own _ (by rfl) (.tmp 66) (.tmp 67) _ (by rfl) w4.heap.size 9 i0 _ 1 16 Try.underlying29 hi0 hz0 hz1 hz2 rfl (by decide) _ 0 [] (by rfl) O0.out ⟨hg, 0, none⟩ H.length hc (strVals H) (by rfl) hVl (N1.out _ (by go_split_ands; assumption)) HV.out (by unfold maxLen; omega) (by omega) (by simp) ?_; intro v1 w5 hown1 hgrow1 hat1 hnn1; have HN1 := Lib.hid hnn1; clear hnn1)
                      | (refine step_append_own _ (by rfl) (.tmp 66) (.tmp 67) _ (by rfl) w4.heap.size 9 i0 _ 1 16 Try.underlying29 hi0 hz0 hz1 hz2 rfl (by decide) _ 0 [] (by rfl) O0b.out ⟨hg, 0, none⟩ H.length hc (strVals H) (by rfl) hVl (N1.out _ (by go_split_ands; assumption)) HV.out (by unfold maxLen; omega) (by omega) (by simp; omega) ?_; intro v1 w5 hown1 hgrow1 hat1 hnn1; have HN1 := Lib.hid hnn1; have hE1 := (hgrow1.block (w4.heap.size + 1) (by simp) (by simp [Value.ownBlock])).trans EB.out; clear hnn1)
                      | (refine step_append_own _ (by rfl) (.tmp 66) (.tmp 67) _ (by rfl) w4.heap.size 9 i0 _ 1 16 Try.underlying29 hi0 hz0 hz1 hz2 rfl (by decide) _ 0 [] (by rfl) O0c.out ⟨hg, 0, none⟩ H.length hc (strVals H) (by rfl) hVl (N1.out _ (by go_split_ands; assumption)) HV.out (by unfold maxLen; omega) (by omega) (by simp; omega) ?_; intro v1 w5 hown1 hgrow1 hat1 hnn1; have HN1 := Lib.hid hnn1; have hE1 := (hgrow1.block w4.heap.size (by simp; omega) (by simp [Value.ownBlock])).trans EC.out; clear hnn1)
                      | (refine step_append_own _ (by rfl) (.tmp 68) (.tmp 71) _ (by rfl) w4.heap.size 9 i0 _ 1 16 Try.underlying29 hi0 hz0 hz1 hz2 rfl (by decide) _ (0 + H.length) ([] ++ strVals H) (by rfl) (hown1.alloc _) ⟨w5.heap.size, 0, none⟩ 1 1 [.string S] (by rfl) rfl (cell_one_new _ _ _) (by simp [Value.oneCell']) (by unfold maxLen; omega) (by omega) (Nat.le_trans (Nat.le_trans (by simp) hgrow1.size) (by simp)) ?_; intro v2 w6 hown2 hgrow2 hat2 hnn2; have HN2 := Lib.hid hnn2; clear hnn2)
                      | (refine step_append_own _ (by rfl) (.tmp 68) (.tmp 71) _ (by rfl) w4.heap.size 9 i0 _ 1 16 Try.underlying29 hi0 hz0 hz1 hz2 rfl (by decide) _ (0 + H.length) ([] ++ strVals H) (by rfl) hown1 ⟨w4.heap.size + 1, 0, none⟩ 1 1 [.string S] (by rfl) rfl (cells_one hE1) (by simp [Value.oneCell']) (by unfold maxLen; omega) (by omega) (Nat.le_trans (by simp; omega) hgrow1.size) ?_; intro v2 w6 hown2 hgrow2 hat2 hnn2; have HN2 := Lib.hid hnn2; clear hnn2)
                      | (refine step_append_own _ (by rfl) (.tmp 68) (.tmp 71) _ (by rfl) w4.heap.size 9 i0 _ 1 16 Try.underlying29 hi0 hz0 hz1 hz2 rfl (by decide) _ (0 + H.length) ([] ++ strVals H) (by rfl) hown1 ⟨w4.heap.size, 0, none⟩ 1 1 [.string S] (by rfl) rfl (cells_one hE1) (by simp [Value.oneCell']) (by unfold maxLen; omega) (by omega) (Nat.le_trans (by simp; omega) hgrow1.size) ?_; intro v2 w6 hown2 hgrow2 hat2 hnn2; have HN2 := Lib.hid hnn2; clear hnn2))
                  all_goals (
                    have hB6 : Below w4.heap.size w4 w6 := by
                      first
                        | exact (((((Below.refl _ w4).alloc (Nat.le_refl _) _).drew).grown hgrow1 (by simp) (fun j e => by simp [Value.ownBlock] at e; omega)).alloc (Nat.le_trans (by simp) hgrow1.size) _).grown hgrow2 (Nat.le_trans (Nat.le_trans (by simp) hgrow1.size) (by simp)) (fun j e => (hown1.lt j e).1)
                        | exact (((((Below.refl _ w4).alloc (Nat.le_refl _) _).alloc (by simp) _).drew).grown hgrow1 (by simp; omega) (fun j e => by simp [Value.ownBlock] at e; omega)).grown hgrow2 (Nat.le_trans (by simp; omega) hgrow1.size) (fun j e => (hown1.lt j e).1)
                    have HR6 := Lib.hid (rowS_of (L := H ++ [S]) hown2 H4.out.below.size (by simp [strVals]) (by simp) (fun e => by have := HN1.out (HN2.out e); simp at this))
                    have HB6 := Lib.hid hB6
                    clear hB6 hown2 hown1 hgrow1 hgrow2 hat1 hat2 a2 hb5 O0b EB O0c EC O0 N1
                    go_wp2_with fail
                    go_meet
                    first
                      | exact ⟨y, H ++ [S], H ++ [S], G, G, rfl, rfl, H4.out.later HB6.out, HR6.out, HR6.out, Lib.hid ⟨HC.out.1 (by trivial), HM.out, by rw [List.length_append, List.length_singleton]; omega⟩⟩
                      | exact ⟨y, H, H ++ [S], G, G, rfl, rfl, H4.out.later HB6.out, R4.out.later HB6.out, HR6.out, Lib.hid ⟨HC.out.2 (by trivial), HM.out, by omega⟩⟩))
              · go_wp2_with fail
                go_meet
                exact ⟨y, H, H, G, G, rfl, rfl, H4.out, R4.out, R4.out, Lib.hid ⟨HC.out, HM.out, by omega⟩⟩
          · as_aux_lemma =>
              have CA := fun W (h : LW w t b g m x W) => h.start hmx N HQ.out.2.1
              have hcs := after_start HG.out.1 N
              rw [HG.out.2.1, HG.out.2.2.1] at hcs
              have hmd := made_start x N
              have hmd2 : (x.start N).disk.made ≤ 2 + 30 * j + 30 := by have := HG.out.2.2.2; omega
              have HM := Lib.hid hmd2
              clear hmd hmd2
              generalize x.start N = y at *
              generalize x.startE N = E at *
              obtain ⟨a1, a2, a3⟩ := op_cells Q3.out
              go_wp2_with fail
              refine (CA _ H3.out).mono ?_
              rintro e w4 ⟨rfl, h4, k4⟩
              have H4 := Lib.hid h4
              have R4 := Lib.hid (R3.out.keep k4)
              have Q4 := Lib.hid (k4.keep Q3.out (by decide) (by decide) (by decide))
              clear h4 k4 a1 a2 a3 CA H3 R3 Q3
              have hB5 : Below w4.heap.size w4 (w4.alloc (.cells #[] 9)) := (Below.refl _ w4).alloc (Nat.le_refl _) _
              have HR5 := Lib.hid (show RowS w (w4.alloc (.cells #[] 9)) (.slice (some ⟨w4.heap.size, 0, none⟩) 0 0) [] from ⟨_, _, rfl, (World.ownsRow_made (base := w4.heap.size) (e := 9) (size := 1) w4 #[] 0 (Nat.le_refl _) (by decide) rfl).mono H4.out.below.size⟩)
              have H5 := Lib.hid (H4.out.later hB5)
              have R5 := Lib.hid (R4.out.later hB5)
              have hq5 : (w4.alloc (.cells #[] 9)).heap[q]? = _ := (Below.heap_alloc w4 _ q (Array.getElem?_eq_some_iff.1 Q4.out).1).trans Q4.out
              obtain ⟨a1, -, -⟩ := op_cells hq5
              clear hq5 hB5
              rcases hcs with ⟨rfl, k, rfl, hC⟩ | ⟨rfl, k, rfl, hC⟩ | ⟨⟨e0, e2⟩, hC⟩
              · have HC := Lib.hid hC
                clear hC
                go_wp2_with fail
                go_meet
                exact ⟨y, [], [], k, k, rfl, rfl, H5.out, HR5.out, HR5.out, Lib.hid ⟨HC.out, HM.out, by simp⟩⟩
              · have HC := Lib.hid hC
                clear hC
                go_wp2_with fail
                go_meet
                exact ⟨y, H, [], G, k, rfl, rfl, H5.out, R5.out, HR5.out, Lib.hid ⟨HC.out, HM.out, by omega⟩⟩
              · have HC := Lib.hid hC
                clear hC a1
                go_wp2_with fail
                go_meet
                exact ⟨y, H, H, G, G, rfl, rfl, H4.out, R4.out, R4.out, Lib.hid ⟨HC.out, HM.out, by omega⟩⟩
          · as_aux_lemma =>
              have CA := fun W (h : LW w t b g m x W) => h.arm N HQ.out.2.1 (keep := kp) (by have := HQ.out.2.2.2; omega)
              have hC := after_arm HG.out.1 (n := N) (by have := HQ.out.2.1.2; omega) (keep := kp) (by have := HQ.out.2.2.2; omega)
              rw [HG.out.2.1, HG.out.2.2.1] at hC
              have hmd : (x.armed N kp).disk.made ≤ 2 + 30 * j + 30 := by have := HG.out.2.2.2; have := made_armed (x := x) N kp; omega
              have HC := Lib.hid (And.intro hC hmd)
              clear hC hmd
              generalize x.armed N kp = y at *
              obtain ⟨a1, a2, a3⟩ := op_cells Q3.out
              go_wp2_with fail
              refine (CA _ H3.out).mono ?_
              rintro e w4 ⟨rfl, h4, k4⟩
              have H4 := Lib.hid h4
              have R4 := Lib.hid (R3.out.keep k4)
              clear h4 k4 a1 a2 a3 CA H3 R3 Q3
              go_wp2_with fail
              go_meet
              exact ⟨y, H, H, G, G, rfl, rfl, H4.out, R4.out, R4.out, Lib.hid ⟨HC.out.1, HC.out.2, by omega⟩⟩
          · as_aux_lemma =>
              have CA := fun W (h : LW w t b g m x W) => h.crash hmx (keep := kp) (by have := HQ.out.2.2.2; omega)
              have hC := after_crash HG.out.1 kp
              rw [HG.out.2.1, HG.out.2.2.1] at hC
              have hmd : (x.crashed kp).disk.made ≤ 2 + 30 * j + 30 := by have := HG.out.2.2.2; have := made_crashed (x := x) kp; omega
              have HC := Lib.hid (And.intro hC hmd)
              clear hC hmd
              generalize x.crashed kp = y at *
              obtain ⟨a1, a2, a3⟩ := op_cells Q3.out
              go_wp2_with fail
              refine (CA _ H3.out).mono ?_
              rintro e w4 ⟨rfl, h4, k4⟩
              have H4 := Lib.hid h4
              have R4 := Lib.hid (R3.out.keep k4)
              clear h4 k4 a1 a2 a3 CA H3 R3 Q3
              go_wp2_with fail
              go_meet
              exact ⟨y, H, H, G, G, rfl, rfl, H4.out, R4.out, R4.out, Lib.hid ⟨HC.out.1, HC.out.2, by omega⟩⟩
          · as_aux_lemma =>
              have hC : After x H G H G := .inl ⟨HG.out.1, HG.out.2.1, HG.out.2.2.1⟩
              have HC := Lib.hid (And.intro hC (show x.disk.made ≤ 2 + 30 * j + 30 by have := HG.out.2.2.2; omega))
              clear hC
              go_wp2_with fail
              go_meet
              exact ⟨x, H, H, G, G, rfl, rfl, H3.out, R3.out, R3.out, Lib.hid ⟨HC.out.1, HC.out.2, by omega⟩⟩
        case rest =>
          obtain ⟨y, H', N', G', M', rfl, rfl, hx, hh, hnx, HC⟩ := hcut
          have HX := Lib.hid hx
          have HH := Lib.hid hh
          have HN := Lib.hid hnx
          clear hx hh hnx H3 R3 Q3 HG
          have K3 := fun t y W (h : LW w t b g m y W) => h.gen
          have K2 := fun t y W (h : LW w t b g m y W) => h.records
          have KD := fun W (h : LW w t b g m y W) => h.ddead
          rcases HC.out.1 with ⟨hg1, hr1, hg2⟩ | ⟨hgone, hhold⟩
          · as_aux_lemma =>
              rw [hg1.quiet.dead] at KD
              have K2 := fun W (h : LW w t b g m y W) => K2 t y W h
              have K3 := fun W (h : LW w t b g m y W) => K3 t y W h
              rw [hr1] at K2
              rw [hg2] at K3
              have HG1 := Lib.hid (And.intro hg1 (And.intro hr1 hg2))
              clear hg1 hr1 hg2
              go_wp2_with fail
              refine (KD _ HX.out).mono ?_
              rintro e w' ⟨rfl, rfl⟩
              go_wp2_with fail
              refine (K2 _ HX.out).mono ?_
              rintro e w9 ⟨ja, jc, rfl, ho9, h9, hB9⟩
              have H9 := Lib.hid h9
              have HH9 := Lib.hid (HH.out.later hB9)
              have CS := rsame_any (texts_of_row ho9) HH9.out.texts (by have := HC.out.2.2; omega) (by have := HC.out.2.2; omega)
              rw [decide_eq_true rfl] at CS
              clear ho9 h9 hB9
              go_wp2_with fail
              refine CS.mono ?_
              rintro e w10 ⟨rfl, hB10⟩
              have H10 := Lib.hid (H9.out.later hB10)
              have HH10 := Lib.hid (HH9.out.later hB10)
              clear hB10 CS
              go_wp2_with fail
              refine (K3 _ H10.out).mono ?_
              rintro e w' ⟨rfl, rfl⟩
              go_wp2
              go_roundw
              case rel => exact ⟨j + 1, t, G', y, H', by have := HJ.out; omega, by have := HJ.out; omega, rfl, rfl, by go_num, H10.out, HH10.out, Lib.hid ⟨HG1.out.1, HG1.out.2.1, HG1.out.2.2, by have := HC.out.2.1; omega⟩⟩
              case measure => have := HJ.out; simp [intOf]; omega
          · as_aux_lemma =>
              rw [hgone.dead] at KD
              obtain ⟨gg, LL, hhold', hor⟩ : ∃ gg LL, Holds y.disk.stay gg LL ∧ ((gg = G' ∧ LL = H') ∨ (LL = H' ∧ gg ≠ G' ∧ gg = M' ∧ LL = N') ∨ (LL ≠ H' ∧ gg = M' ∧ LL = N')) := by
                rcases hhold with h | h
                · exact ⟨G', H', h, .inl ⟨rfl, rfl⟩⟩
                · refine ⟨M', N', h, ?_⟩
                  by_cases e1 : N' = H'
                  · by_cases e2 : M' = G'
                    · exact .inl ⟨e2, e1⟩
                    · exact .inr (.inl ⟨e1, e2, rfl, rfl⟩)
                  · exact .inr (.inr ⟨e1, rfl, rfl⟩)
              obtain ⟨o1, hgz, hrz, hgg, hmz⟩ := after_open hgone hhold'
              have KO := fun W (h : LW w t b g m y.revived W) => h.open_
              rw [o1] at KO
              have hmz2 : (openX y.revived.disk).disk.made ≤ 2 + 30 * (j + 1) := by have := HC.out.2.1; omega
              have hfz := hgz.few
              rw [hrz] at hfz
              have HG1 := Lib.hid (And.intro hgz (And.intro hrz (And.intro hgg hmz2)))
              generalize openX y.revived.disk = z0 at *
              have K2 := fun t W (h : LW w t b g m z0 W) => K2 t z0 W h
              have K3 := fun t W (h : LW w t b g m z0 W) => K3 t z0 W h
              rw [hrz] at K2
              rw [hgg] at K3
              have HL := Lib.hid hfz
              clear hgz hrz hgg hmz hmz2 hfz o1 hgone hhold hhold'
              go_wp2_with fail
              refine (KD _ HX.out).mono ?_
              rintro e w' ⟨rfl, rfl⟩
              go_wp2_with fail
              refine (HX.out.revive).mono ?_
              rintro e w5 ⟨rfl, h5, k5⟩
              have H5 := Lib.hid h5
              have HH5 := Lib.hid (HH.out.keep k5)
              have HN5 := Lib.hid (HN.out.keep k5)
              clear h5 k5 HH HN HX
              go_wp2_with fail
              refine (KO _ H5.out).mono ?_
              rintro e w6 ⟨tp, rfl, hpp, h6, hB6⟩
              have hp' : ∃ t2, tp = some ⟨t2, 0, none⟩ ∧ LW w t2 b g m z0 w6 := by
                rcases hpp with ⟨_, t2, e, h⟩ | ⟨e, _⟩
                · exact ⟨t2, e, h⟩
                · exact absurd rfl e
              obtain ⟨t2, rfl, ht6⟩ := hp'
              have H6 := Lib.hid ht6
              have HH6 := Lib.hid (HH5.out.later hB6)
              have HN6 := Lib.hid (HN5.out.later hB6)
              clear hpp h6 ht6 hB6 HH5 HN5 H5 KO
              go_wp2_with fail
              refine (K2 _ _ H6.out).mono ?_
              rintro e w9 ⟨ja, jc, rfl, ho9, h9, hB9⟩
              have H9 := Lib.hid h9
              have HH9 := Lib.hid (HH6.out.later hB9)
              have HN9 := Lib.hid (HN6.out.later hB9)
              have HO9 := Lib.hid ho9
              have CS := rsame_any (texts_of_row ho9) HH9.out.texts (by have := HL.out; omega) (by have := HC.out.2.2; omega)
              clear ho9 h9 hB9 HH6 HN6
              rcases hor with ⟨rfl, rfl⟩ | ⟨e1, e2, rfl, rfl⟩ | ⟨e1, rfl, rfl⟩
              · rw [decide_eq_true rfl] at CS
                go_wp2_with fail
                refine CS.mono ?_
                rintro e w10 ⟨rfl, hB10⟩
                have H10 := Lib.hid (H9.out.later hB10)
                have HH10 := Lib.hid (HH9.out.later hB10)
                clear hB10 CS
                go_wp2_with fail
                refine (K3 _ _ H10.out).mono ?_
                rintro e w' ⟨rfl, rfl⟩
                go_wp2
                go_roundw
                case rel => exact ⟨j + 1, t2, gg, z0, LL, by have := HJ.out; omega, by have := HJ.out; omega, rfl, rfl, by go_num, H10.out, HH10.out, Lib.hid HG1.out⟩
                case measure => have := HJ.out; simp [intOf]; omega
              · rw [decide_eq_true e1] at CS
                have hne1 : ((gg : Int) == (G' : Int)) = false := by simp; omega
                have hne2 : ((gg : Int) != (gg : Int)) = false := by simp
                clear e1 e2
                go_wp2_with fail
                refine CS.mono ?_
                rintro e w10 ⟨rfl, hB10⟩
                have H10 := Lib.hid (H9.out.later hB10)
                have HN10 := Lib.hid (HN9.out.later hB10)
                have CT := rsame_any (texts_of_row (owns_below HO9.out hB10)) HN10.out.texts (by have := HL.out; omega) (by have := HL.out; omega)
                rw [decide_eq_true rfl] at CT
                clear hB10 CS
                go_wp2_with fail
                refine (K3 _ _ H10.out).mono ?_
                rintro e w' ⟨rfl, rfl⟩
                go_wp2_with fail
                refine CT.mono ?_
                rintro e w11 ⟨rfl, hB11⟩
                have H11 := Lib.hid (H10.out.later hB11)
                have HN11 := Lib.hid (HN10.out.later hB11)
                clear hB11 CT
                go_wp2_with fail
                refine (K3 _ _ H11.out).mono ?_
                rintro e w' ⟨rfl, rfl⟩
                go_wp2
                go_roundw
                case rel => exact ⟨j + 1, t2, gg, z0, LL, by have := HJ.out; omega, by have := HJ.out; omega, rfl, rfl, by go_num, H11.out, HN11.out, Lib.hid HG1.out⟩
                case measure => have := HJ.out; simp [intOf]; omega
              · rw [decide_eq_false e1] at CS
                have hne2 : ((gg : Int) != (gg : Int)) = false := by simp
                clear e1
                go_wp2_with fail
                refine CS.mono ?_
                rintro e w10 ⟨rfl, hB10⟩
                have H10 := Lib.hid (H9.out.later hB10)
                have HN10 := Lib.hid (HN9.out.later hB10)
                have CT := rsame_any (texts_of_row (owns_below HO9.out hB10)) HN10.out.texts (by have := HL.out; omega) (by have := HL.out; omega)
                rw [decide_eq_true rfl] at CT
                clear hB10 CS
                go_wp2_with fail
                refine CT.mono ?_
                rintro e w11 ⟨rfl, hB11⟩
                have H11 := Lib.hid (H10.out.later hB11)
                have HN11 := Lib.hid (HN10.out.later hB11)
                clear hB11 CT
                go_wp2_with fail
                refine (K3 _ _ H11.out).mono ?_
                rintro e w' ⟨rfl, rfl⟩
                go_wp2
                go_roundw
                case rel => exact ⟨j + 1, t2, gg, z0, LL, by have := HJ.out; omega, by have := HJ.out; omega, rfl, rfl, by go_num, H11.out, HN11.out, Lib.hid HG1.out⟩
                case measure => have := HJ.out; simp [intOf]; omega
      · have hlt' : (j < rs.length ∧ ¬ j < 200) ∨ ¬ j < rs.length := by omega
        have hex : ((j : Int) < (rs.length : Int) ∧ ¬ (j : Int) < 200) ∨ ¬ (j : Int) < (rs.length : Int) := by omega
        clear hlt' hlt hw hr
        rcases hex with ⟨hji, hj2⟩ | hji
        all_goals (
          go_wp2_with fail
          refine (CF _).mono ?_
          rintro e w13 ⟨rfl, hB13⟩
          have HB13 := Lib.hid (HLW.out.below.trans (hB13.mono HLW.out.below.size))
          clear hB13
          go_wp2
          go_ret
          exact ⟨rfl, HB13.out⟩)
  · have hn1 : a = .pointer none := by
      rcases hl.log with ⟨e, _⟩ | ⟨_, e, _⟩
      · exact absurd e hE
      · exact e
    subst hn1
    have HB := Lib.hid (hl.below.alloc hl.below.size (.cells #[] 9))
    clear hl hE CL
    go_wp2
    go_loopw [6, 12] (fun lv i wr => lv = .pointer none ∧ i = .int .i64 0 ∧ wr = w1.alloc (.cells #[] 9)) (fun _ _ _ => 0)
    case atStart => exact ⟨rfl, rfl, rfl⟩
    case round =>
      obtain ⟨rfl, rfl, rfl⟩ := hrel
      go_wp2_with fail
      refine (CF _).mono ?_
      rintro e w2 ⟨rfl, hB2⟩
      have HB2 := Lib.hid (HB.out.trans (hB2.mono HB.out.size))
      clear hB2
      go_wp2
      go_ret
      exact ⟨rfl, HB2.out⟩
set_option maxRecDepth 100000 in
/-- WHAT THE WALK GIVES, for every argument that can be read. -/
theorem contract (H : Type) (enc : TypeId × Value → H) (W : World) (base : Nat) (args : Array Value) (ds gs : List (DataW H)) (before : List MemPlace)
    (hval : ∀ (j : Nat) t v, Try.f3.params[j]? = some t → args[j]? = some v → Value.okWide Try.prog W .any base t v)
    (hW : DataW.Whole enc Try.prog Try.f3.params.toList Rows.logKeepsSpec.vars false W args.toList ds gs before)
    (hreach : (DataW.weightsEach Try.prog (Try.f3.params.toList) ds).all (· ≤ reachBytes) = true) :
    Calls Try.prog 3 args W fun e W' => ∃ v, e = .returned v ∧ Rows.logKeepsSpec.post enc Try.prog Try.f3 false true false false W args v W' := by
  have hW' := hW
  obtain ⟨p, q, hA0, hV, rfl, hfz, hnd⟩ := hW
  have hA : DataW.TrodAll enc Try.prog W 0 (fun _ => true) true Try.f3.params.toList args.toList ds p := hA0
  rw [Try.params3] at hA hval hreach
  obtain ⟨v0, v1, d0, d1, p0, p1, rfl, rfl, rfl, h0, h1⟩ := trodAll_two hA
  obtain ⟨rfl, rfl⟩ := trodVars_none hV
  obtain ⟨n0, rfl, rfl, rfl, wn0⟩ := open_int Try.underlying3 (hval 0 3 v0 rfl rfl) h0
  have r0 := int_range wn0
  have lt1 : ∀ x ∈ p1, x.block < W.heap.size := fun x hx => hW'.lt x (by simp [hx])
  obtain ⟨l1, k1, r1⟩ := lops_open (hval 1 22 v1 rfl rfl) h1 lt1 hreach (j := 1) rfl rfl
  clear hA0 hval
  simp only [List.append_nil] at hW'
  refine (walk n0 v1 l1 W r0 k1 r1).mono fun e W' ⟨he, hB⟩ => ?_
  subst he
  exact ⟨_, rfl, post_of_below (pa := [] ++ (p1)) (pv := []) hW' (fun _ _ _ => trodAll_mk1 (shut_bool Try.underlying4 _)) (fun sp hsp => trodAll_mk2 (shut_int Try.underlying3 wn0) (WideElems.Trod_stays laidOut (by kernel_rfl) (of_decide_eq_true (by kernel_rfl)) h1 (fun x hx => hB.same (lt1 x hx)) (fun x hx => hsp x (by simp [hx])))) (fun _ _ => rfl) (by simp) hB (ok_one (by kernel_rfl) rfl (okWide_bool_mk Try.underlying4 _))⟩

theorem reads (os : Os) {H : Type} (enc : TypeId × Value → H) : ∃ places, DataW.whole enc Try.prog ((laidWorld os).forCall (fun _ _ => 0) ⟨#[], #[.int .i64 0, .slice none 0 0], []⟩).memory Try.f3.params.toList Rows.logKeepsSpec.vars false (#[.int .i64 0, .slice none 0 0] : Array Value).toList 8 = some ([.lit (.int .i64 0), .nil], [], places) :=
  ⟨[], by kernel_rfl⟩

set_option maxRecDepth 100000 in
theorem lifted (os : Os) (started : os.Started) (H : Type) (enc : TypeId × Value → H) (F : Stop.Interp) :
    ReturnsInHanded {} Try.checked os 3 .any ((OpenSpec.ofChange Rows.logKeepsSpec).preRow enc Try.prog Try.f3 Rows.logKeepsRow.domain false Rows.logKeepsRow.laid) (((OpenSpec.ofChange Rows.logKeepsSpec).at F).post enc Try.prog Try.f3 false true false false) := by
  obtain ⟨places, hx⟩ := reads os enc
  refine returnsInHanded_of_row (C := Try.checked) (s := OpenSpec.ofChange Rows.logKeepsSpec) own started (by kernel_rfl) Try.func3
    (witness_row_at (enc := enc) (C := Try.checked) false (laidWorld os) #[.int .i64 0, .slice none 0 0] rfl (by kernel_rfl) (by kernel_rfl) (by kernel_rfl)
      (OpenSpec.preRow_of_cond 8 hx (by kernel_rfl) (fun k hk => by cases hk) (by kernel_rfl) (laid_met os _))) ?_
  intro W base args ds gs before hval hW _ hcond hreach hL _ _
  obtain ⟨p, q, hA0, hV, hpq, hfz, hnd⟩ := id hW
  obtain ⟨rfl, _⟩ := trodVars_none hV
  rw [List.append_nil] at hreach
  exact contract H enc W base args ds [] before hval hW hreach

theorem said : Rows.LogKeepsSaid :=
  OpenClaim.holds_of_cond 3 Try.f3 rfl rfl rfl rfl rfl rfl rfl ⟨rfl, rfl, rfl, rfl, rfl⟩ rfl rfl rfl rfl rfl (by kernel_rfl) Try.func3 (by kernel_rfl)
    (of_decide_eq_true (by kernel_rfl)) (by unfold Func.isWrapper; first | (rw [if_pos (by decide +kernel)]; kernel_rfl) | (rw [if_neg (by decide +kernel)]; exact ⟨rfl, rfl⟩))
    (fun os started H enc _ F => by rw [OpenClaim.pre_eq_preRow]; exact lifted os started H enc F)



end Go.Proofs.Ythnpdiopaeommaa.keeps

