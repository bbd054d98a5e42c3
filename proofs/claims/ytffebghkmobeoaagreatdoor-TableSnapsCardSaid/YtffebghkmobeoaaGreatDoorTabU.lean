/-
  The reference: lists' bytes.
-/
import Derived.Test.YtffebghkmobeoaaGreatDoorTabS
import Derived.Test.YtffebghkmobeoaaGreatDoorTabH
import Derived.Test.YtffebghkmobeoaaGreatDoorTabL
import Derived.Laws.Cover1
namespace Go.Proofs.YtffebghkmobeoaaGreatDoor
open Go.RowKit Go

theorem rnums_new (zs : List Int) (hz : zs.length ≤ 1000) (hg : ∀ z ∈ zs, good z) (w : World) (t : TypeId) :
    Calls Tryz.prog 12 #[.slice (some ⟨w.heap.size, 0, none⟩) zs.length zs.length] (w.alloc (.cells (zs.map fun z => Value.int .i64 z).toArray t)) fun e w' => e = .returned (.string (bs (layL (zs.map Int.toNat)))) ∧ Below w.heap.size w w' := by
  refine (rnums_any _ zs hz hg _ (ints_new w zs t)).mono ?_
  rintro e w' ⟨rfl, hB⟩
  exact ⟨rfl, ((Below.refl _ w).alloc (Nat.le_refl _) _).trans (hB.mono (by simp))⟩
theorem textW_txt {s : ByteArray} (h : s.size ≤ 65536) : textW s.data.toList = .tuple #[.string (bs (txt s)), .int .i64 0] := by
  unfold textW; rw [len_of, if_pos h]; rfl
def lastSnp (l : List Snp) (j : Nat) : Int := if h : 0 < j ∧ j ≤ l.length then (l[j - 1]'(by omega)).id else 0
theorem lastSnp_zero (l : List Snp) : lastSnp l 0 = 0 := rfl
theorem lastSnp_succ {l : List Snp} {j : Nat} (hj : j < l.length) : lastSnp l (j + 1) = l[j].id := by unfold lastSnp; rw [dif_pos ⟨by omega, hj⟩]; rfl
theorem lastSnp_nonneg {l : List Snp} {j : Nat} (hm : MayTo kS l j) : 0 ≤ lastSnp l j := by
  unfold lastSnp
  split
  · rename_i h
    have h1 : 1 ≤ (l[j - 1]'(by omega)).id := (hm (j - 1) (by omega) (by omega)).1.2.1
    omega
  · exact Int.le_refl _
/-- what the reference asks of the next one ahead of all else -/
theorem lastSnp_lt {l : List Snp} {j : Nat} (hj : j < l.length) (h : lastSnp l j < l[j].id) : ∀ (_ : 0 < j), kS.lt (l[j - 1]'(by omega)) l[j] := by
  intro h0
  unfold lastSnp at h
  rw [dif_pos ⟨h0, by omega⟩] at h
  exact h
theorem lastSnp_no {l : List Snp} {j : Nat} (hj : j < l.length) (h : l[j].id ≤ lastSnp l j) : ¬ May kS l := by
  by_cases h0 : 0 < j
  · refine not_may_lt hj h0 ?_
    unfold lastSnp at h
    rw [dif_pos ⟨h0, by omega⟩] at h
    intro e
    have e' : (l[j - 1]'(by omega)).id < l[j].id := e
    omega
  · refine not_may_ok hj ?_
    obtain rfl : j = 0 := by omega
    rw [lastSnp_zero] at h
    intro e
    have e' : 1 ≤ l[0].id := e.2.1
    omega
set_option maxRecDepth 100000 in
set_option maxHeartbeats 8000000 in
theorem snpRLay_any (v : Value) (l : List Snp) (hn : l.length ≤ 9223372036854775807) (hs : ∀ x ∈ l, x.name.size ≤ 140737488355328) (w : World) (h : LstAt snpC 5 w v l) :
    Calls Tryz.prog 5 #[v] w fun e w' => e = .returned (layV kS l) ∧ Below w.heap.size w w' := by
  obtain ⟨R, hR⟩ : ∃ R, layV kS l = R := ⟨_, rfl⟩
  rw [hR]
  have HNO := Lib.hid (show ¬ May kS l → R = .tuple #[.string ⟨#[]⟩, .int .i64 120] from fun h => by rw [← hR]; exact layV_no h)
  have HYES := Lib.hid (show May kS l → R = .tuple #[.string (bs (laidL kS l)), .int .i64 0] from fun h => by rw [← hR]; exact layV_yes h)
  clear hR
  obtain ⟨a, cap, rfl, hc⟩ := h
  obtain ⟨N, hN⟩ : ∃ N, l.length = N := ⟨_, rfl⟩
  rw [hN] at hn ⊢
  have HC := Lib.hid hc
  have HN := Lib.hid hN
  have HS := Lib.hid hs
  clear hc hN hs
  by_cases h4 : 4096 < N
  · have h4i : (4096 : Int) < (N : Int) := by omega
    have HF := Lib.hid (HNO.out (not_may_long (by rw [HN.out]; exact h4)))
    clear h4
    go_enter Tryz.func5, Tryz.ntmps5
    go_wp2
    go_ret2
    exact ⟨by rw [HF.out]; rfl, Below.refl _ _⟩
  · have h4i : (N : Int) ≤ 4096 := by omega
    have hN4 : N ≤ 4096 := by omega
    clear h4
    have CN := rnums_new [(N : Int)] (by simp) (by intro z hz; obtain rfl := List.mem_singleton.1 hz; constructor <;> omega)
    simp only [List.map_cons, List.map_nil, List.length_cons, List.length_nil, Nat.reduceAdd, Int.toNat_natCast, layL_one] at CN
    have hd2 : (bs (dg N)).size ≤ 2 := by rw [bs_size]; exact dg_2 (by omega)
    go_enter Tryz.func5, Tryz.ntmps5
    go_wp2_with fail
    refine (CN _ _).mono ?_
    rintro e w2 ⟨rfl, hB2⟩
    have HB2 := Lib.hid hB2
    clear hB2 CN
    go_wp2_with fail
    go_loopw [4, 5, 6] (fun v u i wr => ∃ (j : Nat) (S : ByteArray), j ≤ N ∧ i = .int .i64 j ∧ v = .string S ∧ u = .int .i64 (lastSnp l j) ∧ S.size ≤ 2 + 29 * j ∧ S = bs (dg N ++ (l.take j).flatMap kS.enc) ∧ MayTo kS l j ∧ Below w.heap.size w wr) (fun _ _ i _ => N - (intOf i).toNat)
    case atStart => exact ⟨0, bs (dg N), Nat.zero_le _, rfl, rfl, rfl, hd2, by simp, MayTo.zero l, HB2.out⟩
    case round =>
      obtain ⟨j, S, hj, rfl, rfl, rfl, hsz, hS, hm, hB⟩ := hrel
      have HS4 := Lib.hid hS
      have HM := Lib.hid hm
      have HB := Lib.hid hB
      clear hS hm hB hd2
      by_cases hlt : j < N
      · have hl : j < l.length := by rw [HN.out]; exact hlt
        have hji : (j : Int) < (N : Int) := by omega
        obtain ⟨b, off, rfl, hb, hcells⟩ := HC.out (by intro e; rw [e] at hl; simp at hl)
        obtain ⟨y, hy⟩ : ∃ y, l[j] = y := ⟨_, rfl⟩
        have HCL := Lib.hid (fun (W : World) (hW : Below wr.heap.size wr W) => snp_load (W := W) (b := b) (off := off) (l := l) (fun j hj i hi => (World.cell?_of_block (w := w) ((HB.out.trans (hW.mono HB.out.size)).block b hb)).trans (hcells j hj i hi)))
        obtain ⟨c0, c1, c2, c3, c4⟩ := HCL.out wr (Below.refl _ wr) j hl
        rw [hy] at c0 c1 c2 c3 c4
        have HY := Lib.hid hy
        have HTK := Lib.hid (show l.take (j + 1) = l.take j ++ [y] by rw [← hy]; exact List.take_succ_eq_append_getElem hl)
        have hys : y.name.size ≤ 140737488355328 := by rw [← hy]; exact HS.out _ (List.getElem_mem hl)
        clear hcells hb hy
        obtain ⟨u0, hu0⟩ : ∃ u, wr.alloc (.cells #[.string ⟨#[]⟩, .int .i64 0, .int .i64 0, .int .i64 0, .int .i64 0] 35) = u := ⟨_, rfl⟩
        have hx0 : u0.heap[wr.heap.size]? = some (.cells #[.string ⟨#[]⟩, .int .i64 0, .int .i64 0, .int .i64 0, .int .i64 0] 35 (0, 0)) := by rw [← hu0]; exact heap_alloc_new wr _
        have z0 : u0.cell? ⟨wr.heap.size, 0, none⟩ = some (.string ⟨#[]⟩) := by simp [World.cell?, hx0]
        have z1 : u0.cell? ⟨wr.heap.size, 1, none⟩ = some (.int .i64 0) := by simp [World.cell?, hx0]
        have z2 : u0.cell? ⟨wr.heap.size, 2, none⟩ = some (.int .i64 0) := by simp [World.cell?, hx0]
        have z3 : u0.cell? ⟨wr.heap.size, 3, none⟩ = some (.int .i64 0) := by simp [World.cell?, hx0]
        have z4 : u0.cell? ⟨wr.heap.size, 4, none⟩ = some (.int .i64 0) := by simp [World.cell?, hx0]
        have f0 : u0.frozen? ⟨wr.heap.size, 0, none⟩ = false := by simp [World.frozen?, hx0]
        have f1 : u0.frozen? ⟨wr.heap.size, 1, none⟩ = false := by simp [World.frozen?, hx0]
        have f2 : u0.frozen? ⟨wr.heap.size, 2, none⟩ = false := by simp [World.frozen?, hx0]
        have f3 : u0.frozen? ⟨wr.heap.size, 3, none⟩ = false := by simp [World.frozen?, hx0]
        have f4 : u0.frozen? ⟨wr.heap.size, 4, none⟩ = false := by simp [World.frozen?, hx0]
        have hu : Below wr.heap.size wr u0 := by rw [← hu0]; exact (Below.refl _ wr).alloc (Nat.le_refl _) _
        obtain ⟨u1, hu1⟩ : ∃ u, (((((u0.setCell ⟨wr.heap.size, 0, none⟩ (.string y.name)).setCell ⟨wr.heap.size, 1, none⟩ (.int .i64 y.id)).setCell ⟨wr.heap.size, 2, none⟩ (.int .i64 y.plane)).setCell ⟨wr.heap.size, 3, none⟩ (.int .i64 y.root)).setCell ⟨wr.heap.size, 4, none⟩ (.int .i64 y.size)) = u := ⟨_, rfl⟩
        have HX := Lib.hid (show u1.heap[wr.heap.size]? = some (.cells #[.string y.name, .int .i64 y.id, .int .i64 y.plane, .int .i64 y.root, .int .i64 y.size] 35 (0, 0)) by rw [← hu1]; exact (heap_set (heap_set (heap_set (heap_set (heap_set hx0 (i := 0) (.string y.name)) (i := 1) (.int .i64 y.id)) (i := 2) (.int .i64 y.plane)) (i := 3) (.int .i64 y.root)) (i := 4) (.int .i64 y.size)))
        have HU := Lib.hid (show Below wr.heap.size wr u1 by rw [← hu1]; exact (((((hu.setCell (p := ⟨wr.heap.size, 0, none⟩) (Nat.le_refl _) (.string y.name)).setCell (p := ⟨wr.heap.size, 1, none⟩) (Nat.le_refl _) (.int .i64 y.id)).setCell (p := ⟨wr.heap.size, 2, none⟩) (Nat.le_refl _) (.int .i64 y.plane)).setCell (p := ⟨wr.heap.size, 3, none⟩) (Nat.le_refl _) (.int .i64 y.root)).setCell (p := ⟨wr.heap.size, 4, none⟩) (Nat.le_refl _) (.int .i64 y.size)))
        clear hx0 hu
        have hxx := HX.out
        have d0 : u1.cell? ⟨wr.heap.size, 0, none⟩ = some (.string y.name) := by simp [World.cell?, hxx]
        have d1 : u1.cell? ⟨wr.heap.size, 1, none⟩ = some (.int .i64 y.id) := by simp [World.cell?, hxx]
        have d2 : u1.cell? ⟨wr.heap.size, 2, none⟩ = some (.int .i64 y.plane) := by simp [World.cell?, hxx]
        have d3 : u1.cell? ⟨wr.heap.size, 3, none⟩ = some (.int .i64 y.root) := by simp [World.cell?, hxx]
        have d4 : u1.cell? ⟨wr.heap.size, 4, none⟩ = some (.int .i64 y.size) := by simp [World.cell?, hxx]
        clear hxx
        have HL0 := Lib.hid (lastSnp_nonneg HM.out)
        obtain ⟨L, hL⟩ : ∃ L, lastSnp l j = L := ⟨_, rfl⟩
        rw [hL] at HL0 ⊢
        have HLL := Lib.hid hL
        clear hL
        have CB := fun w => rblob_any y.root y.size w
        unfold blobV at CB
        obtain ⟨p, hp⟩ : ∃ p, blobB y.root y.size = p := ⟨_, rfl⟩
        rw [hp] at CB
        have HPB := Lib.hid hp
        clear hp
        have CNM := fun w => rname_any y.name hys w
        obtain ⟨q, hq⟩ : ∃ q, nameB y.name = q := ⟨_, rfl⟩
        rw [hq] at CNM
        have HQN := Lib.hid hq
        clear hq
        have HW := Lib.hid (show ∀ W, Below u1.heap.size u1 W → W.heap[wr.heap.size]? = u1.heap[wr.heap.size]? from fun W hW => hW.block _ (lt_of_heap HX.out))
        cases q with
        | false =>
          have HF := Lib.hid (HNO.out (not_may_ok hl (by rw [HY.out]; exact fun e => absurd ((nameB_iff _).2 e.1) (by rw [HQN.out]; decide))))
          go_wp2_with fail
          refine (CNM _).mono ?_
          rintro e w' ⟨rfl, rfl⟩
          go_wp2_with fail
          go_ret2
          exact ⟨by rw [HF.out]; rfl, HB.out.trans (HU.out.mono HB.out.size)⟩
        | true =>
          by_cases g : y.id ≤ L
          · skip
            have HF := Lib.hid (HNO.out (lastSnp_no hl (by rw [HY.out, HLL.out]; exact g)))
            go_wp2_with fail
            refine (CNM _).mono ?_
            rintro e w' ⟨rfl, rfl⟩
            go_wp2_with fail
            go_ret2
            exact ⟨by rw [HF.out]; rfl, HB.out.trans (HU.out.mono HB.out.size)⟩
          · have g0 : L < y.id := by omega
            clear g
            by_cases g : 1099511627776 < y.id
            · skip
              have HF := Lib.hid (HNO.out (not_may_ok hl (by rw [HY.out]; exact fun e => absurd e.2.2.1 (by omega))))
              go_wp2_with fail
              refine (CNM _).mono ?_
              rintro e w' ⟨rfl, rfl⟩
              go_wp2_with fail
              go_ret2
              exact ⟨by rw [HF.out]; rfl, HB.out.trans (HU.out.mono HB.out.size)⟩
            · have g1 : y.id ≤ 1099511627776 := by omega
              clear g
              by_cases g : y.plane < 1
              · skip
                have HF := Lib.hid (HNO.out (not_may_ok hl (by rw [HY.out]; exact fun e => absurd e.2.2.2.1 (by omega))))
                go_wp2_with fail
                refine (CNM _).mono ?_
                rintro e w' ⟨rfl, rfl⟩
                go_wp2_with fail
                go_ret2
                exact ⟨by rw [HF.out]; rfl, HB.out.trans (HU.out.mono HB.out.size)⟩
              · have g2 : 1 ≤ y.plane := by omega
                clear g
                by_cases g : 7 < y.plane
                · skip
                  have HF := Lib.hid (HNO.out (not_may_ok hl (by rw [HY.out]; exact fun e => absurd e.2.2.2.2.1 (by omega))))
                  go_wp2_with fail
                  refine (CNM _).mono ?_
                  rintro e w' ⟨rfl, rfl⟩
                  go_wp2_with fail
                  go_ret2
                  exact ⟨by rw [HF.out]; rfl, HB.out.trans (HU.out.mono HB.out.size)⟩
                · have g3 : y.plane ≤ 7 := by omega
                  clear g
                  cases p with
                  | false =>
                    have HF := Lib.hid (HNO.out (not_may_ok hl (by rw [HY.out]; exact fun e => absurd ((blob_iff _ _).2 e.2.2.2.2.2) (by rw [HPB.out]; decide))))
                    go_wp2_with fail
                    refine (CNM _).mono ?_
                    rintro e w' ⟨rfl, rfl⟩
                    go_wp2_with fail
                    refine (CB _).mono ?_
                    rintro e w4 ⟨rfl, hB4⟩
                    go_wp2_with fail
                    go_ret2
                    exact ⟨by rw [HF.out]; rfl, HB.out.trans ((HU.out.trans (hB4.mono HU.out.size)).mono HB.out.size)⟩
                  | true =>
                    have HOK := Lib.hid (show kS.ok y from ⟨(nameB_iff _).1 HQN.out, by have := HL0.out; omega, g1, g2, g3, (blob_iff _ _).1 HPB.out⟩)
                    have HLT := Lib.hid (show lastSnp l j < y.id by rw [HLL.out]; exact g0)
                    go_wp2_with fail
                    refine (CNM _).mono ?_
                    rintro e w' ⟨rfl, rfl⟩
                    clear CNM
                    go_wp2_with fail
                    refine (CB _).mono ?_
                    rintro e w3 ⟨rfl, hB3⟩
                    have HUX := Lib.hid ((HW.out w3 hB3).trans HX.out)
                    have hxx := HUX.out
                    have f0' : w3.cell? ⟨wr.heap.size, 0, none⟩ = some (.string y.name) := by simp [World.cell?, hxx]
                    have f1' : w3.cell? ⟨wr.heap.size, 1, none⟩ = some (.int .i64 y.id) := by simp [World.cell?, hxx]
                    have f2' : w3.cell? ⟨wr.heap.size, 2, none⟩ = some (.int .i64 y.plane) := by simp [World.cell?, hxx]
                    have f3' : w3.cell? ⟨wr.heap.size, 3, none⟩ = some (.int .i64 y.root) := by simp [World.cell?, hxx]
                    have f4' : w3.cell? ⟨wr.heap.size, 4, none⟩ = some (.int .i64 y.size) := by simp [World.cell?, hxx]
                    have HUU := Lib.hid (HU.out.trans (hB3.mono HU.out.size))
                    clear hxx hB3 CB
                    have hok : kS.ok l[j] := by rw [HY.out]; exact HOK.out
                    have HE := Lib.hid (HM.out.succ hl hok (lastSnp_lt hl (by rw [HY.out]; exact HLT.out)))
                    clear hok
                    have HRR := Lib.hid (HB.out.trans (HUU.out.mono HB.out.size))
                    have hg : ∀ z ∈ [y.id, y.plane, y.root, y.size], good z := by
                      intro z hz
                      simp only [List.mem_cons, List.not_mem_nil, or_false] at hz
                      obtain ⟨q0, q1, q2, q3, q4, q5⟩ := HOK.out
                      obtain ⟨b1, b2, b3, b4⟩ := blob_bounds q5
                      rcases hz with rfl | rfl | rfl | rfl <;> constructor <;> omega
                    have CQ := rnums_new [y.id, y.plane, y.root, y.size] (by simp) hg
                    have hn16 : y.name.size ≤ 16 := HOK.out.1.2.1
                    have CT := fun w => reftext_any y.name (by omega) w
                    rw [textW_txt (by omega)] at CT
                    have hEz : (txt y.name ++ layL ([y.id, y.plane, y.root, y.size].map Int.toNat)).length ≤ 29 := snpEnc_len HOK.out
                    have HEQ := Lib.hid (show bs (txt y.name) ++ bs (layL ([y.id, y.plane, y.root, y.size].map Int.toNat)) = bs (snpEnc y) by rw [← bs_append]; rfl)
                    simp only [List.length_cons, List.length_nil, Nat.reduceAdd] at CQ
                    have hz1 : (bs (txt y.name)).size + (bs (layL ([y.id, y.plane, y.root, y.size].map Int.toNat))).size ≤ 29 := by rw [bs_size, bs_size, ← List.length_append]; exact hEz
                    obtain ⟨D, hD⟩ : ∃ D, bs (txt y.name) = D := ⟨_, rfl⟩
                    obtain ⟨E, hE⟩ : ∃ E, bs (layL ([y.id, y.plane, y.root, y.size].map Int.toNat)) = E := ⟨_, rfl⟩
                    rw [hD] at CT HEQ hz1
                    rw [hE] at CQ HEQ hz1
                    simp only [List.map_cons, List.map_nil] at CQ
                    have nsum : ¬ 9223372036854775807 < D.size + E.size := by omega
                    have nsum2 : ¬ 9223372036854775807 < S.size + (D ++ E).size := by rw [ByteArray.size_append]; omega
                    have nsum3 : ¬ 9223372036854775807 < S.size + (D.size + E.size) := by omega
                    have HSZ := Lib.hid (show (S ++ (D ++ E)).size ≤ 2 + 29 * (j + 1) by rw [ByteArray.size_append, ByteArray.size_append]; omega)
                    have HCQ := Lib.hid CQ
                    clear hg CQ hD hE hEz hn16 hys hz1
                    go_wp2_with fail
                    refine (CT _).mono ?_
                    rintro e w4 ⟨rfl, hB4⟩
                    have HB4 := Lib.hid (HRR.out.trans (hB4.mono HRR.out.size))
                    have hxx := (hB4.block _ (lt_of_heap (HUX.out))).trans (HUX.out)
                    have e0 : w4.cell? ⟨wr.heap.size, 0, none⟩ = some (.string y.name) := by simp [World.cell?, hxx]
                    have e1 : w4.cell? ⟨wr.heap.size, 1, none⟩ = some (.int .i64 y.id) := by simp [World.cell?, hxx]
                    have e2 : w4.cell? ⟨wr.heap.size, 2, none⟩ = some (.int .i64 y.plane) := by simp [World.cell?, hxx]
                    have e3 : w4.cell? ⟨wr.heap.size, 3, none⟩ = some (.int .i64 y.root) := by simp [World.cell?, hxx]
                    have e4 : w4.cell? ⟨wr.heap.size, 4, none⟩ = some (.int .i64 y.size) := by simp [World.cell?, hxx]
                    clear hB4 CT hxx
                    go_wp2_with fail
                    refine (HCQ.out _ _).mono ?_
                    rintro e w5 ⟨rfl, hB5⟩
                    have HB5 := Lib.hid (HB4.out.trans (hB5.mono HB4.out.size))
                    clear hB5
                    go_wp2_with fail
                    go_roundw
                    case rel => exact ⟨j + 1, S ++ (D ++ E), by omega, by go_num, rfl, by rw [lastSnp_succ hl, HY.out], HSZ.out, by rw [HS4.out, HTK.out, List.flatMap_append, HEQ.out, ← bs_append]; simp [kS], HE.out, HB5.out⟩
                    case measure => simp [intOf]; omega
      · obtain rfl : j = N := by omega
        have hmay : May kS l := ⟨by rw [HN.out]; omega, by rw [HN.out]; exact HM.out⟩
        have HF := Lib.hid (show R = .tuple #[.string S, .int .i64 0] by
          rw [HYES.out hmay, HS4.out, laidL, HN.out, List.take_of_length_le (by rw [HN.out]; exact Nat.le_refl _)])
        clear hmay
        go_wp2_with fail
        go_ret2
        exact ⟨by rw [HF.out]; rfl, HB.out⟩
end Go.Proofs.YtffebghkmobeoaaGreatDoor

