/-
  The reference: lists' bytes.
-/
import Derived.Test.YtffebghkmobeoaaDoorTabS
import Derived.Test.YtffebghkmobeoaaDoorTabH
import Derived.Test.YtffebghkmobeoaaDoorTabL
import Derived.Laws.Cover1
namespace Go.Proofs.YtffebghkmobeoaaDoor
open Go.RowKit Go

theorem rnums_new (zs : List Int) (hz : zs.length ≤ 1000) (hg : ∀ z ∈ zs, good z) (w : World) (t : TypeId) :
    Calls Tryd.prog 29 #[.slice (some ⟨w.heap.size, 0, none⟩) zs.length zs.length] (w.alloc (.cells (zs.map fun z => Value.int .i64 z).toArray t)) fun e w' => e = .returned (.string (bs (layL (zs.map Int.toNat)))) ∧ Below w.heap.size w w' := by
  refine (rnums_any _ zs hz hg _ (ints_new w zs t)).mono ?_
  rintro e w' ⟨rfl, hB⟩
  exact ⟨rfl, ((Below.refl _ w).alloc (Nat.le_refl _) _).trans (hB.mono (by simp))⟩
theorem textW_txt {s : ByteArray} (h : s.size ≤ 65536) : textW s.data.toList = .tuple #[.string (bs (txt s)), .int .i64 0] := by
  unfold textW; rw [len_of, if_pos h]; rfl
def lastIno (l : List Ino) (j : Nat) : Int := if h : 0 < j ∧ j ≤ l.length then (l[j - 1]'(by omega)).num else 0
theorem lastIno_zero (l : List Ino) : lastIno l 0 = 0 := rfl
theorem lastIno_succ {l : List Ino} {j : Nat} (hj : j < l.length) : lastIno l (j + 1) = l[j].num := by unfold lastIno; rw [dif_pos ⟨by omega, hj⟩]; rfl
theorem lastIno_nonneg {l : List Ino} {j : Nat} (hm : MayTo kI l j) : 0 ≤ lastIno l j := by
  unfold lastIno
  split
  · rename_i h
    have h1 : 1 ≤ (l[j - 1]'(by omega)).num := (hm (j - 1) (by omega) (by omega)).1.1
    omega
  · exact Int.le_refl _
/-- what the reference asks of the next one ahead of all else -/
theorem lastIno_lt {l : List Ino} {j : Nat} (hj : j < l.length) (h : lastIno l j < l[j].num) : ∀ (_ : 0 < j), kI.lt (l[j - 1]'(by omega)) l[j] := by
  intro h0
  unfold lastIno at h
  rw [dif_pos ⟨h0, by omega⟩] at h
  exact h
theorem lastIno_no {l : List Ino} {j : Nat} (hj : j < l.length) (h : l[j].num ≤ lastIno l j) : ¬ May kI l := by
  by_cases h0 : 0 < j
  · refine not_may_lt hj h0 ?_
    unfold lastIno at h
    rw [dif_pos ⟨h0, by omega⟩] at h
    intro e
    have e' : (l[j - 1]'(by omega)).num < l[j].num := e
    omega
  · refine not_may_ok hj ?_
    obtain rfl : j = 0 := by omega
    rw [lastIno_zero] at h
    intro e
    have e' : 1 ≤ l[0].num := e.1
    omega
set_option maxRecDepth 100000 in
set_option maxHeartbeats 8000000 in
theorem inoRLay_any (v : Value) (l : List Ino) (hn : l.length ≤ 9223372036854775807) (w : World) (h : LstAt inoC 5 w v l) :
    Calls Tryd.prog 14 #[v] w fun e w' => e = .returned (layV kI l) ∧ Below w.heap.size w w' := by
  obtain ⟨R, hR⟩ : ∃ R, layV kI l = R := ⟨_, rfl⟩
  rw [hR]
  have HNO := Lib.hid (show ¬ May kI l → R = .tuple #[.string ⟨#[]⟩, .int .i64 120] from fun h => by rw [← hR]; exact layV_no h)
  have HYES := Lib.hid (show May kI l → R = .tuple #[.string (bs (laidL kI l)), .int .i64 0] from fun h => by rw [← hR]; exact layV_yes h)
  clear hR
  obtain ⟨a, cap, rfl, hc⟩ := h
  obtain ⟨N, hN⟩ : ∃ N, l.length = N := ⟨_, rfl⟩
  rw [hN] at hn ⊢
  have HC := Lib.hid hc
  have HN := Lib.hid hN
  clear hc hN
  by_cases h4 : 4096 < N
  · have h4i : (4096 : Int) < (N : Int) := by omega
    have HF := Lib.hid (HNO.out (not_may_long (by rw [HN.out]; exact h4)))
    clear h4
    go_enter Tryd.func14, Tryd.ntmps14
    go_wp2
    go_ret2
    exact ⟨by rw [HF.out]; rfl, Below.refl _ _⟩
  · have h4i : (N : Int) ≤ 4096 := by omega
    have hN4 : N ≤ 4096 := by omega
    clear h4
    have CN := rnums_new [(N : Int)] (by simp) (by intro z hz; obtain rfl := List.mem_singleton.1 hz; constructor <;> omega)
    simp only [List.map_cons, List.map_nil, List.length_cons, List.length_nil, Nat.reduceAdd, Int.toNat_natCast, layL_one] at CN
    have hd2 : (bs (dg N)).size ≤ 2 := by rw [bs_size]; exact dg_2 (by omega)
    go_enter Tryd.func14, Tryd.ntmps14
    go_wp2_with fail
    refine (CN _ _).mono ?_
    rintro e w2 ⟨rfl, hB2⟩
    have HB2 := Lib.hid hB2
    clear hB2 CN
    go_wp2_with fail
    go_loopw [4, 5, 6] (fun v u i wr => ∃ (j : Nat) (S : ByteArray), j ≤ N ∧ i = .int .i64 j ∧ v = .string S ∧ u = .int .i64 (lastIno l j) ∧ S.size ≤ 2 + 12 * j ∧ S = bs (dg N ++ (l.take j).flatMap kI.enc) ∧ MayTo kI l j ∧ Below w.heap.size w wr) (fun _ _ i _ => N - (intOf i).toNat)
    case atStart => exact ⟨0, bs (dg N), Nat.zero_le _, rfl, rfl, rfl, hd2, by simp, MayTo.zero l, HB2.out⟩
    case round =>
      obtain ⟨j, S, hj, rfl, rfl, rfl, hsz, hS, hm, hB⟩ := hrel
      have HS4 := Lib.hid hS
      have HM := Lib.hid hm
      have HB := Lib.hid hB
      clear hS hm hB hd2
      by_cases hlt : j < N
      · have hl : j < l.length := by rw [HN.out]; exact hlt
        have hji : (j : Int) < (N : Int) := by omega
        obtain ⟨b, off, rfl, hb, hcells⟩ := HC.out (by intro e; rw [e] at hl; simp at hl)
        obtain ⟨y, hy⟩ : ∃ y, l[j] = y := ⟨_, rfl⟩
        have HCL := Lib.hid (fun (W : World) (hW : Below wr.heap.size wr W) => ino_load (W := W) (b := b) (off := off) (l := l) (fun j hj i hi => (World.cell?_of_block (w := w) ((HB.out.trans (hW.mono HB.out.size)).block b hb)).trans (hcells j hj i hi)))
        obtain ⟨c0, c1, c2, c3, c4⟩ := HCL.out wr (Below.refl _ wr) j hl
        rw [hy] at c0 c1 c2 c3 c4
        have HY := Lib.hid hy
        have HTK := Lib.hid (show l.take (j + 1) = l.take j ++ [y] by rw [← hy]; exact List.take_succ_eq_append_getElem hl)
        clear hcells hb hy
        obtain ⟨u0, hu0⟩ : ∃ u, wr.alloc (.cells #[.int .i64 0, .bool false, .int .i64 0, .int .i64 0, .int .i64 0] 34) = u := ⟨_, rfl⟩
        have hx0 : u0.heap[wr.heap.size]? = some (.cells #[.int .i64 0, .bool false, .int .i64 0, .int .i64 0, .int .i64 0] 34 (0, 0)) := by rw [← hu0]; exact heap_alloc_new wr _
        have z0 : u0.cell? ⟨wr.heap.size, 0, none⟩ = some (.int .i64 0) := by simp [World.cell?, hx0]
        have z1 : u0.cell? ⟨wr.heap.size, 1, none⟩ = some (.bool false) := by simp [World.cell?, hx0]
        have z2 : u0.cell? ⟨wr.heap.size, 2, none⟩ = some (.int .i64 0) := by simp [World.cell?, hx0]
        have z3 : u0.cell? ⟨wr.heap.size, 3, none⟩ = some (.int .i64 0) := by simp [World.cell?, hx0]
        have z4 : u0.cell? ⟨wr.heap.size, 4, none⟩ = some (.int .i64 0) := by simp [World.cell?, hx0]
        have f0 : u0.frozen? ⟨wr.heap.size, 0, none⟩ = false := by simp [World.frozen?, hx0]
        have f1 : u0.frozen? ⟨wr.heap.size, 1, none⟩ = false := by simp [World.frozen?, hx0]
        have f2 : u0.frozen? ⟨wr.heap.size, 2, none⟩ = false := by simp [World.frozen?, hx0]
        have f3 : u0.frozen? ⟨wr.heap.size, 3, none⟩ = false := by simp [World.frozen?, hx0]
        have f4 : u0.frozen? ⟨wr.heap.size, 4, none⟩ = false := by simp [World.frozen?, hx0]
        have hu : Below wr.heap.size wr u0 := by rw [← hu0]; exact (Below.refl _ wr).alloc (Nat.le_refl _) _
        obtain ⟨u1, hu1⟩ : ∃ u, (((((u0.setCell ⟨wr.heap.size, 0, none⟩ (.int .i64 y.num)).setCell ⟨wr.heap.size, 1, none⟩ (.bool y.dir)).setCell ⟨wr.heap.size, 2, none⟩ (.int .i64 y.links)).setCell ⟨wr.heap.size, 3, none⟩ (.int .i64 y.root)).setCell ⟨wr.heap.size, 4, none⟩ (.int .i64 y.size)) = u := ⟨_, rfl⟩
        have HX := Lib.hid (show u1.heap[wr.heap.size]? = some (.cells #[.int .i64 y.num, .bool y.dir, .int .i64 y.links, .int .i64 y.root, .int .i64 y.size] 34 (0, 0)) by rw [← hu1]; exact (heap_set (heap_set (heap_set (heap_set (heap_set hx0 (i := 0) (.int .i64 y.num)) (i := 1) (.bool y.dir)) (i := 2) (.int .i64 y.links)) (i := 3) (.int .i64 y.root)) (i := 4) (.int .i64 y.size)))
        have HU := Lib.hid (show Below wr.heap.size wr u1 by rw [← hu1]; exact (((((hu.setCell (p := ⟨wr.heap.size, 0, none⟩) (Nat.le_refl _) (.int .i64 y.num)).setCell (p := ⟨wr.heap.size, 1, none⟩) (Nat.le_refl _) (.bool y.dir)).setCell (p := ⟨wr.heap.size, 2, none⟩) (Nat.le_refl _) (.int .i64 y.links)).setCell (p := ⟨wr.heap.size, 3, none⟩) (Nat.le_refl _) (.int .i64 y.root)).setCell (p := ⟨wr.heap.size, 4, none⟩) (Nat.le_refl _) (.int .i64 y.size)))
        clear hx0 hu
        have hxx := HX.out
        have d0 : u1.cell? ⟨wr.heap.size, 0, none⟩ = some (.int .i64 y.num) := by simp [World.cell?, hxx]
        have d1 : u1.cell? ⟨wr.heap.size, 1, none⟩ = some (.bool y.dir) := by simp [World.cell?, hxx]
        have d2 : u1.cell? ⟨wr.heap.size, 2, none⟩ = some (.int .i64 y.links) := by simp [World.cell?, hxx]
        have d3 : u1.cell? ⟨wr.heap.size, 3, none⟩ = some (.int .i64 y.root) := by simp [World.cell?, hxx]
        have d4 : u1.cell? ⟨wr.heap.size, 4, none⟩ = some (.int .i64 y.size) := by simp [World.cell?, hxx]
        clear hxx
        have HL0 := Lib.hid (lastIno_nonneg HM.out)
        obtain ⟨L, hL⟩ : ∃ L, lastIno l j = L := ⟨_, rfl⟩
        rw [hL] at HL0 ⊢
        have HLL := Lib.hid hL
        clear hL
        have CB := fun w => rblob_any y.root y.size w
        unfold blobV at CB
        obtain ⟨p, hp⟩ : ∃ p, blobB y.root y.size = p := ⟨_, rfl⟩
        rw [hp] at CB
        have HPB := Lib.hid hp
        clear hp
        have HW := Lib.hid (show ∀ W, Below u1.heap.size u1 W → W.heap[wr.heap.size]? = u1.heap[wr.heap.size]? from fun W hW => hW.block _ (lt_of_heap HX.out))
        by_cases g : y.num ≤ L
        · skip
          have HF := Lib.hid (HNO.out (lastIno_no hl (by rw [HY.out, HLL.out]; exact g)))
          go_wp2_with fail
          go_ret2
          exact ⟨by rw [HF.out]; rfl, HB.out.trans (HU.out.mono HB.out.size)⟩
        · have g0 : L < y.num := by omega
          clear g
          by_cases g : 65535 < y.num
          · skip
            have HF := Lib.hid (HNO.out (not_may_ok hl (by rw [HY.out]; exact fun e => absurd e.2.1 (by omega))))
            go_wp2_with fail
            go_ret2
            exact ⟨by rw [HF.out]; rfl, HB.out.trans (HU.out.mono HB.out.size)⟩
          · have g1 : y.num ≤ 65535 := by omega
            clear g
            by_cases g : y.links < 1
            · skip
              have HF := Lib.hid (HNO.out (not_may_ok hl (by rw [HY.out]; exact fun e => absurd e.2.2.1 (by omega))))
              go_wp2_with fail
              go_ret2
              exact ⟨by rw [HF.out]; rfl, HB.out.trans (HU.out.mono HB.out.size)⟩
            · have g2 : 1 ≤ y.links := by omega
              clear g
              by_cases g : 65535 < y.links
              · skip
                have HF := Lib.hid (HNO.out (not_may_ok hl (by rw [HY.out]; exact fun e => absurd e.2.2.2.1 (by omega))))
                go_wp2_with fail
                go_ret2
                exact ⟨by rw [HF.out]; rfl, HB.out.trans (HU.out.mono HB.out.size)⟩
              · have g3 : y.links ≤ 65535 := by omega
                clear g
                cases p with
                | false =>
                  have HF := Lib.hid (HNO.out (not_may_ok hl (by rw [HY.out]; exact fun e => absurd ((blob_iff _ _).2 e.2.2.2.2) (by rw [HPB.out]; decide))))
                  go_wp2_with fail
                  refine (CB _).mono ?_
                  rintro e w4 ⟨rfl, hB4⟩
                  go_wp2_with fail
                  go_ret2
                  exact ⟨by rw [HF.out]; rfl, HB.out.trans ((HU.out.trans (hB4.mono HU.out.size)).mono HB.out.size)⟩
                | true =>
                  have HOK := Lib.hid (show kI.ok y from ⟨by have := HL0.out; omega, g1, g2, g3, (blob_iff _ _).1 HPB.out⟩)
                  have HLT := Lib.hid (show lastIno l j < y.num by rw [HLL.out]; exact g0)
                  go_wp2_with fail
                  refine (CB _).mono ?_
                  rintro e w3 ⟨rfl, hB3⟩
                  have HUX := Lib.hid ((HW.out w3 hB3).trans HX.out)
                  have hxx := HUX.out
                  have f0' : w3.cell? ⟨wr.heap.size, 0, none⟩ = some (.int .i64 y.num) := by simp [World.cell?, hxx]
                  have f1' : w3.cell? ⟨wr.heap.size, 1, none⟩ = some (.bool y.dir) := by simp [World.cell?, hxx]
                  have f2' : w3.cell? ⟨wr.heap.size, 2, none⟩ = some (.int .i64 y.links) := by simp [World.cell?, hxx]
                  have f3' : w3.cell? ⟨wr.heap.size, 3, none⟩ = some (.int .i64 y.root) := by simp [World.cell?, hxx]
                  have f4' : w3.cell? ⟨wr.heap.size, 4, none⟩ = some (.int .i64 y.size) := by simp [World.cell?, hxx]
                  have HUU := Lib.hid (HU.out.trans (hB3.mono HU.out.size))
                  clear hxx hB3 CB
                  have hok : kI.ok l[j] := by rw [HY.out]; exact HOK.out
                  have HE := Lib.hid (HM.out.succ hl hok (lastIno_lt hl (by rw [HY.out]; exact HLT.out)))
                  clear hok
                  have HRR := Lib.hid (HB.out.trans (HUU.out.mono HB.out.size))
                  obtain ⟨d, hd⟩ : ∃ d : Int, d = (if y.dir then 1 else 0 : Int) := ⟨_, rfl⟩
                  have hg : ∀ z ∈ [y.num, d, y.links, y.root, y.size], good z := by
                    intro z hz
                    simp only [List.mem_cons, List.not_mem_nil, or_false] at hz
                    have hd1 : 0 ≤ d ∧ d ≤ 1 := by rw [hd]; split <;> omega
                    obtain ⟨q1, q2, q3, q4, q5⟩ := HOK.out
                    obtain ⟨b1, b2, b3, b4⟩ := blob_bounds q5
                    rcases hz with rfl | rfl | rfl | rfl | rfl <;> constructor <;> omega
                  have CQ := rnums_new [y.num, d, y.links, y.root, y.size] (by simp) hg
                  have HEQ := Lib.hid (show layL ([y.num, d, y.links, y.root, y.size].map Int.toNat) = inoEnc y by rw [hd]; unfold inoEnc; cases y.dir <;> rfl)
                  rw [HEQ.out] at CQ
                  simp only [List.map_cons, List.map_nil, List.length_cons, List.length_nil, Nat.reduceAdd] at CQ
                  have hEz : (bs (inoEnc y)).size ≤ 12 := by rw [bs_size]; exact inoEnc_len HOK.out
                  obtain ⟨E, hE⟩ : ∃ E, bs (inoEnc y) = E := ⟨_, rfl⟩
                  rw [hE] at CQ hEz
                  have HEE := Lib.hid hE
                  have nsum : ¬ 9223372036854775807 < S.size + E.size := by omega
                  have HSZ := Lib.hid (show (S ++ E).size ≤ 2 + 12 * (j + 1) by rw [ByteArray.size_append]; omega)
                  have HCQ := Lib.hid CQ
                  clear hg HEQ CQ hE hEz
                  obtain ⟨dirB, hdir⟩ : ∃ q, y.dir = q := ⟨_, rfl⟩
                  rw [hdir] at hd f1'
                  rw [hdir]
                  clear hdir
                  cases dirB with
                  | true =>
                    have hd' : d = 1 := hd
                    clear hd
                    subst hd'
                    go_wp2_with fail
                    refine (HCQ.out _ _).mono ?_
                    rintro e w5 ⟨rfl, hB5⟩
                    have HB5 := Lib.hid (HRR.out.trans (hB5.mono HRR.out.size))
                    clear hB5
                    go_wp2_with fail
                    go_roundw
                    case rel => exact ⟨j + 1, S ++ E, by omega, by go_num, rfl, by rw [lastIno_succ hl, HY.out], HSZ.out, by rw [HS4.out, HTK.out, List.flatMap_append, ← HEE.out, ← bs_append]; simp [kI], HE.out, HB5.out⟩
                    case measure => simp [intOf]; omega
                  | false =>
                    have hd' : d = 0 := hd
                    clear hd
                    subst hd'
                    go_wp2_with fail
                    refine (HCQ.out _ _).mono ?_
                    rintro e w5 ⟨rfl, hB5⟩
                    have HB5 := Lib.hid (HRR.out.trans (hB5.mono HRR.out.size))
                    clear hB5
                    go_wp2_with fail
                    go_roundw
                    case rel => exact ⟨j + 1, S ++ E, by omega, by go_num, rfl, by rw [lastIno_succ hl, HY.out], HSZ.out, by rw [HS4.out, HTK.out, List.flatMap_append, ← HEE.out, ← bs_append]; simp [kI], HE.out, HB5.out⟩
                    case measure => simp [intOf]; omega
      · obtain rfl : j = N := by omega
        have hmay : May kI l := ⟨by rw [HN.out]; omega, by rw [HN.out]; exact HM.out⟩
        have HF := Lib.hid (show R = .tuple #[.string S, .int .i64 0] by
          rw [HYES.out hmay, HS4.out, laidL, HN.out, List.take_of_length_le (by rw [HN.out]; exact Nat.le_refl _)])
        clear hmay
        go_wp2_with fail
        go_ret2
        exact ⟨by rw [HF.out]; rfl, HB.out⟩
set_option maxRecDepth 100000 in
set_option maxHeartbeats 8000000 in
theorem entRLay_any (v : Value) (l : List Ent) (hn : l.length ≤ 9223372036854775807) (hs : ∀ x ∈ l, x.name.size ≤ 140737488355328) (w : World) (h : LstAt entC 2 w v l) :
    Calls Tryd.prog 19 #[v] w fun e w' => e = .returned (layV kE l) ∧ Below w.heap.size w w' := by
  obtain ⟨R, hR⟩ : ∃ R, layV kE l = R := ⟨_, rfl⟩
  rw [hR]
  have HNO := Lib.hid (show ¬ May kE l → R = .tuple #[.string ⟨#[]⟩, .int .i64 120] from fun h => by rw [← hR]; exact layV_no h)
  have HYES := Lib.hid (show May kE l → R = .tuple #[.string (bs (laidL kE l)), .int .i64 0] from fun h => by rw [← hR]; exact layV_yes h)
  clear hR
  obtain ⟨a, cap, rfl, hc⟩ := h
  obtain ⟨N, hN⟩ : ∃ N, l.length = N := ⟨_, rfl⟩
  rw [hN] at hn ⊢
  have HC := Lib.hid hc
  have HN := Lib.hid hN
  have HS := Lib.hid hs
  clear hc hN hs
  by_cases h4 : 4096 < N
  · have h4i : (4096 : Int) < (N : Int) := by omega
    have HF := Lib.hid (HNO.out (not_may_long (by rw [HN.out]; exact h4)))
    clear h4
    go_enter Tryd.func19, Tryd.ntmps19
    go_wp2
    go_ret2
    exact ⟨by rw [HF.out]; rfl, Below.refl _ _⟩
  · have h4i : (N : Int) ≤ 4096 := by omega
    have hN4 : N ≤ 4096 := by omega
    clear h4
    have CN := rnums_new [(N : Int)] (by simp) (by intro z hz; obtain rfl := List.mem_singleton.1 hz; constructor <;> omega)
    simp only [List.map_cons, List.map_nil, List.length_cons, List.length_nil, Nat.reduceAdd, Int.toNat_natCast, layL_one] at CN
    have hd2 : (bs (dg N)).size ≤ 2 := by rw [bs_size]; exact dg_2 (by omega)
    go_enter Tryd.func19, Tryd.ntmps19
    go_wp2_with fail
    refine (CN _ _).mono ?_
    rintro e w2 ⟨rfl, hB2⟩
    have HB2 := Lib.hid hB2
    clear hB2 CN
    go_wp2_with fail
    go_loopw [4, 5] (fun v i wr => ∃ (j : Nat) (S : ByteArray), j ≤ N ∧ i = .int .i64 j ∧ v = .string S ∧ S.size ≤ 2 + 20 * j ∧ S = bs (dg N ++ (l.take j).flatMap kE.enc) ∧ MayTo kE l j ∧ Below w.heap.size w wr) (fun _ i _ => N - (intOf i).toNat)
    case atStart => exact ⟨0, bs (dg N), Nat.zero_le _, rfl, rfl, hd2, by simp, MayTo.zero l, HB2.out⟩
    case round =>
      obtain ⟨j, S, hj, rfl, rfl, hsz, hS, hm, hB⟩ := hrel
      have HS4 := Lib.hid hS
      have HM := Lib.hid hm
      have HB := Lib.hid hB
      clear hS hm hB hd2
      by_cases hlt : j < N
      · have hl : j < l.length := by rw [HN.out]; exact hlt
        have hji : (j : Int) < (N : Int) := by omega
        obtain ⟨b, off, rfl, hb, hcells⟩ := HC.out (by intro e; rw [e] at hl; simp at hl)
        obtain ⟨y, hy⟩ : ∃ y, l[j] = y := ⟨_, rfl⟩
        have HCL := Lib.hid (fun (W : World) (hW : Below wr.heap.size wr W) => ent_load (W := W) (b := b) (off := off) (l := l) (fun j hj i hi => (World.cell?_of_block (w := w) ((HB.out.trans (hW.mono HB.out.size)).block b hb)).trans (hcells j hj i hi)))
        obtain ⟨c0, c1⟩ := HCL.out wr (Below.refl _ wr) j hl
        rw [hy] at c0 c1
        have HY := Lib.hid hy
        have HTK := Lib.hid (show l.take (j + 1) = l.take j ++ [y] by rw [← hy]; exact List.take_succ_eq_append_getElem hl)
        have hys : y.name.size ≤ 140737488355328 := by rw [← hy]; exact HS.out _ (List.getElem_mem hl)
        clear hcells hb hy
        obtain ⟨u0, hu0⟩ : ∃ u, wr.alloc (.cells #[.string ⟨#[]⟩, .int .i64 0] 52) = u := ⟨_, rfl⟩
        have hx0 : u0.heap[wr.heap.size]? = some (.cells #[.string ⟨#[]⟩, .int .i64 0] 52 (0, 0)) := by rw [← hu0]; exact heap_alloc_new wr _
        have z0 : u0.cell? ⟨wr.heap.size, 0, none⟩ = some (.string ⟨#[]⟩) := by simp [World.cell?, hx0]
        have z1 : u0.cell? ⟨wr.heap.size, 1, none⟩ = some (.int .i64 0) := by simp [World.cell?, hx0]
        have f0 : u0.frozen? ⟨wr.heap.size, 0, none⟩ = false := by simp [World.frozen?, hx0]
        have f1 : u0.frozen? ⟨wr.heap.size, 1, none⟩ = false := by simp [World.frozen?, hx0]
        have hu : Below wr.heap.size wr u0 := by rw [← hu0]; exact (Below.refl _ wr).alloc (Nat.le_refl _) _
        obtain ⟨u1, hu1⟩ : ∃ u, ((u0.setCell ⟨wr.heap.size, 0, none⟩ (.string y.name)).setCell ⟨wr.heap.size, 1, none⟩ (.int .i64 y.num)) = u := ⟨_, rfl⟩
        have HX := Lib.hid (show u1.heap[wr.heap.size]? = some (.cells #[.string y.name, .int .i64 y.num] 52 (0, 0)) by rw [← hu1]; exact (heap_set (heap_set hx0 (i := 0) (.string y.name)) (i := 1) (.int .i64 y.num)))
        have HU := Lib.hid (show Below wr.heap.size wr u1 by rw [← hu1]; exact ((hu.setCell (p := ⟨wr.heap.size, 0, none⟩) (Nat.le_refl _) (.string y.name)).setCell (p := ⟨wr.heap.size, 1, none⟩) (Nat.le_refl _) (.int .i64 y.num)))
        clear hx0 hu
        have hxx := HX.out
        have d0 : u1.cell? ⟨wr.heap.size, 0, none⟩ = some (.string y.name) := by simp [World.cell?, hxx]
        have d1 : u1.cell? ⟨wr.heap.size, 1, none⟩ = some (.int .i64 y.num) := by simp [World.cell?, hxx]
        clear hxx
        have HWB := Lib.hid (show Below wr.heap.size wr u1.drew from HU.out.drew)
        have CNM := fun w => rname_any y.name hys w
        obtain ⟨p, hp⟩ : ∃ p, nameB y.name = p := ⟨_, rfl⟩
        rw [hp] at CNM
        have HQN := Lib.hid hp
        clear hp
        have HK := Lib.hid (show u1.drew.cell? ⟨wr.heap.size, 0, none⟩ = some (.string y.name) ∧ u1.drew.cell? ⟨wr.heap.size, 1, none⟩ = some (.int .i64 y.num) from ⟨d0, d1⟩)
        cases p with
        | false =>
          have HF := Lib.hid (HNO.out (not_may_ok hl (by rw [HY.out]; exact fun e => absurd ((nameB_iff _).2 e.1) (by rw [HQN.out]; decide))))
          go_wp2_with fail
          refine wp_region_held_drew (S := fun w' => w'.cell? ⟨wr.heap.size, 0, none⟩ = some (.string y.name) ∧ w'.cell? ⟨wr.heap.size, 1, none⟩ = some (.int .i64 y.num)) (by kernel_rfl) HK.out (fun hHeld => ?_)
          refine take_oneH 26 (i := 0) (v := .pointer (some ⟨wr.heap.size, 0, none⟩)) rfl rfl (by kernel_rfl) (by kernel_rfl) (by kernel_rfl) (fun _ _ _ h => h) (Or.inl ⟨by kernel_rfl, fun w hSw => by (go_simp)⟩) (by assumption) ?_
          simp only [Act.put, List.setIfInBounds_toArray, List.set_cons_zero, List.set_cons_succ]
          refine take_oneH 27 (i := 1) (v := .string y.name) rfl rfl (by kernel_rfl) (by kernel_rfl) (by kernel_rfl) (fun _ _ _ h => h) (Or.inl ⟨by kernel_rfl, fun w hSw => by (go_simp)⟩) (by assumption) ?_
          simp only [Act.put, List.setIfInBounds_toArray, List.set_cons_zero, List.set_cons_succ]
          refine wpAnyH_ready (rs := [2]) (by kernel_rfl) (by simp) ?_
          refine AllReadyH.cons rfl (fun K hK => ?_) (AllReadyH.nil)
          go_simp
          go_at_call 12
          refine (CNM _).mono ?_
          rintro e v1 ⟨rfl, rfl⟩
          go_wp2_with fail
          refine hK.out _ _ HK.out (fun hHeld => ?_)
          clear hK K
          try simp only [Act.put, List.setIfInBounds_toArray, List.set_cons_zero, List.set_cons_succ]
          refine take_oneH 29 (i := 3) (v := .bool true) rfl rfl (by kernel_rfl) (by kernel_rfl) (by kernel_rfl) (fun _ _ _ h => h) (Or.inl ⟨by kernel_rfl, fun w hSw => by (go_simp)⟩) (by assumption) ?_
          simp only [Act.put, List.setIfInBounds_toArray, List.set_cons_zero, List.set_cons_succ]
          refine take_oneH 30 (i := 4) (v := .bool true) rfl rfl (by kernel_rfl) (by kernel_rfl) (by kernel_rfl) (fun _ _ _ h => h) (Or.inl ⟨by kernel_rfl, fun w hSw => by (go_simp)⟩) (by assumption) ?_
          simp only [Act.put, List.setIfInBounds_toArray, List.set_cons_zero, List.set_cons_succ]
          refine take_oneH 31 (i := 5) (v := undef) rfl rfl (by kernel_rfl) (by kernel_rfl) (by kernel_rfl) (fun _ _ _ h => h) (Or.inr ⟨by kernel_rfl, rfl⟩) (by assumption) ?_
          simp only [Act.put, List.setIfInBounds_toArray, List.set_cons_zero, List.set_cons_succ]
          refine take_oneH 32 (i := 6) (v := undef) rfl rfl (by kernel_rfl) (by kernel_rfl) (by kernel_rfl) (fun _ _ _ h => h) (Or.inr ⟨by kernel_rfl, rfl⟩) (by assumption) ?_
          simp only [Act.put, List.setIfInBounds_toArray, List.set_cons_zero, List.set_cons_succ]
          refine take_oneH 33 (i := 7) (v := undef) rfl rfl (by kernel_rfl) (by kernel_rfl) (by kernel_rfl) (fun _ _ _ h => h) (Or.inr ⟨by kernel_rfl, rfl⟩) (by assumption) ?_
          simp only [Act.put, List.setIfInBounds_toArray, List.set_cons_zero, List.set_cons_succ]
          refine take_oneH 34 (i := 8) (v := undef) rfl rfl (by kernel_rfl) (by kernel_rfl) (by kernel_rfl) (fun _ _ _ h => h) (Or.inr ⟨by kernel_rfl, rfl⟩) (by assumption) ?_
          simp only [Act.put, List.setIfInBounds_toArray, List.set_cons_zero, List.set_cons_succ]
          refine take_oneH 35 (i := 9) (v := undef) rfl rfl (by kernel_rfl) (by kernel_rfl) (by kernel_rfl) (fun _ _ _ h => h) (Or.inr ⟨by kernel_rfl, rfl⟩) (by assumption) ?_
          simp only [Act.put, List.setIfInBounds_toArray, List.set_cons_zero, List.set_cons_succ]
          refine take_oneH 36 (i := 10) (v := undef) rfl rfl (by kernel_rfl) (by kernel_rfl) (by kernel_rfl) (fun _ _ _ h => h) (Or.inr ⟨by kernel_rfl, rfl⟩) (by assumption) ?_
          simp only [Act.put, List.setIfInBounds_toArray, List.set_cons_zero, List.set_cons_succ]
          refine take_oneH 37 (i := 11) (v := undef) rfl rfl (by kernel_rfl) (by kernel_rfl) (by kernel_rfl) (fun _ _ _ h => h) (Or.inr ⟨by kernel_rfl, rfl⟩) (by assumption) ?_
          simp only [Act.put, List.setIfInBounds_toArray, List.set_cons_zero, List.set_cons_succ]
          refine take_oneH 38 (i := 12) (v := undef) rfl rfl (by kernel_rfl) (by kernel_rfl) (by kernel_rfl) (fun _ _ _ h => h) (Or.inr ⟨by kernel_rfl, rfl⟩) (by assumption) ?_
          simp only [Act.put, List.setIfInBounds_toArray, List.set_cons_zero, List.set_cons_succ]
          refine take_oneH 39 (i := 13) (v := undef) rfl rfl (by kernel_rfl) (by kernel_rfl) (by kernel_rfl) (fun _ _ _ h => h) (Or.inr ⟨by kernel_rfl, rfl⟩) (by assumption) ?_
          simp only [Act.put, List.setIfInBounds_toArray, List.set_cons_zero, List.set_cons_succ]
          refine take_oneH 40 (i := 14) (v := undef) rfl rfl (by kernel_rfl) (by kernel_rfl) (by kernel_rfl) (fun _ _ _ h => h) (Or.inr ⟨by kernel_rfl, rfl⟩) (by assumption) ?_
          simp only [Act.put, List.setIfInBounds_toArray, List.set_cons_zero, List.set_cons_succ]
          refine take_oneH 41 (i := 15) (v := undef) rfl rfl (by kernel_rfl) (by kernel_rfl) (by kernel_rfl) (fun _ _ _ h => h) (Or.inr ⟨by kernel_rfl, rfl⟩) (by assumption) ?_
          simp only [Act.put, List.setIfInBounds_toArray, List.set_cons_zero, List.set_cons_succ]
          refine take_oneH 42 (i := 16) (v := undef) rfl rfl (by kernel_rfl) (by kernel_rfl) (by kernel_rfl) (fun _ _ _ h => h) (Or.inr ⟨by kernel_rfl, rfl⟩) (by assumption) ?_
          simp only [Act.put, List.setIfInBounds_toArray, List.set_cons_zero, List.set_cons_succ]
          refine take_oneH 43 (i := 17) (v := undef) rfl rfl (by kernel_rfl) (by kernel_rfl) (by kernel_rfl) (fun _ _ _ h => h) (Or.inr ⟨by kernel_rfl, rfl⟩) (by assumption) ?_
          simp only [Act.put, List.setIfInBounds_toArray, List.set_cons_zero, List.set_cons_succ]
          refine take_oneH 44 (i := 18) (v := .bool true) rfl rfl (by kernel_rfl) (by kernel_rfl) (by kernel_rfl) (fun _ _ _ h => h) (Or.inl ⟨by kernel_rfl, fun w hSw => by (go_simp)⟩) (by assumption) ?_
          simp only [Act.put, List.setIfInBounds_toArray, List.set_cons_zero, List.set_cons_succ]
          refine take_oneH 45 (i := 19) (v := .bool true) rfl rfl (by kernel_rfl) (by kernel_rfl) (by kernel_rfl) (fun _ _ _ h => h) (Or.inl ⟨by kernel_rfl, fun w hSw => by (go_simp)⟩) (by assumption) ?_
          simp only [Act.put, List.setIfInBounds_toArray, List.set_cons_zero, List.set_cons_succ]
          refine take_oneH 46 (i := 20) (v := undef) rfl rfl (by kernel_rfl) (by kernel_rfl) (by kernel_rfl) (fun _ _ _ h => h) (Or.inr ⟨by kernel_rfl, rfl⟩) (by assumption) ?_
          simp only [Act.put, List.setIfInBounds_toArray, List.set_cons_zero, List.set_cons_succ]
          refine take_oneH 47 (i := 21) (v := undef) rfl rfl (by kernel_rfl) (by kernel_rfl) (by kernel_rfl) (fun _ _ _ h => h) (Or.inr ⟨by kernel_rfl, rfl⟩) (by assumption) ?_
          simp only [Act.put, List.setIfInBounds_toArray, List.set_cons_zero, List.set_cons_succ]
          refine take_oneH 48 (i := 22) (v := undef) rfl rfl (by kernel_rfl) (by kernel_rfl) (by kernel_rfl) (fun _ _ _ h => h) (Or.inr ⟨by kernel_rfl, rfl⟩) (by assumption) ?_
          simp only [Act.put, List.setIfInBounds_toArray, List.set_cons_zero, List.set_cons_succ]
          refine take_oneH 49 (i := 23) (v := .bool true) rfl rfl (by kernel_rfl) (by kernel_rfl) (by kernel_rfl) (fun _ _ _ h => h) (Or.inl ⟨by kernel_rfl, fun w hSw => by (go_simp)⟩) (by assumption) ?_
          simp only [Act.put, List.setIfInBounds_toArray, List.set_cons_zero, List.set_cons_succ]
          refine take_oneH 50 (i := 24) (v := .bool true) rfl rfl (by kernel_rfl) (by kernel_rfl) (by kernel_rfl) (fun _ _ _ h => h) (Or.inl ⟨by kernel_rfl, fun w hSw => by (go_simp)⟩) (by assumption) ?_
          simp only [Act.put, List.setIfInBounds_toArray, List.set_cons_zero, List.set_cons_succ]
          refine take_oneH 51 (i := 25) (v := undef) rfl rfl (by kernel_rfl) (by kernel_rfl) (by kernel_rfl) (fun _ _ _ h => h) (Or.inr ⟨by kernel_rfl, rfl⟩) (by assumption) ?_
          simp only [Act.put, List.setIfInBounds_toArray, List.set_cons_zero, List.set_cons_succ]
          refine take_oneH 52 (i := 26) (v := undef) rfl rfl (by kernel_rfl) (by kernel_rfl) (by kernel_rfl) (fun _ _ _ h => h) (Or.inr ⟨by kernel_rfl, rfl⟩) (by assumption) ?_
          simp only [Act.put, List.setIfInBounds_toArray, List.set_cons_zero, List.set_cons_succ]
          refine take_oneH 53 (i := 27) (v := undef) rfl rfl (by kernel_rfl) (by kernel_rfl) (by kernel_rfl) (fun _ _ _ h => h) (Or.inr ⟨by kernel_rfl, rfl⟩) (by assumption) ?_
          simp only [Act.put, List.setIfInBounds_toArray, List.set_cons_zero, List.set_cons_succ]
          refine take_oneH 54 (i := 28) (v := .bool true) rfl rfl (by kernel_rfl) (by kernel_rfl) (by kernel_rfl) (fun _ _ _ h => h) (Or.inl ⟨by kernel_rfl, fun w hSw => by (go_simp)⟩) (by assumption) ?_
          simp only [Act.put, List.setIfInBounds_toArray, List.set_cons_zero, List.set_cons_succ]
          refine wpAnyH_done (by kernel_rfl) ?_ _
          clear CNM
          go_wp2_with fail
          go_ret2
          exact ⟨by rw [HF.out]; rfl, HB.out.trans (HWB.out.mono HB.out.size)⟩
        | true =>
          by_cases hj0 : j = 0
          · have hjn : ¬ (0 < j) := by omega
            clear hj0
            have HLT := Lib.hid (show ∀ (_ : 0 < j), kE.lt (l[j - 1]'(by omega)) l[j] from fun h => absurd h hjn)
            by_cases g : y.num < 1
            · have HF := Lib.hid (HNO.out (not_may_ok hl (by rw [HY.out]; exact fun e => absurd e.2.1 (by omega))))
              go_wp2_with fail
              refine wp_region_held_drew (S := fun w' => w'.cell? ⟨wr.heap.size, 0, none⟩ = some (.string y.name) ∧ w'.cell? ⟨wr.heap.size, 1, none⟩ = some (.int .i64 y.num)) (by kernel_rfl) HK.out (fun hHeld => ?_)
              refine take_oneH 26 (i := 0) (v := .pointer (some ⟨wr.heap.size, 0, none⟩)) rfl rfl (by kernel_rfl) (by kernel_rfl) (by kernel_rfl) (fun _ _ _ h => h) (Or.inl ⟨by kernel_rfl, fun w hSw => by (go_simp)⟩) (by assumption) ?_
              simp only [Act.put, List.setIfInBounds_toArray, List.set_cons_zero, List.set_cons_succ]
              refine take_oneH 27 (i := 1) (v := .string y.name) rfl rfl (by kernel_rfl) (by kernel_rfl) (by kernel_rfl) (fun _ _ _ h => h) (Or.inl ⟨by kernel_rfl, fun w hSw => by (go_simp)⟩) (by assumption) ?_
              simp only [Act.put, List.setIfInBounds_toArray, List.set_cons_zero, List.set_cons_succ]
              refine wpAnyH_ready (rs := [2]) (by kernel_rfl) (by simp) ?_
              refine AllReadyH.cons rfl (fun K hK => ?_) (AllReadyH.nil)
              go_simp
              go_at_call 12
              refine (CNM _).mono ?_
              rintro e v1 ⟨rfl, rfl⟩
              go_wp2_with fail
              refine hK.out _ _ HK.out (fun hHeld => ?_)
              clear hK K
              try simp only [Act.put, List.setIfInBounds_toArray, List.set_cons_zero, List.set_cons_succ]
              refine take_oneH 29 (i := 3) (v := .bool false) rfl rfl (by kernel_rfl) (by kernel_rfl) (by kernel_rfl) (fun _ _ _ h => h) (Or.inl ⟨by kernel_rfl, fun w hSw => by (go_simp)⟩) (by assumption) ?_
              simp only [Act.put, List.setIfInBounds_toArray, List.set_cons_zero, List.set_cons_succ]
              refine take_oneH 30 (i := 4) (v := .bool false) rfl rfl (by kernel_rfl) (by kernel_rfl) (by kernel_rfl) (fun _ _ _ h => h) (Or.inl ⟨by kernel_rfl, fun w hSw => by (go_simp)⟩) (by assumption) ?_
              simp only [Act.put, List.setIfInBounds_toArray, List.set_cons_zero, List.set_cons_succ]
              refine take_oneH 31 (i := 5) (v := .int .i64 ((j : Nat) : Int)) rfl rfl (by kernel_rfl) (by kernel_rfl) (by kernel_rfl) (fun _ _ _ h => h) (Or.inl ⟨by kernel_rfl, fun w hSw => by (go_simp)⟩) (by assumption) ?_
              simp only [Act.put, List.setIfInBounds_toArray, List.set_cons_zero, List.set_cons_succ]
              refine take_oneH 32 (i := 6) (v := .bool false) rfl rfl (by kernel_rfl) (by kernel_rfl) (by kernel_rfl) (fun _ _ _ h => h) (Or.inl ⟨by kernel_rfl, fun w hSw => by (go_simp)⟩) (by assumption) ?_
              simp only [Act.put, List.setIfInBounds_toArray, List.set_cons_zero, List.set_cons_succ]
              refine take_oneH 33 (i := 7) (v := .bool false) rfl rfl (by kernel_rfl) (by kernel_rfl) (by kernel_rfl) (fun _ _ _ h => h) (Or.inl ⟨by kernel_rfl, fun w hSw => by (go_simp)⟩) (by assumption) ?_
              simp only [Act.put, List.setIfInBounds_toArray, List.set_cons_zero, List.set_cons_succ]
              refine take_oneH 34 (i := 8) (v := undef) rfl rfl (by kernel_rfl) (by kernel_rfl) (by kernel_rfl) (fun _ _ _ h => h) (Or.inr ⟨by kernel_rfl, rfl⟩) (by assumption) ?_
              simp only [Act.put, List.setIfInBounds_toArray, List.set_cons_zero, List.set_cons_succ]
              refine take_oneH 35 (i := 9) (v := undef) rfl rfl (by kernel_rfl) (by kernel_rfl) (by kernel_rfl) (fun _ _ _ h => h) (Or.inr ⟨by kernel_rfl, rfl⟩) (by assumption) ?_
              simp only [Act.put, List.setIfInBounds_toArray, List.set_cons_zero, List.set_cons_succ]
              refine take_oneH 36 (i := 10) (v := undef) rfl rfl (by kernel_rfl) (by kernel_rfl) (by kernel_rfl) (fun _ _ _ h => h) (Or.inr ⟨by kernel_rfl, rfl⟩) (by assumption) ?_
              simp only [Act.put, List.setIfInBounds_toArray, List.set_cons_zero, List.set_cons_succ]
              refine take_oneH 37 (i := 11) (v := undef) rfl rfl (by kernel_rfl) (by kernel_rfl) (by kernel_rfl) (fun _ _ _ h => h) (Or.inr ⟨by kernel_rfl, rfl⟩) (by assumption) ?_
              simp only [Act.put, List.setIfInBounds_toArray, List.set_cons_zero, List.set_cons_succ]
              refine take_oneH 38 (i := 12) (v := undef) rfl rfl (by kernel_rfl) (by kernel_rfl) (by kernel_rfl) (fun _ _ _ h => h) (Or.inr ⟨by kernel_rfl, rfl⟩) (by assumption) ?_
              simp only [Act.put, List.setIfInBounds_toArray, List.set_cons_zero, List.set_cons_succ]
              refine take_oneH 39 (i := 13) (v := undef) rfl rfl (by kernel_rfl) (by kernel_rfl) (by kernel_rfl) (fun _ _ _ h => h) (Or.inr ⟨by kernel_rfl, rfl⟩) (by assumption) ?_
              simp only [Act.put, List.setIfInBounds_toArray, List.set_cons_zero, List.set_cons_succ]
              refine take_oneH 40 (i := 14) (v := undef) rfl rfl (by kernel_rfl) (by kernel_rfl) (by kernel_rfl) (fun _ _ _ h => h) (Or.inr ⟨by kernel_rfl, rfl⟩) (by assumption) ?_
              simp only [Act.put, List.setIfInBounds_toArray, List.set_cons_zero, List.set_cons_succ]
              refine take_oneH 41 (i := 15) (v := undef) rfl rfl (by kernel_rfl) (by kernel_rfl) (by kernel_rfl) (fun _ _ _ h => h) (Or.inr ⟨by kernel_rfl, rfl⟩) (by assumption) ?_
              simp only [Act.put, List.setIfInBounds_toArray, List.set_cons_zero, List.set_cons_succ]
              refine take_oneH 42 (i := 16) (v := undef) rfl rfl (by kernel_rfl) (by kernel_rfl) (by kernel_rfl) (fun _ _ _ h => h) (Or.inr ⟨by kernel_rfl, rfl⟩) (by assumption) ?_
              simp only [Act.put, List.setIfInBounds_toArray, List.set_cons_zero, List.set_cons_succ]
              refine take_oneH 43 (i := 17) (v := .bool false) rfl rfl (by kernel_rfl) (by kernel_rfl) (by kernel_rfl) (fun _ _ _ h => h) (Or.inl ⟨by kernel_rfl, fun w hSw => by (go_simp)⟩) (by assumption) ?_
              simp only [Act.put, List.setIfInBounds_toArray, List.set_cons_zero, List.set_cons_succ]
              refine take_oneH 44 (i := 18) (v := .bool false) rfl rfl (by kernel_rfl) (by kernel_rfl) (by kernel_rfl) (fun _ _ _ h => h) (Or.inl ⟨by kernel_rfl, fun w hSw => by (go_simp)⟩) (by assumption) ?_
              simp only [Act.put, List.setIfInBounds_toArray, List.set_cons_zero, List.set_cons_succ]
              refine take_oneH 45 (i := 19) (v := .bool false) rfl rfl (by kernel_rfl) (by kernel_rfl) (by kernel_rfl) (fun _ _ _ h => h) (Or.inl ⟨by kernel_rfl, fun w hSw => by (go_simp)⟩) (by assumption) ?_
              simp only [Act.put, List.setIfInBounds_toArray, List.set_cons_zero, List.set_cons_succ]
              refine take_oneH 46 (i := 20) (v := .pointer (some ⟨wr.heap.size, 1, none⟩)) rfl rfl (by kernel_rfl) (by kernel_rfl) (by kernel_rfl) (fun _ _ _ h => h) (Or.inl ⟨by kernel_rfl, fun w hSw => by (go_simp)⟩) (by assumption) ?_
              simp only [Act.put, List.setIfInBounds_toArray, List.set_cons_zero, List.set_cons_succ]
              refine take_oneH 47 (i := 21) (v := .int .i64 y.num) rfl rfl (by kernel_rfl) (by kernel_rfl) (by kernel_rfl) (fun _ _ _ h => h) (Or.inl ⟨by kernel_rfl, fun w hSw => by (go_simp)⟩) (by assumption) ?_
              simp only [Act.put, List.setIfInBounds_toArray, List.set_cons_zero, List.set_cons_succ]
              refine take_oneH 48 (i := 22) (v := .bool true) rfl rfl (by kernel_rfl) (by kernel_rfl) (by kernel_rfl) (fun _ _ _ h => h) (Or.inl ⟨by kernel_rfl, fun w hSw => by (go_simp)⟩) (by assumption) ?_
              simp only [Act.put, List.setIfInBounds_toArray, List.set_cons_zero, List.set_cons_succ]
              refine take_oneH 49 (i := 23) (v := .bool true) rfl rfl (by kernel_rfl) (by kernel_rfl) (by kernel_rfl) (fun _ _ _ h => h) (Or.inl ⟨by kernel_rfl, fun w hSw => by (go_simp)⟩) (by assumption) ?_
              simp only [Act.put, List.setIfInBounds_toArray, List.set_cons_zero, List.set_cons_succ]
              refine take_oneH 50 (i := 24) (v := .bool true) rfl rfl (by kernel_rfl) (by kernel_rfl) (by kernel_rfl) (fun _ _ _ h => h) (Or.inl ⟨by kernel_rfl, fun w hSw => by (go_simp)⟩) (by assumption) ?_
              simp only [Act.put, List.setIfInBounds_toArray, List.set_cons_zero, List.set_cons_succ]
              refine take_oneH 51 (i := 25) (v := undef) rfl rfl (by kernel_rfl) (by kernel_rfl) (by kernel_rfl) (fun _ _ _ h => h) (Or.inr ⟨by kernel_rfl, rfl⟩) (by assumption) ?_
              simp only [Act.put, List.setIfInBounds_toArray, List.set_cons_zero, List.set_cons_succ]
              refine take_oneH 52 (i := 26) (v := undef) rfl rfl (by kernel_rfl) (by kernel_rfl) (by kernel_rfl) (fun _ _ _ h => h) (Or.inr ⟨by kernel_rfl, rfl⟩) (by assumption) ?_
              simp only [Act.put, List.setIfInBounds_toArray, List.set_cons_zero, List.set_cons_succ]
              refine take_oneH 53 (i := 27) (v := undef) rfl rfl (by kernel_rfl) (by kernel_rfl) (by kernel_rfl) (fun _ _ _ h => h) (Or.inr ⟨by kernel_rfl, rfl⟩) (by assumption) ?_
              simp only [Act.put, List.setIfInBounds_toArray, List.set_cons_zero, List.set_cons_succ]
              refine take_oneH 54 (i := 28) (v := .bool true) rfl rfl (by kernel_rfl) (by kernel_rfl) (by kernel_rfl) (fun _ _ _ h => h) (Or.inl ⟨by kernel_rfl, fun w hSw => by (go_simp)⟩) (by assumption) ?_
              simp only [Act.put, List.setIfInBounds_toArray, List.set_cons_zero, List.set_cons_succ]
              refine wpAnyH_done (by kernel_rfl) ?_ _
              clear CNM
              go_wp2_with fail
              go_ret2
              exact ⟨by rw [HF.out]; rfl, HB.out.trans (HWB.out.mono HB.out.size)⟩
            · have g0 : 1 ≤ y.num := by omega
              clear g
              by_cases g : 65535 < y.num
              · have HF := Lib.hid (HNO.out (not_may_ok hl (by rw [HY.out]; exact fun e => absurd e.2.2 (by omega))))
                go_wp2_with fail
                refine wp_region_held_drew (S := fun w' => w'.cell? ⟨wr.heap.size, 0, none⟩ = some (.string y.name) ∧ w'.cell? ⟨wr.heap.size, 1, none⟩ = some (.int .i64 y.num)) (by kernel_rfl) HK.out (fun hHeld => ?_)
                refine take_oneH 26 (i := 0) (v := .pointer (some ⟨wr.heap.size, 0, none⟩)) rfl rfl (by kernel_rfl) (by kernel_rfl) (by kernel_rfl) (fun _ _ _ h => h) (Or.inl ⟨by kernel_rfl, fun w hSw => by (go_simp)⟩) (by assumption) ?_
                simp only [Act.put, List.setIfInBounds_toArray, List.set_cons_zero, List.set_cons_succ]
                refine take_oneH 27 (i := 1) (v := .string y.name) rfl rfl (by kernel_rfl) (by kernel_rfl) (by kernel_rfl) (fun _ _ _ h => h) (Or.inl ⟨by kernel_rfl, fun w hSw => by (go_simp)⟩) (by assumption) ?_
                simp only [Act.put, List.setIfInBounds_toArray, List.set_cons_zero, List.set_cons_succ]
                refine wpAnyH_ready (rs := [2]) (by kernel_rfl) (by simp) ?_
                refine AllReadyH.cons rfl (fun K hK => ?_) (AllReadyH.nil)
                go_simp
                go_at_call 12
                refine (CNM _).mono ?_
                rintro e v1 ⟨rfl, rfl⟩
                go_wp2_with fail
                refine hK.out _ _ HK.out (fun hHeld => ?_)
                clear hK K
                try simp only [Act.put, List.setIfInBounds_toArray, List.set_cons_zero, List.set_cons_succ]
                refine take_oneH 29 (i := 3) (v := .bool false) rfl rfl (by kernel_rfl) (by kernel_rfl) (by kernel_rfl) (fun _ _ _ h => h) (Or.inl ⟨by kernel_rfl, fun w hSw => by (go_simp)⟩) (by assumption) ?_
                simp only [Act.put, List.setIfInBounds_toArray, List.set_cons_zero, List.set_cons_succ]
                refine take_oneH 30 (i := 4) (v := .bool false) rfl rfl (by kernel_rfl) (by kernel_rfl) (by kernel_rfl) (fun _ _ _ h => h) (Or.inl ⟨by kernel_rfl, fun w hSw => by (go_simp)⟩) (by assumption) ?_
                simp only [Act.put, List.setIfInBounds_toArray, List.set_cons_zero, List.set_cons_succ]
                refine take_oneH 31 (i := 5) (v := .int .i64 ((j : Nat) : Int)) rfl rfl (by kernel_rfl) (by kernel_rfl) (by kernel_rfl) (fun _ _ _ h => h) (Or.inl ⟨by kernel_rfl, fun w hSw => by (go_simp)⟩) (by assumption) ?_
                simp only [Act.put, List.setIfInBounds_toArray, List.set_cons_zero, List.set_cons_succ]
                refine take_oneH 32 (i := 6) (v := .bool false) rfl rfl (by kernel_rfl) (by kernel_rfl) (by kernel_rfl) (fun _ _ _ h => h) (Or.inl ⟨by kernel_rfl, fun w hSw => by (go_simp)⟩) (by assumption) ?_
                simp only [Act.put, List.setIfInBounds_toArray, List.set_cons_zero, List.set_cons_succ]
                refine take_oneH 33 (i := 7) (v := .bool false) rfl rfl (by kernel_rfl) (by kernel_rfl) (by kernel_rfl) (fun _ _ _ h => h) (Or.inl ⟨by kernel_rfl, fun w hSw => by (go_simp)⟩) (by assumption) ?_
                simp only [Act.put, List.setIfInBounds_toArray, List.set_cons_zero, List.set_cons_succ]
                refine take_oneH 34 (i := 8) (v := undef) rfl rfl (by kernel_rfl) (by kernel_rfl) (by kernel_rfl) (fun _ _ _ h => h) (Or.inr ⟨by kernel_rfl, rfl⟩) (by assumption) ?_
                simp only [Act.put, List.setIfInBounds_toArray, List.set_cons_zero, List.set_cons_succ]
                refine take_oneH 35 (i := 9) (v := undef) rfl rfl (by kernel_rfl) (by kernel_rfl) (by kernel_rfl) (fun _ _ _ h => h) (Or.inr ⟨by kernel_rfl, rfl⟩) (by assumption) ?_
                simp only [Act.put, List.setIfInBounds_toArray, List.set_cons_zero, List.set_cons_succ]
                refine take_oneH 36 (i := 10) (v := undef) rfl rfl (by kernel_rfl) (by kernel_rfl) (by kernel_rfl) (fun _ _ _ h => h) (Or.inr ⟨by kernel_rfl, rfl⟩) (by assumption) ?_
                simp only [Act.put, List.setIfInBounds_toArray, List.set_cons_zero, List.set_cons_succ]
                refine take_oneH 37 (i := 11) (v := undef) rfl rfl (by kernel_rfl) (by kernel_rfl) (by kernel_rfl) (fun _ _ _ h => h) (Or.inr ⟨by kernel_rfl, rfl⟩) (by assumption) ?_
                simp only [Act.put, List.setIfInBounds_toArray, List.set_cons_zero, List.set_cons_succ]
                refine take_oneH 38 (i := 12) (v := undef) rfl rfl (by kernel_rfl) (by kernel_rfl) (by kernel_rfl) (fun _ _ _ h => h) (Or.inr ⟨by kernel_rfl, rfl⟩) (by assumption) ?_
                simp only [Act.put, List.setIfInBounds_toArray, List.set_cons_zero, List.set_cons_succ]
                refine take_oneH 39 (i := 13) (v := undef) rfl rfl (by kernel_rfl) (by kernel_rfl) (by kernel_rfl) (fun _ _ _ h => h) (Or.inr ⟨by kernel_rfl, rfl⟩) (by assumption) ?_
                simp only [Act.put, List.setIfInBounds_toArray, List.set_cons_zero, List.set_cons_succ]
                refine take_oneH 40 (i := 14) (v := undef) rfl rfl (by kernel_rfl) (by kernel_rfl) (by kernel_rfl) (fun _ _ _ h => h) (Or.inr ⟨by kernel_rfl, rfl⟩) (by assumption) ?_
                simp only [Act.put, List.setIfInBounds_toArray, List.set_cons_zero, List.set_cons_succ]
                refine take_oneH 41 (i := 15) (v := undef) rfl rfl (by kernel_rfl) (by kernel_rfl) (by kernel_rfl) (fun _ _ _ h => h) (Or.inr ⟨by kernel_rfl, rfl⟩) (by assumption) ?_
                simp only [Act.put, List.setIfInBounds_toArray, List.set_cons_zero, List.set_cons_succ]
                refine take_oneH 42 (i := 16) (v := undef) rfl rfl (by kernel_rfl) (by kernel_rfl) (by kernel_rfl) (fun _ _ _ h => h) (Or.inr ⟨by kernel_rfl, rfl⟩) (by assumption) ?_
                simp only [Act.put, List.setIfInBounds_toArray, List.set_cons_zero, List.set_cons_succ]
                refine take_oneH 43 (i := 17) (v := .bool false) rfl rfl (by kernel_rfl) (by kernel_rfl) (by kernel_rfl) (fun _ _ _ h => h) (Or.inl ⟨by kernel_rfl, fun w hSw => by (go_simp)⟩) (by assumption) ?_
                simp only [Act.put, List.setIfInBounds_toArray, List.set_cons_zero, List.set_cons_succ]
                refine take_oneH 44 (i := 18) (v := .bool false) rfl rfl (by kernel_rfl) (by kernel_rfl) (by kernel_rfl) (fun _ _ _ h => h) (Or.inl ⟨by kernel_rfl, fun w hSw => by (go_simp)⟩) (by assumption) ?_
                simp only [Act.put, List.setIfInBounds_toArray, List.set_cons_zero, List.set_cons_succ]
                refine take_oneH 45 (i := 19) (v := .bool false) rfl rfl (by kernel_rfl) (by kernel_rfl) (by kernel_rfl) (fun _ _ _ h => h) (Or.inl ⟨by kernel_rfl, fun w hSw => by (go_simp)⟩) (by assumption) ?_
                simp only [Act.put, List.setIfInBounds_toArray, List.set_cons_zero, List.set_cons_succ]
                refine take_oneH 46 (i := 20) (v := .pointer (some ⟨wr.heap.size, 1, none⟩)) rfl rfl (by kernel_rfl) (by kernel_rfl) (by kernel_rfl) (fun _ _ _ h => h) (Or.inl ⟨by kernel_rfl, fun w hSw => by (go_simp)⟩) (by assumption) ?_
                simp only [Act.put, List.setIfInBounds_toArray, List.set_cons_zero, List.set_cons_succ]
                refine take_oneH 47 (i := 21) (v := .int .i64 y.num) rfl rfl (by kernel_rfl) (by kernel_rfl) (by kernel_rfl) (fun _ _ _ h => h) (Or.inl ⟨by kernel_rfl, fun w hSw => by (go_simp)⟩) (by assumption) ?_
                simp only [Act.put, List.setIfInBounds_toArray, List.set_cons_zero, List.set_cons_succ]
                refine take_oneH 48 (i := 22) (v := .bool false) rfl rfl (by kernel_rfl) (by kernel_rfl) (by kernel_rfl) (fun _ _ _ h => h) (Or.inl ⟨by kernel_rfl, fun w hSw => by (go_simp)⟩) (by assumption) ?_
                simp only [Act.put, List.setIfInBounds_toArray, List.set_cons_zero, List.set_cons_succ]
                refine take_oneH 49 (i := 23) (v := .bool false) rfl rfl (by kernel_rfl) (by kernel_rfl) (by kernel_rfl) (fun _ _ _ h => h) (Or.inl ⟨by kernel_rfl, fun w hSw => by (go_simp)⟩) (by assumption) ?_
                simp only [Act.put, List.setIfInBounds_toArray, List.set_cons_zero, List.set_cons_succ]
                refine take_oneH 50 (i := 24) (v := .bool false) rfl rfl (by kernel_rfl) (by kernel_rfl) (by kernel_rfl) (fun _ _ _ h => h) (Or.inl ⟨by kernel_rfl, fun w hSw => by (go_simp)⟩) (by assumption) ?_
                simp only [Act.put, List.setIfInBounds_toArray, List.set_cons_zero, List.set_cons_succ]
                refine take_oneH 51 (i := 25) (v := .pointer (some ⟨wr.heap.size, 1, none⟩)) rfl rfl (by kernel_rfl) (by kernel_rfl) (by kernel_rfl) (fun _ _ _ h => h) (Or.inl ⟨by kernel_rfl, fun w hSw => by (go_simp)⟩) (by assumption) ?_
                simp only [Act.put, List.setIfInBounds_toArray, List.set_cons_zero, List.set_cons_succ]
                refine take_oneH 52 (i := 26) (v := .int .i64 y.num) rfl rfl (by kernel_rfl) (by kernel_rfl) (by kernel_rfl) (fun _ _ _ h => h) (Or.inl ⟨by kernel_rfl, fun w hSw => by (go_simp)⟩) (by assumption) ?_
                simp only [Act.put, List.setIfInBounds_toArray, List.set_cons_zero, List.set_cons_succ]
                refine take_oneH 53 (i := 27) (v := .bool true) rfl rfl (by kernel_rfl) (by kernel_rfl) (by kernel_rfl) (fun _ _ _ h => h) (Or.inl ⟨by kernel_rfl, fun w hSw => by (go_simp)⟩) (by assumption) ?_
                simp only [Act.put, List.setIfInBounds_toArray, List.set_cons_zero, List.set_cons_succ]
                refine take_oneH 54 (i := 28) (v := .bool true) rfl rfl (by kernel_rfl) (by kernel_rfl) (by kernel_rfl) (fun _ _ _ h => h) (Or.inl ⟨by kernel_rfl, fun w hSw => by (go_simp)⟩) (by assumption) ?_
                simp only [Act.put, List.setIfInBounds_toArray, List.set_cons_zero, List.set_cons_succ]
                refine wpAnyH_done (by kernel_rfl) ?_ _
                clear CNM
                go_wp2_with fail
                go_ret2
                exact ⟨by rw [HF.out]; rfl, HB.out.trans (HWB.out.mono HB.out.size)⟩
              · have g1 : y.num ≤ 65535 := by omega
                clear g
                have HOK := Lib.hid (show kE.ok y from ⟨(nameB_iff _).1 HQN.out, g0, g1⟩)
                go_wp2_with fail
                refine wp_region_held_drew (S := fun w' => w'.cell? ⟨wr.heap.size, 0, none⟩ = some (.string y.name) ∧ w'.cell? ⟨wr.heap.size, 1, none⟩ = some (.int .i64 y.num)) (by kernel_rfl) HK.out (fun hHeld => ?_)
                refine take_oneH 26 (i := 0) (v := .pointer (some ⟨wr.heap.size, 0, none⟩)) rfl rfl (by kernel_rfl) (by kernel_rfl) (by kernel_rfl) (fun _ _ _ h => h) (Or.inl ⟨by kernel_rfl, fun w hSw => by (go_simp)⟩) (by assumption) ?_
                simp only [Act.put, List.setIfInBounds_toArray, List.set_cons_zero, List.set_cons_succ]
                refine take_oneH 27 (i := 1) (v := .string y.name) rfl rfl (by kernel_rfl) (by kernel_rfl) (by kernel_rfl) (fun _ _ _ h => h) (Or.inl ⟨by kernel_rfl, fun w hSw => by (go_simp)⟩) (by assumption) ?_
                simp only [Act.put, List.setIfInBounds_toArray, List.set_cons_zero, List.set_cons_succ]
                refine wpAnyH_ready (rs := [2]) (by kernel_rfl) (by simp) ?_
                refine AllReadyH.cons rfl (fun K hK => ?_) (AllReadyH.nil)
                go_simp
                go_at_call 12
                refine (CNM _).mono ?_
                rintro e v1 ⟨rfl, rfl⟩
                go_wp2_with fail
                refine hK.out _ _ HK.out (fun hHeld => ?_)
                clear hK K
                try simp only [Act.put, List.setIfInBounds_toArray, List.set_cons_zero, List.set_cons_succ]
                refine take_oneH 29 (i := 3) (v := .bool false) rfl rfl (by kernel_rfl) (by kernel_rfl) (by kernel_rfl) (fun _ _ _ h => h) (Or.inl ⟨by kernel_rfl, fun w hSw => by (go_simp)⟩) (by assumption) ?_
                simp only [Act.put, List.setIfInBounds_toArray, List.set_cons_zero, List.set_cons_succ]
                refine take_oneH 30 (i := 4) (v := .bool false) rfl rfl (by kernel_rfl) (by kernel_rfl) (by kernel_rfl) (fun _ _ _ h => h) (Or.inl ⟨by kernel_rfl, fun w hSw => by (go_simp)⟩) (by assumption) ?_
                simp only [Act.put, List.setIfInBounds_toArray, List.set_cons_zero, List.set_cons_succ]
                refine take_oneH 31 (i := 5) (v := .int .i64 ((j : Nat) : Int)) rfl rfl (by kernel_rfl) (by kernel_rfl) (by kernel_rfl) (fun _ _ _ h => h) (Or.inl ⟨by kernel_rfl, fun w hSw => by (go_simp)⟩) (by assumption) ?_
                simp only [Act.put, List.setIfInBounds_toArray, List.set_cons_zero, List.set_cons_succ]
                refine take_oneH 32 (i := 6) (v := .bool false) rfl rfl (by kernel_rfl) (by kernel_rfl) (by kernel_rfl) (fun _ _ _ h => h) (Or.inl ⟨by kernel_rfl, fun w hSw => by (go_simp)⟩) (by assumption) ?_
                simp only [Act.put, List.setIfInBounds_toArray, List.set_cons_zero, List.set_cons_succ]
                refine take_oneH 33 (i := 7) (v := .bool false) rfl rfl (by kernel_rfl) (by kernel_rfl) (by kernel_rfl) (fun _ _ _ h => h) (Or.inl ⟨by kernel_rfl, fun w hSw => by (go_simp)⟩) (by assumption) ?_
                simp only [Act.put, List.setIfInBounds_toArray, List.set_cons_zero, List.set_cons_succ]
                refine take_oneH 34 (i := 8) (v := undef) rfl rfl (by kernel_rfl) (by kernel_rfl) (by kernel_rfl) (fun _ _ _ h => h) (Or.inr ⟨by kernel_rfl, rfl⟩) (by assumption) ?_
                simp only [Act.put, List.setIfInBounds_toArray, List.set_cons_zero, List.set_cons_succ]
                refine take_oneH 35 (i := 9) (v := undef) rfl rfl (by kernel_rfl) (by kernel_rfl) (by kernel_rfl) (fun _ _ _ h => h) (Or.inr ⟨by kernel_rfl, rfl⟩) (by assumption) ?_
                simp only [Act.put, List.setIfInBounds_toArray, List.set_cons_zero, List.set_cons_succ]
                refine take_oneH 36 (i := 10) (v := undef) rfl rfl (by kernel_rfl) (by kernel_rfl) (by kernel_rfl) (fun _ _ _ h => h) (Or.inr ⟨by kernel_rfl, rfl⟩) (by assumption) ?_
                simp only [Act.put, List.setIfInBounds_toArray, List.set_cons_zero, List.set_cons_succ]
                refine take_oneH 37 (i := 11) (v := undef) rfl rfl (by kernel_rfl) (by kernel_rfl) (by kernel_rfl) (fun _ _ _ h => h) (Or.inr ⟨by kernel_rfl, rfl⟩) (by assumption) ?_
                simp only [Act.put, List.setIfInBounds_toArray, List.set_cons_zero, List.set_cons_succ]
                refine take_oneH 38 (i := 12) (v := undef) rfl rfl (by kernel_rfl) (by kernel_rfl) (by kernel_rfl) (fun _ _ _ h => h) (Or.inr ⟨by kernel_rfl, rfl⟩) (by assumption) ?_
                simp only [Act.put, List.setIfInBounds_toArray, List.set_cons_zero, List.set_cons_succ]
                refine take_oneH 39 (i := 13) (v := undef) rfl rfl (by kernel_rfl) (by kernel_rfl) (by kernel_rfl) (fun _ _ _ h => h) (Or.inr ⟨by kernel_rfl, rfl⟩) (by assumption) ?_
                simp only [Act.put, List.setIfInBounds_toArray, List.set_cons_zero, List.set_cons_succ]
                refine take_oneH 40 (i := 14) (v := undef) rfl rfl (by kernel_rfl) (by kernel_rfl) (by kernel_rfl) (fun _ _ _ h => h) (Or.inr ⟨by kernel_rfl, rfl⟩) (by assumption) ?_
                simp only [Act.put, List.setIfInBounds_toArray, List.set_cons_zero, List.set_cons_succ]
                refine take_oneH 41 (i := 15) (v := undef) rfl rfl (by kernel_rfl) (by kernel_rfl) (by kernel_rfl) (fun _ _ _ h => h) (Or.inr ⟨by kernel_rfl, rfl⟩) (by assumption) ?_
                simp only [Act.put, List.setIfInBounds_toArray, List.set_cons_zero, List.set_cons_succ]
                refine take_oneH 42 (i := 16) (v := undef) rfl rfl (by kernel_rfl) (by kernel_rfl) (by kernel_rfl) (fun _ _ _ h => h) (Or.inr ⟨by kernel_rfl, rfl⟩) (by assumption) ?_
                simp only [Act.put, List.setIfInBounds_toArray, List.set_cons_zero, List.set_cons_succ]
                refine take_oneH 43 (i := 17) (v := .bool false) rfl rfl (by kernel_rfl) (by kernel_rfl) (by kernel_rfl) (fun _ _ _ h => h) (Or.inl ⟨by kernel_rfl, fun w hSw => by (go_simp)⟩) (by assumption) ?_
                simp only [Act.put, List.setIfInBounds_toArray, List.set_cons_zero, List.set_cons_succ]
                refine take_oneH 44 (i := 18) (v := .bool false) rfl rfl (by kernel_rfl) (by kernel_rfl) (by kernel_rfl) (fun _ _ _ h => h) (Or.inl ⟨by kernel_rfl, fun w hSw => by (go_simp)⟩) (by assumption) ?_
                simp only [Act.put, List.setIfInBounds_toArray, List.set_cons_zero, List.set_cons_succ]
                refine take_oneH 45 (i := 19) (v := .bool false) rfl rfl (by kernel_rfl) (by kernel_rfl) (by kernel_rfl) (fun _ _ _ h => h) (Or.inl ⟨by kernel_rfl, fun w hSw => by (go_simp)⟩) (by assumption) ?_
                simp only [Act.put, List.setIfInBounds_toArray, List.set_cons_zero, List.set_cons_succ]
                refine take_oneH 46 (i := 20) (v := .pointer (some ⟨wr.heap.size, 1, none⟩)) rfl rfl (by kernel_rfl) (by kernel_rfl) (by kernel_rfl) (fun _ _ _ h => h) (Or.inl ⟨by kernel_rfl, fun w hSw => by (go_simp)⟩) (by assumption) ?_
                simp only [Act.put, List.setIfInBounds_toArray, List.set_cons_zero, List.set_cons_succ]
                refine take_oneH 47 (i := 21) (v := .int .i64 y.num) rfl rfl (by kernel_rfl) (by kernel_rfl) (by kernel_rfl) (fun _ _ _ h => h) (Or.inl ⟨by kernel_rfl, fun w hSw => by (go_simp)⟩) (by assumption) ?_
                simp only [Act.put, List.setIfInBounds_toArray, List.set_cons_zero, List.set_cons_succ]
                refine take_oneH 48 (i := 22) (v := .bool false) rfl rfl (by kernel_rfl) (by kernel_rfl) (by kernel_rfl) (fun _ _ _ h => h) (Or.inl ⟨by kernel_rfl, fun w hSw => by (go_simp)⟩) (by assumption) ?_
                simp only [Act.put, List.setIfInBounds_toArray, List.set_cons_zero, List.set_cons_succ]
                refine take_oneH 49 (i := 23) (v := .bool false) rfl rfl (by kernel_rfl) (by kernel_rfl) (by kernel_rfl) (fun _ _ _ h => h) (Or.inl ⟨by kernel_rfl, fun w hSw => by (go_simp)⟩) (by assumption) ?_
                simp only [Act.put, List.setIfInBounds_toArray, List.set_cons_zero, List.set_cons_succ]
                refine take_oneH 50 (i := 24) (v := .bool false) rfl rfl (by kernel_rfl) (by kernel_rfl) (by kernel_rfl) (fun _ _ _ h => h) (Or.inl ⟨by kernel_rfl, fun w hSw => by (go_simp)⟩) (by assumption) ?_
                simp only [Act.put, List.setIfInBounds_toArray, List.set_cons_zero, List.set_cons_succ]
                refine take_oneH 51 (i := 25) (v := .pointer (some ⟨wr.heap.size, 1, none⟩)) rfl rfl (by kernel_rfl) (by kernel_rfl) (by kernel_rfl) (fun _ _ _ h => h) (Or.inl ⟨by kernel_rfl, fun w hSw => by (go_simp)⟩) (by assumption) ?_
                simp only [Act.put, List.setIfInBounds_toArray, List.set_cons_zero, List.set_cons_succ]
                refine take_oneH 52 (i := 26) (v := .int .i64 y.num) rfl rfl (by kernel_rfl) (by kernel_rfl) (by kernel_rfl) (fun _ _ _ h => h) (Or.inl ⟨by kernel_rfl, fun w hSw => by (go_simp)⟩) (by assumption) ?_
                simp only [Act.put, List.setIfInBounds_toArray, List.set_cons_zero, List.set_cons_succ]
                refine take_oneH 53 (i := 27) (v := .bool false) rfl rfl (by kernel_rfl) (by kernel_rfl) (by kernel_rfl) (fun _ _ _ h => h) (Or.inl ⟨by kernel_rfl, fun w hSw => by (go_simp)⟩) (by assumption) ?_
                simp only [Act.put, List.setIfInBounds_toArray, List.set_cons_zero, List.set_cons_succ]
                refine take_oneH 54 (i := 28) (v := .bool false) rfl rfl (by kernel_rfl) (by kernel_rfl) (by kernel_rfl) (fun _ _ _ h => h) (Or.inl ⟨by kernel_rfl, fun w hSw => by (go_simp)⟩) (by assumption) ?_
                simp only [Act.put, List.setIfInBounds_toArray, List.set_cons_zero, List.set_cons_succ]
                refine wpAnyH_done (by kernel_rfl) ?_ _
                clear CNM
                have hok : kE.ok l[j] := by rw [HY.out]; exact HOK.out
                have HE := Lib.hid (HM.out.succ hl hok HLT.out)
                clear hok
                have HRR := Lib.hid (HB.out.trans (HWB.out.mono HB.out.size))
                have hg : ∀ z ∈ [y.num], good z := by
                  intro z hz
                  simp only [List.mem_cons, List.not_mem_nil, or_false] at hz
                  obtain ⟨q0, q1, q2⟩ := HOK.out
                  subst hz; constructor <;> omega
                have CQ := rnums_new [y.num] (by simp) hg
                have hn16 : y.name.size ≤ 16 := HOK.out.1.2.1
                have CT := fun w => reftext_any y.name (by omega) w
                rw [textW_txt (by omega)] at CT
                have hEz : (txt y.name ++ layL ([y.num].map Int.toNat)).length ≤ 20 := entEnc_len HOK.out
                have HEQ := Lib.hid (show bs (txt y.name) ++ bs (layL ([y.num].map Int.toNat)) = bs (entEnc y) by rw [← bs_append]; rfl)
                simp only [List.length_cons, List.length_nil, Nat.reduceAdd] at CQ
                have hz1 : (bs (txt y.name)).size + (bs (layL ([y.num].map Int.toNat))).size ≤ 20 := by rw [bs_size, bs_size, ← List.length_append]; exact hEz
                obtain ⟨D, hD⟩ : ∃ D, bs (txt y.name) = D := ⟨_, rfl⟩
                obtain ⟨E, hE⟩ : ∃ E, bs (layL ([y.num].map Int.toNat)) = E := ⟨_, rfl⟩
                rw [hD] at CT HEQ hz1
                rw [hE] at CQ HEQ hz1
                simp only [List.map_cons, List.map_nil] at CQ
                have nsum : ¬ 9223372036854775807 < D.size + E.size := by omega
                have nsum2 : ¬ 9223372036854775807 < S.size + (D ++ E).size := by rw [ByteArray.size_append]; omega
                have nsum3 : ¬ 9223372036854775807 < S.size + (D.size + E.size) := by omega
                have HSZ := Lib.hid (show (S ++ (D ++ E)).size ≤ 2 + 20 * (j + 1) by rw [ByteArray.size_append, ByteArray.size_append]; omega)
                have HCQ := Lib.hid CQ
                clear hg CQ hD hE hEz hn16 hys hz1
                go_wp2_with fail
                refine (CT _).mono ?_
                rintro e w4 ⟨rfl, hB4⟩
                have HB4 := Lib.hid (HRR.out.trans (hB4.mono HRR.out.size))
                have hxx := (hB4.block _ (lt_of_heap (show u1.drew.heap[wr.heap.size]? = _ from HX.out))).trans (show u1.drew.heap[wr.heap.size]? = _ from HX.out)
                have e0 : w4.cell? ⟨wr.heap.size, 0, none⟩ = some (.string y.name) := by simp [World.cell?, hxx]
                have e1 : w4.cell? ⟨wr.heap.size, 1, none⟩ = some (.int .i64 y.num) := by simp [World.cell?, hxx]
                clear hB4 CT hxx
                go_wp2_with fail
                refine (HCQ.out _ _).mono ?_
                rintro e w5 ⟨rfl, hB5⟩
                have HB5 := Lib.hid (HB4.out.trans (hB5.mono HB4.out.size))
                clear hB5
                go_wp2_with fail
                go_roundw
                case rel => exact ⟨j + 1, S ++ (D ++ E), by omega, by go_num, rfl, HSZ.out, by rw [HS4.out, HTK.out, List.flatMap_append, HEQ.out, ← bs_append]; simp [kE], HE.out, HB5.out⟩
                case measure => simp [intOf]; omega
          · have hji1 : (0 : Int) < (j : Int) := by omega
            have hj1 : j - 1 < l.length := by omega
            have ej : (j : Int) - 1 = ((j - 1 : Nat) : Int) := by omega
            have hjn : 0 < j := by omega
            have ew : IntKind.i64.wrap ((j - 1 : Nat) : Int) = ((j - 1 : Nat) : Int) := wrap64 _ (by omega) (by omega)
            have ej0 : (0 : Int) ≤ ((j - 1 : Nat) : Int) := by omega
            have ejN : ((j - 1 : Nat) : Int) < (N : Int) := by omega
            obtain ⟨z, hz⟩ : ∃ z, l[j - 1] = z := ⟨_, rfl⟩
            have HZ := Lib.hid hz
            have HKA := Lib.hid (show (u1.drew.cell? ⟨wr.heap.size, 0, none⟩ = some (.string y.name) ∧ u1.drew.cell? ⟨wr.heap.size, 1, none⟩ = some (.int .i64 y.num)) ∧ (u1.drew.cell? ⟨b, off + (j - 1) * 2, none⟩ = some (.string z.name) ∧ u1.drew.cell? ⟨b, off + (j - 1) * 2 + 1, none⟩ = some (.int .i64 z.num)) from by
              have h := HCL.out u1.drew HWB.out (j - 1) hj1
              rw [HZ.out] at h
              exact ⟨HK.out, h⟩)
            clear hz hj0
            cases hA : Op.bytesLess y.name.toList z.name.toList with
            | true =>
              have HF := Lib.hid (HNO.out (not_may_lt hl (by omega) (by rw [HY.out, HZ.out]; exact fun e => absurd (e.symm.trans (bl_asymm _ _ hA)) (by decide))))
              go_wp2_with fail
              refine wp_region_held_drew (S := fun w' => (w'.cell? ⟨wr.heap.size, 0, none⟩ = some (.string y.name) ∧ w'.cell? ⟨wr.heap.size, 1, none⟩ = some (.int .i64 y.num)) ∧ (w'.cell? ⟨b, off + (j - 1) * 2, none⟩ = some (.string z.name) ∧ w'.cell? ⟨b, off + (j - 1) * 2 + 1, none⟩ = some (.int .i64 z.num))) (by kernel_rfl) HKA.out (fun hHeld => ?_)
              refine take_oneH 26 (i := 0) (v := .pointer (some ⟨wr.heap.size, 0, none⟩)) rfl rfl (by kernel_rfl) (by kernel_rfl) (by kernel_rfl) (fun _ _ _ h => h) (Or.inl ⟨by kernel_rfl, fun w hSw => by (go_simp)⟩) (by assumption) ?_
              simp only [Act.put, List.setIfInBounds_toArray, List.set_cons_zero, List.set_cons_succ]
              refine take_oneH 27 (i := 1) (v := .string y.name) rfl rfl (by kernel_rfl) (by kernel_rfl) (by kernel_rfl) (fun _ _ _ h => h) (Or.inl ⟨by kernel_rfl, fun w hSw => by (go_simp)⟩) (by assumption) ?_
              simp only [Act.put, List.setIfInBounds_toArray, List.set_cons_zero, List.set_cons_succ]
              refine wpAnyH_ready (rs := [2]) (by kernel_rfl) (by simp) ?_
              refine AllReadyH.cons rfl (fun K hK => ?_) (AllReadyH.nil)
              go_simp
              go_at_call 12
              refine (CNM _).mono ?_
              rintro e v1 ⟨rfl, rfl⟩
              go_wp2_with fail
              refine hK.out _ _ HKA.out (fun hHeld => ?_)
              clear hK K
              try simp only [Act.put, List.setIfInBounds_toArray, List.set_cons_zero, List.set_cons_succ]
              refine take_oneH 29 (i := 3) (v := .bool false) rfl rfl (by kernel_rfl) (by kernel_rfl) (by kernel_rfl) (fun _ _ _ h => h) (Or.inl ⟨by kernel_rfl, fun w hSw => by (go_simp)⟩) (by assumption) ?_
              simp only [Act.put, List.setIfInBounds_toArray, List.set_cons_zero, List.set_cons_succ]
              refine take_oneH 30 (i := 4) (v := .bool false) rfl rfl (by kernel_rfl) (by kernel_rfl) (by kernel_rfl) (fun _ _ _ h => h) (Or.inl ⟨by kernel_rfl, fun w hSw => by (go_simp)⟩) (by assumption) ?_
              simp only [Act.put, List.setIfInBounds_toArray, List.set_cons_zero, List.set_cons_succ]
              refine take_oneH 31 (i := 5) (v := .int .i64 ((j : Nat) : Int)) rfl rfl (by kernel_rfl) (by kernel_rfl) (by kernel_rfl) (fun _ _ _ h => h) (Or.inl ⟨by kernel_rfl, fun w hSw => by (go_simp)⟩) (by assumption) ?_
              simp only [Act.put, List.setIfInBounds_toArray, List.set_cons_zero, List.set_cons_succ]
              refine take_oneH 32 (i := 6) (v := .bool true) rfl rfl (by kernel_rfl) (by kernel_rfl) (by kernel_rfl) (fun _ _ _ h => h) (Or.inl ⟨by kernel_rfl, fun w hSw => by (go_simp)⟩) (by assumption) ?_
              simp only [Act.put, List.setIfInBounds_toArray, List.set_cons_zero, List.set_cons_succ]
              refine take_oneH 33 (i := 7) (v := .bool true) rfl rfl (by kernel_rfl) (by kernel_rfl) (by kernel_rfl) (fun _ _ _ h => h) (Or.inl ⟨by kernel_rfl, fun w hSw => by (go_simp)⟩) (by assumption) ?_
              simp only [Act.put, List.setIfInBounds_toArray, List.set_cons_zero, List.set_cons_succ]
              refine take_oneH 34 (i := 8) (v := .pointer (some ⟨wr.heap.size, 0, none⟩)) rfl rfl (by kernel_rfl) (by kernel_rfl) (by kernel_rfl) (fun _ _ _ h => h) (Or.inl ⟨by kernel_rfl, fun w hSw => by (go_simp)⟩) (by assumption) ?_
              simp only [Act.put, List.setIfInBounds_toArray, List.set_cons_zero, List.set_cons_succ]
              refine take_oneH 35 (i := 9) (v := .string y.name) rfl rfl (by kernel_rfl) (by kernel_rfl) (by kernel_rfl) (fun _ _ _ h => h) (Or.inl ⟨by kernel_rfl, fun w hSw => by (go_simp)⟩) (by assumption) ?_
              simp only [Act.put, List.setIfInBounds_toArray, List.set_cons_zero, List.set_cons_succ]
              refine take_oneH 36 (i := 10) (v := .slice (some ⟨b, off, none⟩) N cap) rfl rfl (by kernel_rfl) (by kernel_rfl) (by kernel_rfl) (fun _ _ _ h => h) (Or.inl ⟨by kernel_rfl, fun w hSw => by (go_simp)⟩) (by assumption) ?_
              simp only [Act.put, List.setIfInBounds_toArray, List.set_cons_zero, List.set_cons_succ]
              refine take_oneH 37 (i := 11) (v := .int .i64 ((j : Nat) : Int)) rfl rfl (by kernel_rfl) (by kernel_rfl) (by kernel_rfl) (fun _ _ _ h => h) (Or.inl ⟨by kernel_rfl, fun w hSw => by (go_simp)⟩) (by assumption) ?_
              simp only [Act.put, List.setIfInBounds_toArray, List.set_cons_zero, List.set_cons_succ]
              refine take_oneH 38 (i := 12) (v := .int .i64 ((j - 1 : Nat) : Int)) rfl rfl (by kernel_rfl) (by kernel_rfl) (by kernel_rfl) (fun _ _ _ h => h) (Or.inl ⟨by kernel_rfl, fun w hSw => by (go_simp)⟩) (by assumption) ?_
              simp only [Act.put, List.setIfInBounds_toArray, List.set_cons_zero, List.set_cons_succ]
              refine take_oneH 39 (i := 13) (v := .pointer (some ⟨b, off + (j - 1) * 2, none⟩)) rfl rfl (by kernel_rfl) (by kernel_rfl) (by kernel_rfl) (fun _ _ _ h => h) (Or.inl ⟨by kernel_rfl, fun w hSw => by (go_simp)⟩) (by assumption) ?_
              simp only [Act.put, List.setIfInBounds_toArray, List.set_cons_zero, List.set_cons_succ]
              refine take_oneH 40 (i := 14) (v := .pointer (some ⟨b, off + (j - 1) * 2, none⟩)) rfl rfl (by kernel_rfl) (by kernel_rfl) (by kernel_rfl) (fun _ _ _ h => h) (Or.inl ⟨by kernel_rfl, fun w hSw => by (go_simp)⟩) (by assumption) ?_
              simp only [Act.put, List.setIfInBounds_toArray, List.set_cons_zero, List.set_cons_succ]
              refine take_oneH 41 (i := 15) (v := .string z.name) rfl rfl (by kernel_rfl) (by kernel_rfl) (by kernel_rfl) (fun _ _ _ h => h) (Or.inl ⟨by kernel_rfl, fun w hSw => by (go_simp)⟩) (by assumption) ?_
              simp only [Act.put, List.setIfInBounds_toArray, List.set_cons_zero, List.set_cons_succ]
              refine take_oneH 42 (i := 16) (v := .bool true) rfl rfl (by kernel_rfl) (by kernel_rfl) (by kernel_rfl) (fun _ _ _ h => h) (Or.inl ⟨by kernel_rfl, fun w hSw => by (go_simp)⟩) (by assumption) ?_
              simp only [Act.put, List.setIfInBounds_toArray, List.set_cons_zero, List.set_cons_succ]
              refine take_oneH 43 (i := 17) (v := .bool true) rfl rfl (by kernel_rfl) (by kernel_rfl) (by kernel_rfl) (fun _ _ _ h => h) (Or.inl ⟨by kernel_rfl, fun w hSw => by (go_simp)⟩) (by assumption) ?_
              simp only [Act.put, List.setIfInBounds_toArray, List.set_cons_zero, List.set_cons_succ]
              refine take_oneH 44 (i := 18) (v := .bool true) rfl rfl (by kernel_rfl) (by kernel_rfl) (by kernel_rfl) (fun _ _ _ h => h) (Or.inl ⟨by kernel_rfl, fun w hSw => by (go_simp)⟩) (by assumption) ?_
              simp only [Act.put, List.setIfInBounds_toArray, List.set_cons_zero, List.set_cons_succ]
              refine take_oneH 45 (i := 19) (v := .bool true) rfl rfl (by kernel_rfl) (by kernel_rfl) (by kernel_rfl) (fun _ _ _ h => h) (Or.inl ⟨by kernel_rfl, fun w hSw => by (go_simp)⟩) (by assumption) ?_
              simp only [Act.put, List.setIfInBounds_toArray, List.set_cons_zero, List.set_cons_succ]
              refine take_oneH 46 (i := 20) (v := undef) rfl rfl (by kernel_rfl) (by kernel_rfl) (by kernel_rfl) (fun _ _ _ h => h) (Or.inr ⟨by kernel_rfl, rfl⟩) (by assumption) ?_
              simp only [Act.put, List.setIfInBounds_toArray, List.set_cons_zero, List.set_cons_succ]
              refine take_oneH 47 (i := 21) (v := undef) rfl rfl (by kernel_rfl) (by kernel_rfl) (by kernel_rfl) (fun _ _ _ h => h) (Or.inr ⟨by kernel_rfl, rfl⟩) (by assumption) ?_
              simp only [Act.put, List.setIfInBounds_toArray, List.set_cons_zero, List.set_cons_succ]
              refine take_oneH 48 (i := 22) (v := undef) rfl rfl (by kernel_rfl) (by kernel_rfl) (by kernel_rfl) (fun _ _ _ h => h) (Or.inr ⟨by kernel_rfl, rfl⟩) (by assumption) ?_
              simp only [Act.put, List.setIfInBounds_toArray, List.set_cons_zero, List.set_cons_succ]
              refine take_oneH 49 (i := 23) (v := .bool true) rfl rfl (by kernel_rfl) (by kernel_rfl) (by kernel_rfl) (fun _ _ _ h => h) (Or.inl ⟨by kernel_rfl, fun w hSw => by (go_simp)⟩) (by assumption) ?_
              simp only [Act.put, List.setIfInBounds_toArray, List.set_cons_zero, List.set_cons_succ]
              refine take_oneH 50 (i := 24) (v := .bool true) rfl rfl (by kernel_rfl) (by kernel_rfl) (by kernel_rfl) (fun _ _ _ h => h) (Or.inl ⟨by kernel_rfl, fun w hSw => by (go_simp)⟩) (by assumption) ?_
              simp only [Act.put, List.setIfInBounds_toArray, List.set_cons_zero, List.set_cons_succ]
              refine take_oneH 51 (i := 25) (v := undef) rfl rfl (by kernel_rfl) (by kernel_rfl) (by kernel_rfl) (fun _ _ _ h => h) (Or.inr ⟨by kernel_rfl, rfl⟩) (by assumption) ?_
              simp only [Act.put, List.setIfInBounds_toArray, List.set_cons_zero, List.set_cons_succ]
              refine take_oneH 52 (i := 26) (v := undef) rfl rfl (by kernel_rfl) (by kernel_rfl) (by kernel_rfl) (fun _ _ _ h => h) (Or.inr ⟨by kernel_rfl, rfl⟩) (by assumption) ?_
              simp only [Act.put, List.setIfInBounds_toArray, List.set_cons_zero, List.set_cons_succ]
              refine take_oneH 53 (i := 27) (v := undef) rfl rfl (by kernel_rfl) (by kernel_rfl) (by kernel_rfl) (fun _ _ _ h => h) (Or.inr ⟨by kernel_rfl, rfl⟩) (by assumption) ?_
              simp only [Act.put, List.setIfInBounds_toArray, List.set_cons_zero, List.set_cons_succ]
              refine take_oneH 54 (i := 28) (v := .bool true) rfl rfl (by kernel_rfl) (by kernel_rfl) (by kernel_rfl) (fun _ _ _ h => h) (Or.inl ⟨by kernel_rfl, fun w hSw => by (go_simp)⟩) (by assumption) ?_
              simp only [Act.put, List.setIfInBounds_toArray, List.set_cons_zero, List.set_cons_succ]
              refine wpAnyH_done (by kernel_rfl) ?_ _
              clear CNM
              go_wp2_with fail
              go_ret2
              exact ⟨by rw [HF.out]; rfl, HB.out.trans (HWB.out.mono HB.out.size)⟩
            | false =>
              cases hBq : (y.name.toList == z.name.toList) with
              | true =>
                have HF := Lib.hid (HNO.out (not_may_lt hl (by omega) (by rw [HY.out, HZ.out]; exact fun e => absurd (e.symm.trans (show Op.bytesLess z.name.toList y.name.toList = false by rw [eq_of_beq hBq]; exact bl_irrefl _)) (by decide))))
                go_wp2_with fail
                refine wp_region_held_drew (S := fun w' => (w'.cell? ⟨wr.heap.size, 0, none⟩ = some (.string y.name) ∧ w'.cell? ⟨wr.heap.size, 1, none⟩ = some (.int .i64 y.num)) ∧ (w'.cell? ⟨b, off + (j - 1) * 2, none⟩ = some (.string z.name) ∧ w'.cell? ⟨b, off + (j - 1) * 2 + 1, none⟩ = some (.int .i64 z.num))) (by kernel_rfl) HKA.out (fun hHeld => ?_)
                refine take_oneH 26 (i := 0) (v := .pointer (some ⟨wr.heap.size, 0, none⟩)) rfl rfl (by kernel_rfl) (by kernel_rfl) (by kernel_rfl) (fun _ _ _ h => h) (Or.inl ⟨by kernel_rfl, fun w hSw => by (go_simp)⟩) (by assumption) ?_
                simp only [Act.put, List.setIfInBounds_toArray, List.set_cons_zero, List.set_cons_succ]
                refine take_oneH 27 (i := 1) (v := .string y.name) rfl rfl (by kernel_rfl) (by kernel_rfl) (by kernel_rfl) (fun _ _ _ h => h) (Or.inl ⟨by kernel_rfl, fun w hSw => by (go_simp)⟩) (by assumption) ?_
                simp only [Act.put, List.setIfInBounds_toArray, List.set_cons_zero, List.set_cons_succ]
                refine wpAnyH_ready (rs := [2]) (by kernel_rfl) (by simp) ?_
                refine AllReadyH.cons rfl (fun K hK => ?_) (AllReadyH.nil)
                go_simp
                go_at_call 12
                refine (CNM _).mono ?_
                rintro e v1 ⟨rfl, rfl⟩
                go_wp2_with fail
                refine hK.out _ _ HKA.out (fun hHeld => ?_)
                clear hK K
                try simp only [Act.put, List.setIfInBounds_toArray, List.set_cons_zero, List.set_cons_succ]
                refine take_oneH 29 (i := 3) (v := .bool false) rfl rfl (by kernel_rfl) (by kernel_rfl) (by kernel_rfl) (fun _ _ _ h => h) (Or.inl ⟨by kernel_rfl, fun w hSw => by (go_simp)⟩) (by assumption) ?_
                simp only [Act.put, List.setIfInBounds_toArray, List.set_cons_zero, List.set_cons_succ]
                refine take_oneH 30 (i := 4) (v := .bool false) rfl rfl (by kernel_rfl) (by kernel_rfl) (by kernel_rfl) (fun _ _ _ h => h) (Or.inl ⟨by kernel_rfl, fun w hSw => by (go_simp)⟩) (by assumption) ?_
                simp only [Act.put, List.setIfInBounds_toArray, List.set_cons_zero, List.set_cons_succ]
                refine take_oneH 31 (i := 5) (v := .int .i64 ((j : Nat) : Int)) rfl rfl (by kernel_rfl) (by kernel_rfl) (by kernel_rfl) (fun _ _ _ h => h) (Or.inl ⟨by kernel_rfl, fun w hSw => by (go_simp)⟩) (by assumption) ?_
                simp only [Act.put, List.setIfInBounds_toArray, List.set_cons_zero, List.set_cons_succ]
                refine take_oneH 32 (i := 6) (v := .bool true) rfl rfl (by kernel_rfl) (by kernel_rfl) (by kernel_rfl) (fun _ _ _ h => h) (Or.inl ⟨by kernel_rfl, fun w hSw => by (go_simp)⟩) (by assumption) ?_
                simp only [Act.put, List.setIfInBounds_toArray, List.set_cons_zero, List.set_cons_succ]
                refine take_oneH 33 (i := 7) (v := .bool true) rfl rfl (by kernel_rfl) (by kernel_rfl) (by kernel_rfl) (fun _ _ _ h => h) (Or.inl ⟨by kernel_rfl, fun w hSw => by (go_simp)⟩) (by assumption) ?_
                simp only [Act.put, List.setIfInBounds_toArray, List.set_cons_zero, List.set_cons_succ]
                refine take_oneH 34 (i := 8) (v := .pointer (some ⟨wr.heap.size, 0, none⟩)) rfl rfl (by kernel_rfl) (by kernel_rfl) (by kernel_rfl) (fun _ _ _ h => h) (Or.inl ⟨by kernel_rfl, fun w hSw => by (go_simp)⟩) (by assumption) ?_
                simp only [Act.put, List.setIfInBounds_toArray, List.set_cons_zero, List.set_cons_succ]
                refine take_oneH 35 (i := 9) (v := .string y.name) rfl rfl (by kernel_rfl) (by kernel_rfl) (by kernel_rfl) (fun _ _ _ h => h) (Or.inl ⟨by kernel_rfl, fun w hSw => by (go_simp)⟩) (by assumption) ?_
                simp only [Act.put, List.setIfInBounds_toArray, List.set_cons_zero, List.set_cons_succ]
                refine take_oneH 36 (i := 10) (v := .slice (some ⟨b, off, none⟩) N cap) rfl rfl (by kernel_rfl) (by kernel_rfl) (by kernel_rfl) (fun _ _ _ h => h) (Or.inl ⟨by kernel_rfl, fun w hSw => by (go_simp)⟩) (by assumption) ?_
                simp only [Act.put, List.setIfInBounds_toArray, List.set_cons_zero, List.set_cons_succ]
                refine take_oneH 37 (i := 11) (v := .int .i64 ((j : Nat) : Int)) rfl rfl (by kernel_rfl) (by kernel_rfl) (by kernel_rfl) (fun _ _ _ h => h) (Or.inl ⟨by kernel_rfl, fun w hSw => by (go_simp)⟩) (by assumption) ?_
                simp only [Act.put, List.setIfInBounds_toArray, List.set_cons_zero, List.set_cons_succ]
                refine take_oneH 38 (i := 12) (v := .int .i64 ((j - 1 : Nat) : Int)) rfl rfl (by kernel_rfl) (by kernel_rfl) (by kernel_rfl) (fun _ _ _ h => h) (Or.inl ⟨by kernel_rfl, fun w hSw => by (go_simp)⟩) (by assumption) ?_
                simp only [Act.put, List.setIfInBounds_toArray, List.set_cons_zero, List.set_cons_succ]
                refine take_oneH 39 (i := 13) (v := .pointer (some ⟨b, off + (j - 1) * 2, none⟩)) rfl rfl (by kernel_rfl) (by kernel_rfl) (by kernel_rfl) (fun _ _ _ h => h) (Or.inl ⟨by kernel_rfl, fun w hSw => by (go_simp)⟩) (by assumption) ?_
                simp only [Act.put, List.setIfInBounds_toArray, List.set_cons_zero, List.set_cons_succ]
                refine take_oneH 40 (i := 14) (v := .pointer (some ⟨b, off + (j - 1) * 2, none⟩)) rfl rfl (by kernel_rfl) (by kernel_rfl) (by kernel_rfl) (fun _ _ _ h => h) (Or.inl ⟨by kernel_rfl, fun w hSw => by (go_simp)⟩) (by assumption) ?_
                simp only [Act.put, List.setIfInBounds_toArray, List.set_cons_zero, List.set_cons_succ]
                refine take_oneH 41 (i := 15) (v := .string z.name) rfl rfl (by kernel_rfl) (by kernel_rfl) (by kernel_rfl) (fun _ _ _ h => h) (Or.inl ⟨by kernel_rfl, fun w hSw => by (go_simp)⟩) (by assumption) ?_
                simp only [Act.put, List.setIfInBounds_toArray, List.set_cons_zero, List.set_cons_succ]
                refine take_oneH 42 (i := 16) (v := .bool true) rfl rfl (by kernel_rfl) (by kernel_rfl) (by kernel_rfl) (fun _ _ _ h => h) (Or.inl ⟨by kernel_rfl, fun w hSw => by (go_simp)⟩) (by assumption) ?_
                simp only [Act.put, List.setIfInBounds_toArray, List.set_cons_zero, List.set_cons_succ]
                refine take_oneH 43 (i := 17) (v := .bool true) rfl rfl (by kernel_rfl) (by kernel_rfl) (by kernel_rfl) (fun _ _ _ h => h) (Or.inl ⟨by kernel_rfl, fun w hSw => by (go_simp)⟩) (by assumption) ?_
                simp only [Act.put, List.setIfInBounds_toArray, List.set_cons_zero, List.set_cons_succ]
                refine take_oneH 44 (i := 18) (v := .bool true) rfl rfl (by kernel_rfl) (by kernel_rfl) (by kernel_rfl) (fun _ _ _ h => h) (Or.inl ⟨by kernel_rfl, fun w hSw => by (go_simp)⟩) (by assumption) ?_
                simp only [Act.put, List.setIfInBounds_toArray, List.set_cons_zero, List.set_cons_succ]
                refine take_oneH 45 (i := 19) (v := .bool true) rfl rfl (by kernel_rfl) (by kernel_rfl) (by kernel_rfl) (fun _ _ _ h => h) (Or.inl ⟨by kernel_rfl, fun w hSw => by (go_simp)⟩) (by assumption) ?_
                simp only [Act.put, List.setIfInBounds_toArray, List.set_cons_zero, List.set_cons_succ]
                refine take_oneH 46 (i := 20) (v := undef) rfl rfl (by kernel_rfl) (by kernel_rfl) (by kernel_rfl) (fun _ _ _ h => h) (Or.inr ⟨by kernel_rfl, rfl⟩) (by assumption) ?_
                simp only [Act.put, List.setIfInBounds_toArray, List.set_cons_zero, List.set_cons_succ]
                refine take_oneH 47 (i := 21) (v := undef) rfl rfl (by kernel_rfl) (by kernel_rfl) (by kernel_rfl) (fun _ _ _ h => h) (Or.inr ⟨by kernel_rfl, rfl⟩) (by assumption) ?_
                simp only [Act.put, List.setIfInBounds_toArray, List.set_cons_zero, List.set_cons_succ]
                refine take_oneH 48 (i := 22) (v := undef) rfl rfl (by kernel_rfl) (by kernel_rfl) (by kernel_rfl) (fun _ _ _ h => h) (Or.inr ⟨by kernel_rfl, rfl⟩) (by assumption) ?_
                simp only [Act.put, List.setIfInBounds_toArray, List.set_cons_zero, List.set_cons_succ]
                refine take_oneH 49 (i := 23) (v := .bool true) rfl rfl (by kernel_rfl) (by kernel_rfl) (by kernel_rfl) (fun _ _ _ h => h) (Or.inl ⟨by kernel_rfl, fun w hSw => by (go_simp)⟩) (by assumption) ?_
                simp only [Act.put, List.setIfInBounds_toArray, List.set_cons_zero, List.set_cons_succ]
                refine take_oneH 50 (i := 24) (v := .bool true) rfl rfl (by kernel_rfl) (by kernel_rfl) (by kernel_rfl) (fun _ _ _ h => h) (Or.inl ⟨by kernel_rfl, fun w hSw => by (go_simp)⟩) (by assumption) ?_
                simp only [Act.put, List.setIfInBounds_toArray, List.set_cons_zero, List.set_cons_succ]
                refine take_oneH 51 (i := 25) (v := undef) rfl rfl (by kernel_rfl) (by kernel_rfl) (by kernel_rfl) (fun _ _ _ h => h) (Or.inr ⟨by kernel_rfl, rfl⟩) (by assumption) ?_
                simp only [Act.put, List.setIfInBounds_toArray, List.set_cons_zero, List.set_cons_succ]
                refine take_oneH 52 (i := 26) (v := undef) rfl rfl (by kernel_rfl) (by kernel_rfl) (by kernel_rfl) (fun _ _ _ h => h) (Or.inr ⟨by kernel_rfl, rfl⟩) (by assumption) ?_
                simp only [Act.put, List.setIfInBounds_toArray, List.set_cons_zero, List.set_cons_succ]
                refine take_oneH 53 (i := 27) (v := undef) rfl rfl (by kernel_rfl) (by kernel_rfl) (by kernel_rfl) (fun _ _ _ h => h) (Or.inr ⟨by kernel_rfl, rfl⟩) (by assumption) ?_
                simp only [Act.put, List.setIfInBounds_toArray, List.set_cons_zero, List.set_cons_succ]
                refine take_oneH 54 (i := 28) (v := .bool true) rfl rfl (by kernel_rfl) (by kernel_rfl) (by kernel_rfl) (fun _ _ _ h => h) (Or.inl ⟨by kernel_rfl, fun w hSw => by (go_simp)⟩) (by assumption) ?_
                simp only [Act.put, List.setIfInBounds_toArray, List.set_cons_zero, List.set_cons_succ]
                refine wpAnyH_done (by kernel_rfl) ?_ _
                clear CNM
                go_wp2_with fail
                go_ret2
                exact ⟨by rw [HF.out]; rfl, HB.out.trans (HWB.out.mono HB.out.size)⟩
              | false =>
                have HLT := Lib.hid (show ∀ (_ : 0 < j), kE.lt (l[j - 1]'(by omega)) l[j] from fun _ => by rw [HY.out, HZ.out]; exact bl_total _ _ hA hBq)
                by_cases g : y.num < 1
                · have HF := Lib.hid (HNO.out (not_may_ok hl (by rw [HY.out]; exact fun e => absurd e.2.1 (by omega))))
                  go_wp2_with fail
                  refine wp_region_held_drew (S := fun w' => (w'.cell? ⟨wr.heap.size, 0, none⟩ = some (.string y.name) ∧ w'.cell? ⟨wr.heap.size, 1, none⟩ = some (.int .i64 y.num)) ∧ (w'.cell? ⟨b, off + (j - 1) * 2, none⟩ = some (.string z.name) ∧ w'.cell? ⟨b, off + (j - 1) * 2 + 1, none⟩ = some (.int .i64 z.num))) (by kernel_rfl) HKA.out (fun hHeld => ?_)
                  refine take_oneH 26 (i := 0) (v := .pointer (some ⟨wr.heap.size, 0, none⟩)) rfl rfl (by kernel_rfl) (by kernel_rfl) (by kernel_rfl) (fun _ _ _ h => h) (Or.inl ⟨by kernel_rfl, fun w hSw => by (go_simp)⟩) (by assumption) ?_
                  simp only [Act.put, List.setIfInBounds_toArray, List.set_cons_zero, List.set_cons_succ]
                  refine take_oneH 27 (i := 1) (v := .string y.name) rfl rfl (by kernel_rfl) (by kernel_rfl) (by kernel_rfl) (fun _ _ _ h => h) (Or.inl ⟨by kernel_rfl, fun w hSw => by (go_simp)⟩) (by assumption) ?_
                  simp only [Act.put, List.setIfInBounds_toArray, List.set_cons_zero, List.set_cons_succ]
                  refine wpAnyH_ready (rs := [2]) (by kernel_rfl) (by simp) ?_
                  refine AllReadyH.cons rfl (fun K hK => ?_) (AllReadyH.nil)
                  go_simp
                  go_at_call 12
                  refine (CNM _).mono ?_
                  rintro e v1 ⟨rfl, rfl⟩
                  go_wp2_with fail
                  refine hK.out _ _ HKA.out (fun hHeld => ?_)
                  clear hK K
                  try simp only [Act.put, List.setIfInBounds_toArray, List.set_cons_zero, List.set_cons_succ]
                  refine take_oneH 29 (i := 3) (v := .bool false) rfl rfl (by kernel_rfl) (by kernel_rfl) (by kernel_rfl) (fun _ _ _ h => h) (Or.inl ⟨by kernel_rfl, fun w hSw => by (go_simp)⟩) (by assumption) ?_
                  simp only [Act.put, List.setIfInBounds_toArray, List.set_cons_zero, List.set_cons_succ]
                  refine take_oneH 30 (i := 4) (v := .bool false) rfl rfl (by kernel_rfl) (by kernel_rfl) (by kernel_rfl) (fun _ _ _ h => h) (Or.inl ⟨by kernel_rfl, fun w hSw => by (go_simp)⟩) (by assumption) ?_
                  simp only [Act.put, List.setIfInBounds_toArray, List.set_cons_zero, List.set_cons_succ]
                  refine take_oneH 31 (i := 5) (v := .int .i64 ((j : Nat) : Int)) rfl rfl (by kernel_rfl) (by kernel_rfl) (by kernel_rfl) (fun _ _ _ h => h) (Or.inl ⟨by kernel_rfl, fun w hSw => by (go_simp)⟩) (by assumption) ?_
                  simp only [Act.put, List.setIfInBounds_toArray, List.set_cons_zero, List.set_cons_succ]
                  refine take_oneH 32 (i := 6) (v := .bool true) rfl rfl (by kernel_rfl) (by kernel_rfl) (by kernel_rfl) (fun _ _ _ h => h) (Or.inl ⟨by kernel_rfl, fun w hSw => by (go_simp)⟩) (by assumption) ?_
                  simp only [Act.put, List.setIfInBounds_toArray, List.set_cons_zero, List.set_cons_succ]
                  refine take_oneH 33 (i := 7) (v := .bool true) rfl rfl (by kernel_rfl) (by kernel_rfl) (by kernel_rfl) (fun _ _ _ h => h) (Or.inl ⟨by kernel_rfl, fun w hSw => by (go_simp)⟩) (by assumption) ?_
                  simp only [Act.put, List.setIfInBounds_toArray, List.set_cons_zero, List.set_cons_succ]
                  refine take_oneH 34 (i := 8) (v := .pointer (some ⟨wr.heap.size, 0, none⟩)) rfl rfl (by kernel_rfl) (by kernel_rfl) (by kernel_rfl) (fun _ _ _ h => h) (Or.inl ⟨by kernel_rfl, fun w hSw => by (go_simp)⟩) (by assumption) ?_
                  simp only [Act.put, List.setIfInBounds_toArray, List.set_cons_zero, List.set_cons_succ]
                  refine take_oneH 35 (i := 9) (v := .string y.name) rfl rfl (by kernel_rfl) (by kernel_rfl) (by kernel_rfl) (fun _ _ _ h => h) (Or.inl ⟨by kernel_rfl, fun w hSw => by (go_simp)⟩) (by assumption) ?_
                  simp only [Act.put, List.setIfInBounds_toArray, List.set_cons_zero, List.set_cons_succ]
                  refine take_oneH 36 (i := 10) (v := .slice (some ⟨b, off, none⟩) N cap) rfl rfl (by kernel_rfl) (by kernel_rfl) (by kernel_rfl) (fun _ _ _ h => h) (Or.inl ⟨by kernel_rfl, fun w hSw => by (go_simp)⟩) (by assumption) ?_
                  simp only [Act.put, List.setIfInBounds_toArray, List.set_cons_zero, List.set_cons_succ]
                  refine take_oneH 37 (i := 11) (v := .int .i64 ((j : Nat) : Int)) rfl rfl (by kernel_rfl) (by kernel_rfl) (by kernel_rfl) (fun _ _ _ h => h) (Or.inl ⟨by kernel_rfl, fun w hSw => by (go_simp)⟩) (by assumption) ?_
                  simp only [Act.put, List.setIfInBounds_toArray, List.set_cons_zero, List.set_cons_succ]
                  refine take_oneH 38 (i := 12) (v := .int .i64 ((j - 1 : Nat) : Int)) rfl rfl (by kernel_rfl) (by kernel_rfl) (by kernel_rfl) (fun _ _ _ h => h) (Or.inl ⟨by kernel_rfl, fun w hSw => by (go_simp)⟩) (by assumption) ?_
                  simp only [Act.put, List.setIfInBounds_toArray, List.set_cons_zero, List.set_cons_succ]
                  refine take_oneH 39 (i := 13) (v := .pointer (some ⟨b, off + (j - 1) * 2, none⟩)) rfl rfl (by kernel_rfl) (by kernel_rfl) (by kernel_rfl) (fun _ _ _ h => h) (Or.inl ⟨by kernel_rfl, fun w hSw => by (go_simp)⟩) (by assumption) ?_
                  simp only [Act.put, List.setIfInBounds_toArray, List.set_cons_zero, List.set_cons_succ]
                  refine take_oneH 40 (i := 14) (v := .pointer (some ⟨b, off + (j - 1) * 2, none⟩)) rfl rfl (by kernel_rfl) (by kernel_rfl) (by kernel_rfl) (fun _ _ _ h => h) (Or.inl ⟨by kernel_rfl, fun w hSw => by (go_simp)⟩) (by assumption) ?_
                  simp only [Act.put, List.setIfInBounds_toArray, List.set_cons_zero, List.set_cons_succ]
                  refine take_oneH 41 (i := 15) (v := .string z.name) rfl rfl (by kernel_rfl) (by kernel_rfl) (by kernel_rfl) (fun _ _ _ h => h) (Or.inl ⟨by kernel_rfl, fun w hSw => by (go_simp)⟩) (by assumption) ?_
                  simp only [Act.put, List.setIfInBounds_toArray, List.set_cons_zero, List.set_cons_succ]
                  refine take_oneH 42 (i := 16) (v := .bool false) rfl rfl (by kernel_rfl) (by kernel_rfl) (by kernel_rfl) (fun _ _ _ h => h) (Or.inl ⟨by kernel_rfl, fun w hSw => by (go_simp)⟩) (by assumption) ?_
                  simp only [Act.put, List.setIfInBounds_toArray, List.set_cons_zero, List.set_cons_succ]
                  refine take_oneH 43 (i := 17) (v := .bool false) rfl rfl (by kernel_rfl) (by kernel_rfl) (by kernel_rfl) (fun _ _ _ h => h) (Or.inl ⟨by kernel_rfl, fun w hSw => by (go_simp)⟩) (by assumption) ?_
                  simp only [Act.put, List.setIfInBounds_toArray, List.set_cons_zero, List.set_cons_succ]
                  refine take_oneH 44 (i := 18) (v := .bool false) rfl rfl (by kernel_rfl) (by kernel_rfl) (by kernel_rfl) (fun _ _ _ h => h) (Or.inl ⟨by kernel_rfl, fun w hSw => by (go_simp)⟩) (by assumption) ?_
                  simp only [Act.put, List.setIfInBounds_toArray, List.set_cons_zero, List.set_cons_succ]
                  refine take_oneH 45 (i := 19) (v := .bool false) rfl rfl (by kernel_rfl) (by kernel_rfl) (by kernel_rfl) (fun _ _ _ h => h) (Or.inl ⟨by kernel_rfl, fun w hSw => by (go_simp)⟩) (by assumption) ?_
                  simp only [Act.put, List.setIfInBounds_toArray, List.set_cons_zero, List.set_cons_succ]
                  refine take_oneH 46 (i := 20) (v := .pointer (some ⟨wr.heap.size, 1, none⟩)) rfl rfl (by kernel_rfl) (by kernel_rfl) (by kernel_rfl) (fun _ _ _ h => h) (Or.inl ⟨by kernel_rfl, fun w hSw => by (go_simp)⟩) (by assumption) ?_
                  simp only [Act.put, List.setIfInBounds_toArray, List.set_cons_zero, List.set_cons_succ]
                  refine take_oneH 47 (i := 21) (v := .int .i64 y.num) rfl rfl (by kernel_rfl) (by kernel_rfl) (by kernel_rfl) (fun _ _ _ h => h) (Or.inl ⟨by kernel_rfl, fun w hSw => by (go_simp)⟩) (by assumption) ?_
                  simp only [Act.put, List.setIfInBounds_toArray, List.set_cons_zero, List.set_cons_succ]
                  refine take_oneH 48 (i := 22) (v := .bool true) rfl rfl (by kernel_rfl) (by kernel_rfl) (by kernel_rfl) (fun _ _ _ h => h) (Or.inl ⟨by kernel_rfl, fun w hSw => by (go_simp)⟩) (by assumption) ?_
                  simp only [Act.put, List.setIfInBounds_toArray, List.set_cons_zero, List.set_cons_succ]
                  refine take_oneH 49 (i := 23) (v := .bool true) rfl rfl (by kernel_rfl) (by kernel_rfl) (by kernel_rfl) (fun _ _ _ h => h) (Or.inl ⟨by kernel_rfl, fun w hSw => by (go_simp)⟩) (by assumption) ?_
                  simp only [Act.put, List.setIfInBounds_toArray, List.set_cons_zero, List.set_cons_succ]
                  refine take_oneH 50 (i := 24) (v := .bool true) rfl rfl (by kernel_rfl) (by kernel_rfl) (by kernel_rfl) (fun _ _ _ h => h) (Or.inl ⟨by kernel_rfl, fun w hSw => by (go_simp)⟩) (by assumption) ?_
                  simp only [Act.put, List.setIfInBounds_toArray, List.set_cons_zero, List.set_cons_succ]
                  refine take_oneH 51 (i := 25) (v := undef) rfl rfl (by kernel_rfl) (by kernel_rfl) (by kernel_rfl) (fun _ _ _ h => h) (Or.inr ⟨by kernel_rfl, rfl⟩) (by assumption) ?_
                  simp only [Act.put, List.setIfInBounds_toArray, List.set_cons_zero, List.set_cons_succ]
                  refine take_oneH 52 (i := 26) (v := undef) rfl rfl (by kernel_rfl) (by kernel_rfl) (by kernel_rfl) (fun _ _ _ h => h) (Or.inr ⟨by kernel_rfl, rfl⟩) (by assumption) ?_
                  simp only [Act.put, List.setIfInBounds_toArray, List.set_cons_zero, List.set_cons_succ]
                  refine take_oneH 53 (i := 27) (v := undef) rfl rfl (by kernel_rfl) (by kernel_rfl) (by kernel_rfl) (fun _ _ _ h => h) (Or.inr ⟨by kernel_rfl, rfl⟩) (by assumption) ?_
                  simp only [Act.put, List.setIfInBounds_toArray, List.set_cons_zero, List.set_cons_succ]
                  refine take_oneH 54 (i := 28) (v := .bool true) rfl rfl (by kernel_rfl) (by kernel_rfl) (by kernel_rfl) (fun _ _ _ h => h) (Or.inl ⟨by kernel_rfl, fun w hSw => by (go_simp)⟩) (by assumption) ?_
                  simp only [Act.put, List.setIfInBounds_toArray, List.set_cons_zero, List.set_cons_succ]
                  refine wpAnyH_done (by kernel_rfl) ?_ _
                  clear CNM
                  go_wp2_with fail
                  go_ret2
                  exact ⟨by rw [HF.out]; rfl, HB.out.trans (HWB.out.mono HB.out.size)⟩
                · have g0 : 1 ≤ y.num := by omega
                  clear g
                  by_cases g : 65535 < y.num
                  · have HF := Lib.hid (HNO.out (not_may_ok hl (by rw [HY.out]; exact fun e => absurd e.2.2 (by omega))))
                    go_wp2_with fail
                    refine wp_region_held_drew (S := fun w' => (w'.cell? ⟨wr.heap.size, 0, none⟩ = some (.string y.name) ∧ w'.cell? ⟨wr.heap.size, 1, none⟩ = some (.int .i64 y.num)) ∧ (w'.cell? ⟨b, off + (j - 1) * 2, none⟩ = some (.string z.name) ∧ w'.cell? ⟨b, off + (j - 1) * 2 + 1, none⟩ = some (.int .i64 z.num))) (by kernel_rfl) HKA.out (fun hHeld => ?_)
                    refine take_oneH 26 (i := 0) (v := .pointer (some ⟨wr.heap.size, 0, none⟩)) rfl rfl (by kernel_rfl) (by kernel_rfl) (by kernel_rfl) (fun _ _ _ h => h) (Or.inl ⟨by kernel_rfl, fun w hSw => by (go_simp)⟩) (by assumption) ?_
                    simp only [Act.put, List.setIfInBounds_toArray, List.set_cons_zero, List.set_cons_succ]
                    refine take_oneH 27 (i := 1) (v := .string y.name) rfl rfl (by kernel_rfl) (by kernel_rfl) (by kernel_rfl) (fun _ _ _ h => h) (Or.inl ⟨by kernel_rfl, fun w hSw => by (go_simp)⟩) (by assumption) ?_
                    simp only [Act.put, List.setIfInBounds_toArray, List.set_cons_zero, List.set_cons_succ]
                    refine wpAnyH_ready (rs := [2]) (by kernel_rfl) (by simp) ?_
                    refine AllReadyH.cons rfl (fun K hK => ?_) (AllReadyH.nil)
                    go_simp
                    go_at_call 12
                    refine (CNM _).mono ?_
                    rintro e v1 ⟨rfl, rfl⟩
                    go_wp2_with fail
                    refine hK.out _ _ HKA.out (fun hHeld => ?_)
                    clear hK K
                    try simp only [Act.put, List.setIfInBounds_toArray, List.set_cons_zero, List.set_cons_succ]
                    refine take_oneH 29 (i := 3) (v := .bool false) rfl rfl (by kernel_rfl) (by kernel_rfl) (by kernel_rfl) (fun _ _ _ h => h) (Or.inl ⟨by kernel_rfl, fun w hSw => by (go_simp)⟩) (by assumption) ?_
                    simp only [Act.put, List.setIfInBounds_toArray, List.set_cons_zero, List.set_cons_succ]
                    refine take_oneH 30 (i := 4) (v := .bool false) rfl rfl (by kernel_rfl) (by kernel_rfl) (by kernel_rfl) (fun _ _ _ h => h) (Or.inl ⟨by kernel_rfl, fun w hSw => by (go_simp)⟩) (by assumption) ?_
                    simp only [Act.put, List.setIfInBounds_toArray, List.set_cons_zero, List.set_cons_succ]
                    refine take_oneH 31 (i := 5) (v := .int .i64 ((j : Nat) : Int)) rfl rfl (by kernel_rfl) (by kernel_rfl) (by kernel_rfl) (fun _ _ _ h => h) (Or.inl ⟨by kernel_rfl, fun w hSw => by (go_simp)⟩) (by assumption) ?_
                    simp only [Act.put, List.setIfInBounds_toArray, List.set_cons_zero, List.set_cons_succ]
                    refine take_oneH 32 (i := 6) (v := .bool true) rfl rfl (by kernel_rfl) (by kernel_rfl) (by kernel_rfl) (fun _ _ _ h => h) (Or.inl ⟨by kernel_rfl, fun w hSw => by (go_simp)⟩) (by assumption) ?_
                    simp only [Act.put, List.setIfInBounds_toArray, List.set_cons_zero, List.set_cons_succ]
                    refine take_oneH 33 (i := 7) (v := .bool true) rfl rfl (by kernel_rfl) (by kernel_rfl) (by kernel_rfl) (fun _ _ _ h => h) (Or.inl ⟨by kernel_rfl, fun w hSw => by (go_simp)⟩) (by assumption) ?_
                    simp only [Act.put, List.setIfInBounds_toArray, List.set_cons_zero, List.set_cons_succ]
                    refine take_oneH 34 (i := 8) (v := .pointer (some ⟨wr.heap.size, 0, none⟩)) rfl rfl (by kernel_rfl) (by kernel_rfl) (by kernel_rfl) (fun _ _ _ h => h) (Or.inl ⟨by kernel_rfl, fun w hSw => by (go_simp)⟩) (by assumption) ?_
                    simp only [Act.put, List.setIfInBounds_toArray, List.set_cons_zero, List.set_cons_succ]
                    refine take_oneH 35 (i := 9) (v := .string y.name) rfl rfl (by kernel_rfl) (by kernel_rfl) (by kernel_rfl) (fun _ _ _ h => h) (Or.inl ⟨by kernel_rfl, fun w hSw => by (go_simp)⟩) (by assumption) ?_
                    simp only [Act.put, List.setIfInBounds_toArray, List.set_cons_zero, List.set_cons_succ]
                    refine take_oneH 36 (i := 10) (v := .slice (some ⟨b, off, none⟩) N cap) rfl rfl (by kernel_rfl) (by kernel_rfl) (by kernel_rfl) (fun _ _ _ h => h) (Or.inl ⟨by kernel_rfl, fun w hSw => by (go_simp)⟩) (by assumption) ?_
                    simp only [Act.put, List.setIfInBounds_toArray, List.set_cons_zero, List.set_cons_succ]
                    refine take_oneH 37 (i := 11) (v := .int .i64 ((j : Nat) : Int)) rfl rfl (by kernel_rfl) (by kernel_rfl) (by kernel_rfl) (fun _ _ _ h => h) (Or.inl ⟨by kernel_rfl, fun w hSw => by (go_simp)⟩) (by assumption) ?_
                    simp only [Act.put, List.setIfInBounds_toArray, List.set_cons_zero, List.set_cons_succ]
                    refine take_oneH 38 (i := 12) (v := .int .i64 ((j - 1 : Nat) : Int)) rfl rfl (by kernel_rfl) (by kernel_rfl) (by kernel_rfl) (fun _ _ _ h => h) (Or.inl ⟨by kernel_rfl, fun w hSw => by (go_simp)⟩) (by assumption) ?_
                    simp only [Act.put, List.setIfInBounds_toArray, List.set_cons_zero, List.set_cons_succ]
                    refine take_oneH 39 (i := 13) (v := .pointer (some ⟨b, off + (j - 1) * 2, none⟩)) rfl rfl (by kernel_rfl) (by kernel_rfl) (by kernel_rfl) (fun _ _ _ h => h) (Or.inl ⟨by kernel_rfl, fun w hSw => by (go_simp)⟩) (by assumption) ?_
                    simp only [Act.put, List.setIfInBounds_toArray, List.set_cons_zero, List.set_cons_succ]
                    refine take_oneH 40 (i := 14) (v := .pointer (some ⟨b, off + (j - 1) * 2, none⟩)) rfl rfl (by kernel_rfl) (by kernel_rfl) (by kernel_rfl) (fun _ _ _ h => h) (Or.inl ⟨by kernel_rfl, fun w hSw => by (go_simp)⟩) (by assumption) ?_
                    simp only [Act.put, List.setIfInBounds_toArray, List.set_cons_zero, List.set_cons_succ]
                    refine take_oneH 41 (i := 15) (v := .string z.name) rfl rfl (by kernel_rfl) (by kernel_rfl) (by kernel_rfl) (fun _ _ _ h => h) (Or.inl ⟨by kernel_rfl, fun w hSw => by (go_simp)⟩) (by assumption) ?_
                    simp only [Act.put, List.setIfInBounds_toArray, List.set_cons_zero, List.set_cons_succ]
                    refine take_oneH 42 (i := 16) (v := .bool false) rfl rfl (by kernel_rfl) (by kernel_rfl) (by kernel_rfl) (fun _ _ _ h => h) (Or.inl ⟨by kernel_rfl, fun w hSw => by (go_simp)⟩) (by assumption) ?_
                    simp only [Act.put, List.setIfInBounds_toArray, List.set_cons_zero, List.set_cons_succ]
                    refine take_oneH 43 (i := 17) (v := .bool false) rfl rfl (by kernel_rfl) (by kernel_rfl) (by kernel_rfl) (fun _ _ _ h => h) (Or.inl ⟨by kernel_rfl, fun w hSw => by (go_simp)⟩) (by assumption) ?_
                    simp only [Act.put, List.setIfInBounds_toArray, List.set_cons_zero, List.set_cons_succ]
                    refine take_oneH 44 (i := 18) (v := .bool false) rfl rfl (by kernel_rfl) (by kernel_rfl) (by kernel_rfl) (fun _ _ _ h => h) (Or.inl ⟨by kernel_rfl, fun w hSw => by (go_simp)⟩) (by assumption) ?_
                    simp only [Act.put, List.setIfInBounds_toArray, List.set_cons_zero, List.set_cons_succ]
                    refine take_oneH 45 (i := 19) (v := .bool false) rfl rfl (by kernel_rfl) (by kernel_rfl) (by kernel_rfl) (fun _ _ _ h => h) (Or.inl ⟨by kernel_rfl, fun w hSw => by (go_simp)⟩) (by assumption) ?_
                    simp only [Act.put, List.setIfInBounds_toArray, List.set_cons_zero, List.set_cons_succ]
                    refine take_oneH 46 (i := 20) (v := .pointer (some ⟨wr.heap.size, 1, none⟩)) rfl rfl (by kernel_rfl) (by kernel_rfl) (by kernel_rfl) (fun _ _ _ h => h) (Or.inl ⟨by kernel_rfl, fun w hSw => by (go_simp)⟩) (by assumption) ?_
                    simp only [Act.put, List.setIfInBounds_toArray, List.set_cons_zero, List.set_cons_succ]
                    refine take_oneH 47 (i := 21) (v := .int .i64 y.num) rfl rfl (by kernel_rfl) (by kernel_rfl) (by kernel_rfl) (fun _ _ _ h => h) (Or.inl ⟨by kernel_rfl, fun w hSw => by (go_simp)⟩) (by assumption) ?_
                    simp only [Act.put, List.setIfInBounds_toArray, List.set_cons_zero, List.set_cons_succ]
                    refine take_oneH 48 (i := 22) (v := .bool false) rfl rfl (by kernel_rfl) (by kernel_rfl) (by kernel_rfl) (fun _ _ _ h => h) (Or.inl ⟨by kernel_rfl, fun w hSw => by (go_simp)⟩) (by assumption) ?_
                    simp only [Act.put, List.setIfInBounds_toArray, List.set_cons_zero, List.set_cons_succ]
                    refine take_oneH 49 (i := 23) (v := .bool false) rfl rfl (by kernel_rfl) (by kernel_rfl) (by kernel_rfl) (fun _ _ _ h => h) (Or.inl ⟨by kernel_rfl, fun w hSw => by (go_simp)⟩) (by assumption) ?_
                    simp only [Act.put, List.setIfInBounds_toArray, List.set_cons_zero, List.set_cons_succ]
                    refine take_oneH 50 (i := 24) (v := .bool false) rfl rfl (by kernel_rfl) (by kernel_rfl) (by kernel_rfl) (fun _ _ _ h => h) (Or.inl ⟨by kernel_rfl, fun w hSw => by (go_simp)⟩) (by assumption) ?_
                    simp only [Act.put, List.setIfInBounds_toArray, List.set_cons_zero, List.set_cons_succ]
                    refine take_oneH 51 (i := 25) (v := .pointer (some ⟨wr.heap.size, 1, none⟩)) rfl rfl (by kernel_rfl) (by kernel_rfl) (by kernel_rfl) (fun _ _ _ h => h) (Or.inl ⟨by kernel_rfl, fun w hSw => by (go_simp)⟩) (by assumption) ?_
                    simp only [Act.put, List.setIfInBounds_toArray, List.set_cons_zero, List.set_cons_succ]
                    refine take_oneH 52 (i := 26) (v := .int .i64 y.num) rfl rfl (by kernel_rfl) (by kernel_rfl) (by kernel_rfl) (fun _ _ _ h => h) (Or.inl ⟨by kernel_rfl, fun w hSw => by (go_simp)⟩) (by assumption) ?_
                    simp only [Act.put, List.setIfInBounds_toArray, List.set_cons_zero, List.set_cons_succ]
                    refine take_oneH 53 (i := 27) (v := .bool true) rfl rfl (by kernel_rfl) (by kernel_rfl) (by kernel_rfl) (fun _ _ _ h => h) (Or.inl ⟨by kernel_rfl, fun w hSw => by (go_simp)⟩) (by assumption) ?_
                    simp only [Act.put, List.setIfInBounds_toArray, List.set_cons_zero, List.set_cons_succ]
                    refine take_oneH 54 (i := 28) (v := .bool true) rfl rfl (by kernel_rfl) (by kernel_rfl) (by kernel_rfl) (fun _ _ _ h => h) (Or.inl ⟨by kernel_rfl, fun w hSw => by (go_simp)⟩) (by assumption) ?_
                    simp only [Act.put, List.setIfInBounds_toArray, List.set_cons_zero, List.set_cons_succ]
                    refine wpAnyH_done (by kernel_rfl) ?_ _
                    clear CNM
                    go_wp2_with fail
                    go_ret2
                    exact ⟨by rw [HF.out]; rfl, HB.out.trans (HWB.out.mono HB.out.size)⟩
                  · have g1 : y.num ≤ 65535 := by omega
                    clear g
                    have HOK := Lib.hid (show kE.ok y from ⟨(nameB_iff _).1 HQN.out, g0, g1⟩)
                    go_wp2_with fail
                    refine wp_region_held_drew (S := fun w' => (w'.cell? ⟨wr.heap.size, 0, none⟩ = some (.string y.name) ∧ w'.cell? ⟨wr.heap.size, 1, none⟩ = some (.int .i64 y.num)) ∧ (w'.cell? ⟨b, off + (j - 1) * 2, none⟩ = some (.string z.name) ∧ w'.cell? ⟨b, off + (j - 1) * 2 + 1, none⟩ = some (.int .i64 z.num))) (by kernel_rfl) HKA.out (fun hHeld => ?_)
                    refine take_oneH 26 (i := 0) (v := .pointer (some ⟨wr.heap.size, 0, none⟩)) rfl rfl (by kernel_rfl) (by kernel_rfl) (by kernel_rfl) (fun _ _ _ h => h) (Or.inl ⟨by kernel_rfl, fun w hSw => by (go_simp)⟩) (by assumption) ?_
                    simp only [Act.put, List.setIfInBounds_toArray, List.set_cons_zero, List.set_cons_succ]
                    refine take_oneH 27 (i := 1) (v := .string y.name) rfl rfl (by kernel_rfl) (by kernel_rfl) (by kernel_rfl) (fun _ _ _ h => h) (Or.inl ⟨by kernel_rfl, fun w hSw => by (go_simp)⟩) (by assumption) ?_
                    simp only [Act.put, List.setIfInBounds_toArray, List.set_cons_zero, List.set_cons_succ]
                    refine wpAnyH_ready (rs := [2]) (by kernel_rfl) (by simp) ?_
                    refine AllReadyH.cons rfl (fun K hK => ?_) (AllReadyH.nil)
                    go_simp
                    go_at_call 12
                    refine (CNM _).mono ?_
                    rintro e v1 ⟨rfl, rfl⟩
                    go_wp2_with fail
                    refine hK.out _ _ HKA.out (fun hHeld => ?_)
                    clear hK K
                    try simp only [Act.put, List.setIfInBounds_toArray, List.set_cons_zero, List.set_cons_succ]
                    refine take_oneH 29 (i := 3) (v := .bool false) rfl rfl (by kernel_rfl) (by kernel_rfl) (by kernel_rfl) (fun _ _ _ h => h) (Or.inl ⟨by kernel_rfl, fun w hSw => by (go_simp)⟩) (by assumption) ?_
                    simp only [Act.put, List.setIfInBounds_toArray, List.set_cons_zero, List.set_cons_succ]
                    refine take_oneH 30 (i := 4) (v := .bool false) rfl rfl (by kernel_rfl) (by kernel_rfl) (by kernel_rfl) (fun _ _ _ h => h) (Or.inl ⟨by kernel_rfl, fun w hSw => by (go_simp)⟩) (by assumption) ?_
                    simp only [Act.put, List.setIfInBounds_toArray, List.set_cons_zero, List.set_cons_succ]
                    refine take_oneH 31 (i := 5) (v := .int .i64 ((j : Nat) : Int)) rfl rfl (by kernel_rfl) (by kernel_rfl) (by kernel_rfl) (fun _ _ _ h => h) (Or.inl ⟨by kernel_rfl, fun w hSw => by (go_simp)⟩) (by assumption) ?_
                    simp only [Act.put, List.setIfInBounds_toArray, List.set_cons_zero, List.set_cons_succ]
                    refine take_oneH 32 (i := 6) (v := .bool true) rfl rfl (by kernel_rfl) (by kernel_rfl) (by kernel_rfl) (fun _ _ _ h => h) (Or.inl ⟨by kernel_rfl, fun w hSw => by (go_simp)⟩) (by assumption) ?_
                    simp only [Act.put, List.setIfInBounds_toArray, List.set_cons_zero, List.set_cons_succ]
                    refine take_oneH 33 (i := 7) (v := .bool true) rfl rfl (by kernel_rfl) (by kernel_rfl) (by kernel_rfl) (fun _ _ _ h => h) (Or.inl ⟨by kernel_rfl, fun w hSw => by (go_simp)⟩) (by assumption) ?_
                    simp only [Act.put, List.setIfInBounds_toArray, List.set_cons_zero, List.set_cons_succ]
                    refine take_oneH 34 (i := 8) (v := .pointer (some ⟨wr.heap.size, 0, none⟩)) rfl rfl (by kernel_rfl) (by kernel_rfl) (by kernel_rfl) (fun _ _ _ h => h) (Or.inl ⟨by kernel_rfl, fun w hSw => by (go_simp)⟩) (by assumption) ?_
                    simp only [Act.put, List.setIfInBounds_toArray, List.set_cons_zero, List.set_cons_succ]
                    refine take_oneH 35 (i := 9) (v := .string y.name) rfl rfl (by kernel_rfl) (by kernel_rfl) (by kernel_rfl) (fun _ _ _ h => h) (Or.inl ⟨by kernel_rfl, fun w hSw => by (go_simp)⟩) (by assumption) ?_
                    simp only [Act.put, List.setIfInBounds_toArray, List.set_cons_zero, List.set_cons_succ]
                    refine take_oneH 36 (i := 10) (v := .slice (some ⟨b, off, none⟩) N cap) rfl rfl (by kernel_rfl) (by kernel_rfl) (by kernel_rfl) (fun _ _ _ h => h) (Or.inl ⟨by kernel_rfl, fun w hSw => by (go_simp)⟩) (by assumption) ?_
                    simp only [Act.put, List.setIfInBounds_toArray, List.set_cons_zero, List.set_cons_succ]
                    refine take_oneH 37 (i := 11) (v := .int .i64 ((j : Nat) : Int)) rfl rfl (by kernel_rfl) (by kernel_rfl) (by kernel_rfl) (fun _ _ _ h => h) (Or.inl ⟨by kernel_rfl, fun w hSw => by (go_simp)⟩) (by assumption) ?_
                    simp only [Act.put, List.setIfInBounds_toArray, List.set_cons_zero, List.set_cons_succ]
                    refine take_oneH 38 (i := 12) (v := .int .i64 ((j - 1 : Nat) : Int)) rfl rfl (by kernel_rfl) (by kernel_rfl) (by kernel_rfl) (fun _ _ _ h => h) (Or.inl ⟨by kernel_rfl, fun w hSw => by (go_simp)⟩) (by assumption) ?_
                    simp only [Act.put, List.setIfInBounds_toArray, List.set_cons_zero, List.set_cons_succ]
                    refine take_oneH 39 (i := 13) (v := .pointer (some ⟨b, off + (j - 1) * 2, none⟩)) rfl rfl (by kernel_rfl) (by kernel_rfl) (by kernel_rfl) (fun _ _ _ h => h) (Or.inl ⟨by kernel_rfl, fun w hSw => by (go_simp)⟩) (by assumption) ?_
                    simp only [Act.put, List.setIfInBounds_toArray, List.set_cons_zero, List.set_cons_succ]
                    refine take_oneH 40 (i := 14) (v := .pointer (some ⟨b, off + (j - 1) * 2, none⟩)) rfl rfl (by kernel_rfl) (by kernel_rfl) (by kernel_rfl) (fun _ _ _ h => h) (Or.inl ⟨by kernel_rfl, fun w hSw => by (go_simp)⟩) (by assumption) ?_
                    simp only [Act.put, List.setIfInBounds_toArray, List.set_cons_zero, List.set_cons_succ]
                    refine take_oneH 41 (i := 15) (v := .string z.name) rfl rfl (by kernel_rfl) (by kernel_rfl) (by kernel_rfl) (fun _ _ _ h => h) (Or.inl ⟨by kernel_rfl, fun w hSw => by (go_simp)⟩) (by assumption) ?_
                    simp only [Act.put, List.setIfInBounds_toArray, List.set_cons_zero, List.set_cons_succ]
                    refine take_oneH 42 (i := 16) (v := .bool false) rfl rfl (by kernel_rfl) (by kernel_rfl) (by kernel_rfl) (fun _ _ _ h => h) (Or.inl ⟨by kernel_rfl, fun w hSw => by (go_simp)⟩) (by assumption) ?_
                    simp only [Act.put, List.setIfInBounds_toArray, List.set_cons_zero, List.set_cons_succ]
                    refine take_oneH 43 (i := 17) (v := .bool false) rfl rfl (by kernel_rfl) (by kernel_rfl) (by kernel_rfl) (fun _ _ _ h => h) (Or.inl ⟨by kernel_rfl, fun w hSw => by (go_simp)⟩) (by assumption) ?_
                    simp only [Act.put, List.setIfInBounds_toArray, List.set_cons_zero, List.set_cons_succ]
                    refine take_oneH 44 (i := 18) (v := .bool false) rfl rfl (by kernel_rfl) (by kernel_rfl) (by kernel_rfl) (fun _ _ _ h => h) (Or.inl ⟨by kernel_rfl, fun w hSw => by (go_simp)⟩) (by assumption) ?_
                    simp only [Act.put, List.setIfInBounds_toArray, List.set_cons_zero, List.set_cons_succ]
                    refine take_oneH 45 (i := 19) (v := .bool false) rfl rfl (by kernel_rfl) (by kernel_rfl) (by kernel_rfl) (fun _ _ _ h => h) (Or.inl ⟨by kernel_rfl, fun w hSw => by (go_simp)⟩) (by assumption) ?_
                    simp only [Act.put, List.setIfInBounds_toArray, List.set_cons_zero, List.set_cons_succ]
                    refine take_oneH 46 (i := 20) (v := .pointer (some ⟨wr.heap.size, 1, none⟩)) rfl rfl (by kernel_rfl) (by kernel_rfl) (by kernel_rfl) (fun _ _ _ h => h) (Or.inl ⟨by kernel_rfl, fun w hSw => by (go_simp)⟩) (by assumption) ?_
                    simp only [Act.put, List.setIfInBounds_toArray, List.set_cons_zero, List.set_cons_succ]
                    refine take_oneH 47 (i := 21) (v := .int .i64 y.num) rfl rfl (by kernel_rfl) (by kernel_rfl) (by kernel_rfl) (fun _ _ _ h => h) (Or.inl ⟨by kernel_rfl, fun w hSw => by (go_simp)⟩) (by assumption) ?_
                    simp only [Act.put, List.setIfInBounds_toArray, List.set_cons_zero, List.set_cons_succ]
                    refine take_oneH 48 (i := 22) (v := .bool false) rfl rfl (by kernel_rfl) (by kernel_rfl) (by kernel_rfl) (fun _ _ _ h => h) (Or.inl ⟨by kernel_rfl, fun w hSw => by (go_simp)⟩) (by assumption) ?_
                    simp only [Act.put, List.setIfInBounds_toArray, List.set_cons_zero, List.set_cons_succ]
                    refine take_oneH 49 (i := 23) (v := .bool false) rfl rfl (by kernel_rfl) (by kernel_rfl) (by kernel_rfl) (fun _ _ _ h => h) (Or.inl ⟨by kernel_rfl, fun w hSw => by (go_simp)⟩) (by assumption) ?_
                    simp only [Act.put, List.setIfInBounds_toArray, List.set_cons_zero, List.set_cons_succ]
                    refine take_oneH 50 (i := 24) (v := .bool false) rfl rfl (by kernel_rfl) (by kernel_rfl) (by kernel_rfl) (fun _ _ _ h => h) (Or.inl ⟨by kernel_rfl, fun w hSw => by (go_simp)⟩) (by assumption) ?_
                    simp only [Act.put, List.setIfInBounds_toArray, List.set_cons_zero, List.set_cons_succ]
                    refine take_oneH 51 (i := 25) (v := .pointer (some ⟨wr.heap.size, 1, none⟩)) rfl rfl (by kernel_rfl) (by kernel_rfl) (by kernel_rfl) (fun _ _ _ h => h) (Or.inl ⟨by kernel_rfl, fun w hSw => by (go_simp)⟩) (by assumption) ?_
                    simp only [Act.put, List.setIfInBounds_toArray, List.set_cons_zero, List.set_cons_succ]
                    refine take_oneH 52 (i := 26) (v := .int .i64 y.num) rfl rfl (by kernel_rfl) (by kernel_rfl) (by kernel_rfl) (fun _ _ _ h => h) (Or.inl ⟨by kernel_rfl, fun w hSw => by (go_simp)⟩) (by assumption) ?_
                    simp only [Act.put, List.setIfInBounds_toArray, List.set_cons_zero, List.set_cons_succ]
                    refine take_oneH 53 (i := 27) (v := .bool false) rfl rfl (by kernel_rfl) (by kernel_rfl) (by kernel_rfl) (fun _ _ _ h => h) (Or.inl ⟨by kernel_rfl, fun w hSw => by (go_simp)⟩) (by assumption) ?_
                    simp only [Act.put, List.setIfInBounds_toArray, List.set_cons_zero, List.set_cons_succ]
                    refine take_oneH 54 (i := 28) (v := .bool false) rfl rfl (by kernel_rfl) (by kernel_rfl) (by kernel_rfl) (fun _ _ _ h => h) (Or.inl ⟨by kernel_rfl, fun w hSw => by (go_simp)⟩) (by assumption) ?_
                    simp only [Act.put, List.setIfInBounds_toArray, List.set_cons_zero, List.set_cons_succ]
                    refine wpAnyH_done (by kernel_rfl) ?_ _
                    clear CNM
                    have hok : kE.ok l[j] := by rw [HY.out]; exact HOK.out
                    have HE := Lib.hid (HM.out.succ hl hok HLT.out)
                    clear hok
                    have HRR := Lib.hid (HB.out.trans (HWB.out.mono HB.out.size))
                    have hg : ∀ z ∈ [y.num], good z := by
                      intro z hz
                      simp only [List.mem_cons, List.not_mem_nil, or_false] at hz
                      obtain ⟨q0, q1, q2⟩ := HOK.out
                      subst hz; constructor <;> omega
                    have CQ := rnums_new [y.num] (by simp) hg
                    have hn16 : y.name.size ≤ 16 := HOK.out.1.2.1
                    have CT := fun w => reftext_any y.name (by omega) w
                    rw [textW_txt (by omega)] at CT
                    have hEz : (txt y.name ++ layL ([y.num].map Int.toNat)).length ≤ 20 := entEnc_len HOK.out
                    have HEQ := Lib.hid (show bs (txt y.name) ++ bs (layL ([y.num].map Int.toNat)) = bs (entEnc y) by rw [← bs_append]; rfl)
                    simp only [List.length_cons, List.length_nil, Nat.reduceAdd] at CQ
                    have hz1 : (bs (txt y.name)).size + (bs (layL ([y.num].map Int.toNat))).size ≤ 20 := by rw [bs_size, bs_size, ← List.length_append]; exact hEz
                    obtain ⟨D, hD⟩ : ∃ D, bs (txt y.name) = D := ⟨_, rfl⟩
                    obtain ⟨E, hE⟩ : ∃ E, bs (layL ([y.num].map Int.toNat)) = E := ⟨_, rfl⟩
                    rw [hD] at CT HEQ hz1
                    rw [hE] at CQ HEQ hz1
                    simp only [List.map_cons, List.map_nil] at CQ
                    have nsum : ¬ 9223372036854775807 < D.size + E.size := by omega
                    have nsum2 : ¬ 9223372036854775807 < S.size + (D ++ E).size := by rw [ByteArray.size_append]; omega
                    have nsum3 : ¬ 9223372036854775807 < S.size + (D.size + E.size) := by omega
                    have HSZ := Lib.hid (show (S ++ (D ++ E)).size ≤ 2 + 20 * (j + 1) by rw [ByteArray.size_append, ByteArray.size_append]; omega)
                    have HCQ := Lib.hid CQ
                    clear hg CQ hD hE hEz hn16 hys hz1
                    go_wp2_with fail
                    refine (CT _).mono ?_
                    rintro e w4 ⟨rfl, hB4⟩
                    have HB4 := Lib.hid (HRR.out.trans (hB4.mono HRR.out.size))
                    have hxx := (hB4.block _ (lt_of_heap (show u1.drew.heap[wr.heap.size]? = _ from HX.out))).trans (show u1.drew.heap[wr.heap.size]? = _ from HX.out)
                    have e0 : w4.cell? ⟨wr.heap.size, 0, none⟩ = some (.string y.name) := by simp [World.cell?, hxx]
                    have e1 : w4.cell? ⟨wr.heap.size, 1, none⟩ = some (.int .i64 y.num) := by simp [World.cell?, hxx]
                    clear hB4 CT hxx
                    go_wp2_with fail
                    refine (HCQ.out _ _).mono ?_
                    rintro e w5 ⟨rfl, hB5⟩
                    have HB5 := Lib.hid (HB4.out.trans (hB5.mono HB4.out.size))
                    clear hB5
                    go_wp2_with fail
                    go_roundw
                    case rel => exact ⟨j + 1, S ++ (D ++ E), by omega, by go_num, rfl, HSZ.out, by rw [HS4.out, HTK.out, List.flatMap_append, HEQ.out, ← bs_append]; simp [kE], HE.out, HB5.out⟩
                    case measure => simp [intOf]; omega
      · obtain rfl : j = N := by omega
        have hmay : May kE l := ⟨by rw [HN.out]; omega, by rw [HN.out]; exact HM.out⟩
        have HF := Lib.hid (show R = .tuple #[.string S, .int .i64 0] by
          rw [HYES.out hmay, HS4.out, laidL, HN.out, List.take_of_length_le (by rw [HN.out]; exact Nat.le_refl _)])
        clear hmay
        go_wp2_with fail
        go_ret2
        exact ⟨by rw [HF.out]; rfl, HB.out⟩
end Go.Proofs.YtffebghkmobeoaaDoor

