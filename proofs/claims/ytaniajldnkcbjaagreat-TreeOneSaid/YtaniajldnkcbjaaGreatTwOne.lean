/-
  One byte more or less costs one block of each level; what is a beginning shares all whole chunks: for every text, of which the first 17,000 bytes are taken, and every place.
  Conditions: none besides the row's own.
-/
import Derived.Test.YtaniajldnkcbjaaGreatTreQ
namespace Go.Proofs.YtaniajldnkcbjaaGreat.tone
open Go.ChangeShapes Go.WideShapes Go.ChangeAt Go.RowKit Go.Shelf Go Go.Maps SM PL AL TR

theorem free_same {α : Type} {fr : List α} {t s : Nat} (h : fr.drop t = fr.drop s) (h1 : t ≤ fr.length) (h2 : s ≤ fr.length) : t = s := by
  have e := congrArg List.length h
  rw [List.length_drop, List.length_drop] at e
  omega
theorem levels_of {k : Nat} {M : Mem} {lv : List (List Nat)} {b : List UInt8} (h : TT [] 300 1 k M (fun _ => False) lv b) : (rowsL b.length).length = lv.length := by
  have hT := tree_rows 3 h.tree (by have := h.len; unfold cuts; omega)
  show (rowsN 4 b.length).length = _
  rw [← hT, List.length_map]
/-- one byte is another one: a block of each level -/
theorem one_taken {k t i : Nat} {M : Mem} {lv : List (List Nat)} {T D : ByteArray} {v : UInt8} {R : LvR} (h : TT [] 300 1 k M (fun _ => False) lv T.data.toList) (hi : i < T.data.toList.length) (hv : T.data.toList[i] ≠ v) (hD : D.data.toList = T.data.toList.set i v)
    (hR : storeLv (decide ((rowsL D.size).length = lv.length)) (rowsL D.size) true lv T.data.toList D.data.toList M ((ord [] 300 1).drop k) = R) (o : LvOk lv.flatten lv D.data.toList (rowsL D.data.toList.length) M ((ord [] 300 1).drop k) R t) (hr : k + 3 ≤ 299) : t = lv.length := by
  have hl : D.data.toList.length = T.data.toList.length := by rw [hD, List.length_set]
  have hT := h.len
  have hll := levels_of h
  have h3 := (rows_sum hT).2.2
  have hfl : ((ord [] 300 1).drop k).length = 299 - k := by rw [List.length_drop, ord300]
  rw [← len_of D] at hR
  have h1 := lv_one 3 true (b := D.data.toList) (i / 240) M ((ord [] 300 1).drop k) h.tree (by unfold cuts; omega) hl (by unfold cuts; omega) (by rw [hD]; exact part_set_ne _ i v hi hv) (fun j hj => by rw [hD]; exact (part_set _ i v j hj).symm)
    (fun x hx => ⟨by have := (h.rng x hx).2.1; omega, h.far x hx⟩) (fun x hx => by have := mem_frees.1 (mem_ord.1 (List.mem_of_mem_drop hx)); omega) (by omega)
  have hdec : decide ((rowsL D.data.toList.length).length = lv.length) = true := by rw [decide_eq_true_eq, hl]; exact hll
  rw [hdec] at hR
  have h2 : R.free = ((ord [] 300 1).drop k).drop lv.length := by rw [← hR]; exact h1.2
  exact free_same (o.free.symm.trans h2) o.le (by omega)
/-- a beginning: four blocks at most -/
theorem begin_taken {k t i : Nat} {M : Mem} {lv : List (List Nat)} {T E : ByteArray} {R : LvR} (h : TT [] 300 1 k M (fun _ => False) lv T.data.toList) (hi : i < T.data.toList.length) (hE : E.data.toList = T.data.toList.take i)
    (hR : storeLv (decide ((rowsL E.size).length = lv.length)) (rowsL E.size) true lv T.data.toList E.data.toList M ((ord [] 300 1).drop k) = R) (o : LvOk lv.flatten lv E.data.toList (rowsL E.data.toList.length) M ((ord [] 300 1).drop k) R t) : t ≤ 4 := by
  obtain ⟨s, h1, h2, h3⟩ := lv_begin (decide ((rowsL E.size).length = lv.length)) (M := M) h.tree h.len i hi ((ord [] 300 1).drop k)
  rw [← hE, len_of, hR] at h1
  have := free_same (o.free.symm.trans h1) o.le h3
  omega
theorem xor8 (a : UInt8) : bits .xor .u8 (a.toNat : Int) 1 = ((a ^^^ 1).toNat : Int) ∧ a ≠ a ^^^ 1 := by
  have h : ∀ n : Fin 256, bits .xor .u8 ((UInt8.ofNat n.1).toNat : Int) 1 = (((UInt8.ofNat n.1) ^^^ 1).toNat : Int) ∧ UInt8.ofNat n.1 ≠ (UInt8.ofNat n.1) ^^^ 1 := by decide +kernel
  have e := h ⟨a.toNat, a.toNat_lt⟩
  simpa using e
theorem cut_take (x : ByteArray) (j : Nat) : (x.extract 0 j).data.toList = x.data.toList.take j := by
  rw [ByteArray.data_extract, Array.toList_extract]
  simp
theorem boxS {W : World} {o : Nat} {a b : Value} {t : TypeId} {f : Nat × Nat} (h : W.heap[o]? = some (.cells #[a, b] t f)) : W.cell? ⟨o, 0, none⟩ = some a ∧ W.cell? ⟨o, 1, none⟩ = some b := by
  constructor <;> simp [World.cell?, h]
theorem boxset {w0 w : World} {l b g m c pl n f k : Nat} {u : List UInt8} {M : Mem} {W P : Nat → Prop} {x : VS} (h : TB w0 l b g m c pl u n f k M W x P w) {q : Nat} {a0 a1 a d : Value} (hq : w0.heap.size ≤ q) (ho : w.heap[q]? = some (.cells #[a0, a1] 29 (0, 0))) :
    TB w0 l b g m c pl u n f k M W x P ((w.setCell ⟨q, 0, none⟩ a).setCell ⟨q, 1, none⟩ d) ∧ ((w.setCell ⟨q, 0, none⟩ a).setCell ⟨q, 1, none⟩ d).heap[q]? = some (.cells #[a, d] 29 (0, 0)) := by
  have h1 : (w.setCell ⟨q, 0, none⟩ a).heap[q]? = some (.cells #[a, a1] 29 (0, 0)) := heap_set ho _
  have h2 : ((w.setCell ⟨q, 0, none⟩ a).setCell ⟨q, 1, none⟩ d).heap[q]? = some (.cells #[a, d] 29 (0, 0)) := heap_set h1 _
  refine ⟨h.own (G := (· = q)) ?_ ?_, h2⟩
  · have s : Stir (· = q) w w := Stir.of_below (Below.refl _ w)
    exact (s.set (.inl rfl) _).set (.inl rfl) _
  · rintro i rfl
    exact ⟨hq, ⟨_, _, _, ho, by unfold VK; decide⟩, h.not_pool ho (by decide)⟩
theorem store_over {w0 w : World} {l b g m c pl k r s : Nat} {M : Mem} {P : Nat → Prop} {x : VS} {lv : List (List Nat)} {bt : List UInt8} (h : TB w0 l b g m c pl [] 300 1 k M (fun _ => False) x P w) (ht : TT [] 300 1 k M (fun _ => False) lv bt) (T : ByteArray) (hT : T.size ≤ 16384) (hroom : k + 72 ≤ 299) (hr : rootOf lv = r) (hs : bt.length = s) :
    Calls Tryz.prog 22 #[srcV l, .agg #[.int .i64 r, .int .i64 s], .string T, .pointer (some ⟨pl, 0, none⟩)] w fun e w' => ∃ (t : Nat) (R : LvR) (x' : VS) (P' : Nat → Prop), storeLv (decide ((rowsL T.size).length = lv.length)) (rowsL T.size) true lv bt T.data.toList M ((ord [] 300 1).drop k) = R ∧ LvOk lv.flatten lv T.data.toList (rowsL T.data.toList.length) M ((ord [] 300 1).drop k) R t ∧ R.ok = true ∧ e = .returned (.tuple #[.agg #[.int .i64 (rootOf R.lv : Nat), .int .i64 (T.size : Nat)], .int .i64 0]) ∧ TB w0 l b g m c pl [] 300 1 (k + t) R.mem (fun _ => False) x' P' w' ∧ TT [] 300 1 (k + t) R.mem (fun _ => False) R.lv T.data.toList ∧ TT [] 300 1 (k + t) R.mem (fun _ => False) lv bt ∧ KK P w w' ∧ (∀ j, P' j → P j ∨ w.heap.size ≤ j) ∧ t ≤ 72 := by
  subst hr hs
  exact store_next h ht T hT hroom
set_option maxRecDepth 100000 in
set_option maxHeartbeats 16000000 in
theorem walk (s1 : ByteArray) (n1 : Int) (w : World) (hs1 : s1.size ≤ 140737488351232) (_r1 : -9223372036854775808 ≤ n1 ∧ n1 ≤ 9223372036854775807) :
    Calls Tryz.prog 7 #[.string s1, .int .i64 n1] w fun r w' => r = .returned (.bool true) ∧ Below w.heap.size w w' := by
  have CB1 := fun w => bytesT_any s1 (by omega) w
  obtain ⟨z, hz1, hz2⟩ := and_to 65535 (by omega) n1
  have hz1' : bits .and .i64 n1 65535 = (z : Int) := hz1
  clear hz1
  obtain ⟨S, hS⟩ : ∃ S, cutT s1 = S := ⟨_, rfl⟩
  have hS17 : S.size ≤ 17000 := by rw [← hS]; exact cutT_size s1
  rw [hS] at CB1
  have CL := fun w => laid_tree 300 (by omega) (by omega) w
  have CN := fun w => pool_new 300 (by omega) (by omega) w
  have CL' : ∀ w, Calls Tryz.prog 12 #[.int .i64 300] w _ := CL
  have CN' : ∀ w, Calls Tryz.prog 21 #[.string ⟨#[]⟩, .int .i64 300, .int .i64 1] w _ := CN
  clear CL CN hS
  go_enter Tryz.func7, Tryz.ntmps7
  go_wp2_with fail
  refine (CB1 _).mono ?_
  rintro e w' ⟨rfl, rfl⟩
  go_wp2_with fail
  refine (CL' _).mono ?_
  rintro e w1 ⟨l, b, g, m, c, r, q, d, rfl, hl⟩
  have HL := Lib.hid hl
  clear hl CL' CB1
  go_wp2_with fail
  refine (CN' _).mono ?_
  rintro e w2 ⟨pl, rfl, ⟨F, hp⟩, hB2⟩
  have H2 := Lib.hid (TB.start HL.out (by omega) (by omega) hB2 hp (fun _ => []))
  clear hp hB2 CN'
  have CF := fun w => fixed11_any w
  by_cases h0 : S.size = 0
  · have hSe : S = ⟨#[]⟩ := ByteArray.ext (Array.eq_empty_of_size_eq_zero h0)
    subst hSe
    go_wp2_with fail
    all_goals (
      refine (CF _).mono ?_
      rintro e w4 ⟨rfl, hB4⟩
      have HB4 := Lib.hid (H2.out.vw.below.trans (hB4.mono H2.out.vw.below.size))
      clear hB4 CF
      go_wp2
      go_ret
      exact ⟨rfl, HB4.out⟩)
  · have hse : S.toList.isEmpty = false := by
      rw [ByteArray.toList_eq]
      cases hL : S.data.toList with
      | nil => exact absurd (by rw [← len_of, hL]; rfl) h0
      | cons _ _ => rfl
    have hse2 : (S.toList == []) = false := by
      rw [ByteArray.toList_eq]
      cases hL : S.data.toList with
      | nil => exact absurd (by rw [← len_of, hL]; rfl) h0
      | cons _ _ => rfl
    by_cases hS16 : S.size ≤ 16384
    · have CS := store_first H2.out S hS16
      unfold srcV at CS
      go_wp2_with fail
      refine CS.mono ?_
      rintro e w3 ⟨t1, M3, lv1, x3, P3, rfl, h3, ht3, hk3, hP3, ht72⟩
      have HT3 := Lib.hid ht3
      have HLv := Lib.hid (show lv1.length = if 14400 < S.size then 3 else if 240 < S.size then 2 else 1 by rw [← levels_of ht3, len_of]; exact rows_levels h0 hS16)
      obtain ⟨r1, hr1⟩ : ∃ r1, rootOf lv1 = r1 := ⟨_, rfl⟩
      rw [hr1]
      obtain ⟨w4, hw4⟩ : ∃ w4, w3.alloc (.cells #[.int .i64 (r1 : Nat), .int .i64 (S.size : Nat)] 29) = w4 := ⟨_, rfl⟩
      have hB4 : Below w3.heap.size w3 w4 := by rw [← hw4]; exact (Below.refl _ w3).alloc (Nat.le_refl _) _
      have hob4 : w4.heap[w3.heap.size]? = some (.cells #[.int .i64 (r1 : Nat), .int .i64 (S.size : Nat)] 29 (0, 0)) := by rw [← hw4]; exact heap_alloc_new _ _
      obtain ⟨ox, hox⟩ : ∃ ox, w3.heap.size = ox := ⟨_, rfl⟩
      rw [hox] at hob4
      have h4 := h3.later hB4
      have HR1 := Lib.hid hr1
      -- the bytes
      have hpos : 0 < S.size := by omega
      obtain ⟨k, hk⟩ : ∃ k, z % S.size = k := ⟨_, rfl⟩
      have hkS : k < S.size := by rw [← hk]; exact Nat.mod_lt _ hpos
      have hkm : (z : Int) % (S.size : Int) = (k : Int) := by rw [← hk]; omega
      have hcv := Lib.run_convert_string_bytes (P := Tryz.prog) w4 9 54 5 S Tryz.underlying9 Tryz.underlying54 Tryz.underlying5
      have hbc := Lib.bytesWorld_cell w4 5 S
      have hbn := Lib.bytesWorld_at_new w4 5 S
      have hbs : S.size ≤ (Lib.bytesCells w4 5 S).size := by
        unfold Lib.bytesCells
        rw [Array.size_append, Array.size_map]
        exact Nat.le_add_right _ _
      have hB5 := below_bytesWorld w4 5 S
      obtain ⟨cap, hcap⟩ : ∃ cap, grownCap w4 S.size 0 5 = cap := ⟨_, rfl⟩
      rw [hcap] at hcv
      clear hcap
      obtain ⟨bc, hbcs⟩ : ∃ bc, Lib.bytesCells w4 5 S = bc := ⟨_, rfl⟩
      rw [hbcs] at hbn hbs
      clear hbcs
      obtain ⟨w5, hw5⟩ : ∃ w5, Lib.bytesWorld w4 5 S = w5 := ⟨_, rfl⟩
      rw [hw5] at hcv hbc hbn hB5
      clear hw5
      obtain ⟨bo, hbo⟩ : ∃ bo, w4.heap.size = bo := ⟨_, rfl⟩
      have hkl : k < S.data.toList.length := by rw [len_of]; exact hkS
      obtain ⟨y, hy⟩ : ∃ y, S.data.toList[k] = y := ⟨_, rfl⟩
      have ck : w5.cell? ⟨bo, k, none⟩ = some (.int .u8 (y.toNat : Int)) := by
        rw [← hbo, hbc k hkS, ← hy, List.getD_eq_getElem?_getD, List.getElem?_eq_getElem hkl]
        rfl
      have hfz : w5.frozen? ⟨bo, k, none⟩ = false := by
        rw [← hbo]
        simp [World.frozen?, hbn]
        omega
      have hxr := (xor8 y).1
      have hyne : S.data.toList[k] ≠ y ^^^ 1 := by rw [hy]; exact (xor8 y).2
      obtain ⟨v, hv⟩ : ∃ v, y ^^^ 1 = v := ⟨_, rfl⟩
      rw [hv] at hxr hyne
      obtain ⟨w6, hw6⟩ : ∃ w6, w5.setCell ⟨bo, k, none⟩ (.int .u8 (v.toNat : Int)) = w6 := ⟨_, rfl⟩
      have hB6 : Below w4.heap.size w4 w6 := by
        rw [← hw6]
        exact hB5.1.setCell (by rw [hbo]; exact Nat.le_refl _) _
      have hbn6 : w6.heap[bo]? = some (.cells (bc.setIfInBounds k (.int .u8 (v.toNat : Int))) 5 (bc.size, bc.size + 1)) := by
        rw [← hw6]
        rw [hbo] at hbn
        exact heap_set hbn _
      have hcells : ∀ j (hj : j < (S.data.toList.set k v).length), w6.cell? ((⟨bo, 0, none⟩ : Addr).add j) = some (.int .u8 ((S.data.toList.set k v)[j].toNat : Int)) := fun j hj => by
        rw [List.length_set] at hj
        have hjS : j < S.size := by rw [← len_of]; exact hj
        have hc5 := hbc j hjS
        rw [hbo] at hc5
        rw [List.getD_eq_getElem?_getD, List.getElem?_eq_getElem hj, Option.getD_some] at hc5
        have e : (⟨bo, 0, none⟩ : Addr).add j = ⟨bo, j, none⟩ := by cases j <;> simp [Addr.add]
        rw [e]
        by_cases h : j = k
        · subst h
          have hjb : j < bc.size := by omega
          simp [World.cell?, hbn6, hjb]
        · rw [List.getElem_set_ne (Ne.symm h)]
          have hc6 : w6.cell? ⟨bo, j, none⟩ = w5.cell? ⟨bo, j, none⟩ := by
            rw [hbo] at hbn
            simp [World.cell?, hbn6, hbn, Ne.symm h]
          rw [hc6, hc5]
      have hback := run_convert_bytes_back (P := Tryz.prog) w6 54 9 5 ⟨bo, 0, none⟩ cap (S.data.toList.set k v) Tryz.underlying54 Tryz.underlying5 Tryz.underlying9 hcells
      rw [List.length_set, len_of] at hback
      obtain ⟨D, hD⟩ : ∃ D : ByteArray, (⟨(S.data.toList.set k v).toArray⟩ : ByteArray) = D := ⟨_, rfl⟩
      have hDl : D.data.toList = S.data.toList.set k v := by rw [← hD]
      have hDs : D.size = S.size := by rw [← len_of, hDl, List.length_set, len_of]
      rw [hD] at hback
      have HSl := Lib.hid (fun W => slice_to_any S k (by omega) (by omega) W)
      have H6 := Lib.hid (h4.later hB6)
      have HX6 := Lib.hid (show w6.heap[ox]? = some (.cells #[.int .i64 (r1 : Nat), .int .i64 (S.size : Nat)] 29 (0, 0)) from keeps_of hB6 hob4)
      have HDl := Lib.hid hDl
      have HDs := Lib.hid hDs
      have Hyne := Lib.hid hyne
      clear hB4 hob4 h3 ht3 hk3 hP3 CS hr1 h4 hcells hbn6 hB6 hB5 hbc hbn hbs hyne hD hDl hDs hy hv hk hse hse2
      have hLV : (S.size ≤ 240 ∧ lv1.length = 1) ∨ (240 < S.size ∧ S.size ≤ 14400 ∧ lv1.length = 2) ∨ (14400 < S.size ∧ lv1.length = 3) := by
        have := HLv.out
        split at this
        · exact .inr (.inr ⟨by omega, this⟩)
        · split at this
          · exact .inr (.inl ⟨by omega, by omega, this⟩)
          · exact .inl ⟨by omega, this⟩
      rcases hLV with ⟨g1, hlv⟩ | ⟨g1, g2, hlv⟩ | ⟨g1, hlv⟩
      all_goals (
        have hlvI : (lv1.length : Int) ≤ 3 := by omega
        have CLf := left300 H6.out
        obtain ⟨lf1, hlf1⟩ : ∃ lf1, 299 - t1 = lf1 := ⟨_, rfl⟩
        rw [hlf1] at CLf
        have HLf1 := Lib.hid hlf1
        clear hlf1
        go_wp2_with fail
        refine CLf.mono ?_
        rintro e w' ⟨rfl, rfl⟩
        have hX6 := HX6.out
        have d0 : w6.cell? ⟨ox, 0, none⟩ = some (.int .i64 (r1 : Nat)) := by simp [World.cell?, hX6]
        have d1 : w6.cell? ⟨ox, 1, none⟩ = some (.int .i64 (S.size : Nat)) := by simp [World.cell?, hX6]
        have CS2 := store_next H6.out HT3.out D (by rw [HDs.out]; exact hS16) (by omega)
        rw [HR1.out, len_of] at CS2
        unfold srcV at CS2
        clear CLf hX6
        go_wp2_with fail
        refine CS2.mono ?_
        rintro e w7 ⟨t2, R2, x7, P7, hR2, o2, hok2, rfl, h7, _, ho7, hk7, hP7, ht72'⟩
        have ht2 : t2 = lv1.length := one_taken HT3.out hkl Hyne.out HDl.out hR2 o2 (by omega)
        have HO7 := Lib.hid ho7
        have H7 := Lib.hid h7
        have HX7 := Lib.hid (hk7.keep HX6.out (by unfold VK; decide) (H6.out.not_pool HX6.out (by decide)))
        generalize R2.mem = M7 at *
        generalize rootOf R2.lv = r2 at *
        clear hR2 o2 hok2 h7 ho7 hk7 hP7 CS2 d0 d1
        obtain ⟨w8, hw8⟩ : ∃ w8, w7.alloc (.cells #[.int .i64 (r2 : Nat), .int .i64 (D.size : Nat)] 29) = w8 := ⟨_, rfl⟩
        have hB8 : Below w7.heap.size w7 w8 := by rw [← hw8]; exact (Below.refl _ w7).alloc (Nat.le_refl _) _
        have H8 := Lib.hid (H7.out.later hB8)
        have HX8 := Lib.hid (keeps_of hB8 HX7.out)
        clear hB8
        have CLf := left300 H8.out
        obtain ⟨lf2, hlf2⟩ : ∃ lf2, 299 - (t1 + t2) = lf2 := ⟨_, rfl⟩
        rw [hlf2] at CLf
        have HLf2 := Lib.hid hlf2
        have htk : (lf1 : Int) - (lf2 : Int) = (lv1.length : Int) := by rw [← ht2]; have := HLf1.out; omega
        rw [hlv] at htk
        clear hlf2
        go_wp2_with fail
        refine CLf.mono ?_
        rintro e w' ⟨rfl, rfl⟩
        go_wp2_with fail
        refine CLf.mono ?_
        rintro e w' ⟨rfl, rfl⟩
        have hSl := HSl.out
        obtain ⟨E, hE⟩ : ∃ E, S.extract 0 k = E := ⟨_, rfl⟩
        have hEl : E.data.toList = S.data.toList.take k := by rw [← hE]; exact cut_take S k
        have hEs : E.size ≤ 16384 := by rw [← len_of, hEl, List.length_take]; omega
        rw [hE] at hSl
        clear hE
        have hX8 := boxS HX8.out
        have CS3 := fun W (hW : Below w8.heap.size w8 W) => store_over (H8.out.later hW) HO7.out E hEs (by omega) HR1.out (len_of S)
        unfold srcV at CS3
        clear CLf
        go_upto_region 21 with fail
        go_cut [17, 18] from 104 to 114 (fun p q wx => ∃ (oy t3 : Nat) (M9 : Mem) (lv3 : List (List Nat)) (x9 : VS) (P9 : Nat → Prop), p = .pointer (some ⟨oy, 0, none⟩) ∧ q = .int .i64 0 ∧ t3 ≤ 4 ∧ Hid (TB w l b g m c pl [] 300 1 (t1 + t2 + t3) M9 (fun _ => False) x9 P9 wx) ∧ Hid (TT [] 300 1 (t1 + t2 + t3) M9 (fun _ => False) lv3 E.data.toList) ∧ Hid (wx.heap[oy]? = some (.cells #[.int .i64 (rootOf lv3 : Nat), .int .i64 (E.size : Nat)] 29 (0, 0))))
        case first =>
          have hA0 : Below w8.heap.size w8 w8.drew := (Below.refl _ w8).drew
          obtain ⟨wA, hwA⟩ : ∃ wA, (w8.alloc (.cells #[.int .i64 0, .int .i64 0] 29)).drew = wA := ⟨_, rfl⟩
          have hBA : Below w8.heap.size w8 wA := by rw [← hwA]; exact ((Below.refl _ w8).alloc (Nat.le_refl _) _).drew
          have hXA := boxS (keeps_of hBA HX8.out)
          have HXA := Lib.hid (keeps_of hBA HX8.out)
          have HOA := Lib.hid (show wA.heap[w8.heap.size]? = some (.cells #[.int .i64 0, .int .i64 0] 29 (0, 0)) by rw [← hwA]; exact heap_alloc_new _ _)
          have HTA := Lib.hid (H8.out.later hBA)
          have HT0 := Lib.hid (H8.out.later hA0)
          go_region_held3 (fun w' => w'.cell? ⟨ox, 0, none⟩ = some (.int .i64 (r1 : Nat)) ∧ w'.cell? ⟨ox, 1, none⟩ = some (.int .i64 (S.size : Nat)))
            (first | exact hX8 | exact hXA | exact e9 | exact boxS (heap_alloc_old HX9.out _) | (rw [hwA]; exact hXA) | exact boxS (heap_set_other (heap_set_other HX9.out hne _) hne _))
            (first
              | (go_at_call 22
                 first
                 | (refine (CS3 _ hA0).mono ?_
                    rintro e w9 ⟨t3, R3, x9, P9, hR3, o3, hok3, rfl, h9, ht9, ho9, hk9, hP9, ht73⟩
                    have ht3 : t3 ≤ 4 := begin_taken HO7.out hkl hEl hR3 o3
                    have HX9 := Lib.hid (hk9.keep (show w8.drew.heap[ox]? = _ from HX8.out) (by unfold VK; decide) (HT0.out.not_pool (show w8.drew.heap[ox]? = _ from HX8.out) (by decide))); have e9 := boxS HX9.out
                    have HT9 := Lib.hid ht9; have HB9 := Lib.hid h9
                    clear hR3 o3 hok3 h9 ht9 ho9 hk9 hP9)
                 | (refine (CS3 _ hBA).mono ?_
                    rintro e w9 ⟨t3, R3, x9, P9, hR3, o3, hok3, rfl, h9, ht9, ho9, hk9, hP9, ht73⟩
                    have ht3 : t3 ≤ 4 := begin_taken HO7.out hkl hEl hR3 o3
                    have HX9 := Lib.hid (hk9.keep HXA.out (by unfold VK; decide) (HTA.out.not_pool HXA.out (by decide))); have e9 := boxS HX9.out
                    have HO9 := Lib.hid (hk9.keep HOA.out (by unfold VK; decide) (HTA.out.not_pool HOA.out (by decide)))
                    have hne : ox ≠ w8.heap.size := Nat.ne_of_lt (lt_of_heap HX8.out)
                    have hO9 := HO9.out; have c90 := boxS hO9; have f90 : w9.frozen? ⟨w8.heap.size, 0, none⟩ = false := (by simp [World.frozen?, hO9]); have f91 : w9.frozen? ⟨w8.heap.size, 1, none⟩ = false := (by simp [World.frozen?, hO9])
                    clear hO9
                    have HT9 := Lib.hid ht9; have HB9 := Lib.hid h9
                    clear hR3 o3 hok3 h9 ht9 ho9 hk9 hP9)))
          · have hBn : Below w9.heap.size w9 (w9.alloc (.cells #[.int .i64 (rootOf R3.lv : Nat), .int .i64 (E.size : Nat)] 29)) := (Below.refl _ w9).alloc (Nat.le_refl _) _
            go_wp2_with fail
            go_meet
            exact ⟨_, t3, R3.mem, R3.lv, x9, P9, rfl, rfl, ht3, Lib.hid (HB9.out.later hBn), HT9, Lib.hid (heap_alloc_new _ _)⟩
          · have hBn := boxset (a := .int .i64 (rootOf R3.lv : Nat)) (d := .int .i64 (E.size : Nat)) HB9.out H8.out.vw.below.size HO9.out
            go_wp2_with fail
            go_meet
            exact ⟨_, t3, R3.mem, R3.lv, x9, P9, rfl, rfl, ht3, Lib.hid hBn.1, HT9, Lib.hid hBn.2⟩
        case rest =>
          obtain ⟨oy, t3, M9, lv3, x9, P9, rfl, rfl, ht3, HB9, HT9, HY9⟩ := hcut
          obtain ⟨d0, d1⟩ := boxS HY9.out
          have CR := load_law HB9.out HT9.out
          unfold srcV at CR
          clear CS3 hX8
          go_wp2_with fail
          refine CR.mono ?_
          rintro e wb ⟨xb, rfl, hb, hkb⟩
          have Hb := Lib.hid hb
          clear hb hkb CR d0 d1
          have CLf := fun W (hW : Below wb.heap.size wb W) => left300 (Hb.out.later hW)
          obtain ⟨lf3, hlf3⟩ : ∃ lf3, 299 - (t1 + t2 + t3) = lf3 := ⟨_, rfl⟩
          simp only [hlf3] at CLf
          have hl1 : lf1 ≤ 299 := by rw [← HLf1.out]; omega
          have hl2 : lf2 ≤ 299 := by rw [← HLf2.out]; omega
          have hl3 : lf3 ≤ 299 := by rw [← hlf3]; omega
          have hle : (lf2 : Int) - (lf3 : Int) ≤ 4 := by have := HLf2.out; omega
          have hEE : (E.toList == E.toList) = true := by simp
          clear hlf3
          have HBe := Lib.hid Hb.out.vw.below
          go_wp2_with fail
          refine (CLf _ (Below.refl _ _)).mono ?_
          rintro e w' ⟨rfl, rfl⟩
          go_wp2_with fail
          all_goals (
            refine (CF _).mono ?_
            rintro e wz ⟨rfl, hBz⟩
            have HBz := Lib.hid (HBe.out.trans (hBz.mono HBe.out.size))
            clear hBz
            go_wp2
            go_ret
            exact ⟨rfl, HBz.out⟩))
    · have hlong : (16384 : Int) < (S.size : Int) := by omega
      have CS := fun w => store_long (pl := pl) (l := l) 0 0 S (by omega) w
      unfold srcV blobV at CS
      go_wp2_with fail
      refine (CS _).mono ?_
      rintro e w3 ⟨rfl, hB3⟩
      have HB3 := Lib.hid (H2.out.vw.below.trans (hB3.mono H2.out.vw.below.size))
      clear hB3 CS CF
      have CF' := fun W (hW : Below w3.heap.size w3 W) => fixed11_any W
      go_wp2_with fail
      refine (CF' _ ((Below.refl _ _).alloc (Nat.le_refl _) _)).mono ?_
      rintro e w4 ⟨rfl, hB4⟩
      have HB4 := Lib.hid ((HB3.out.alloc HB3.out.size _).trans (hB4.mono (Nat.le_trans HB3.out.size (by simp))))
      clear hB4 CF'
      go_wp2
      go_ret
      exact ⟨rfl, HB4.out⟩
set_option maxRecDepth 100000 in
/-- WHAT THE WALK GIVES, for every argument that can be read. -/
theorem contract (H : Type) (enc : TypeId × Value → H) (W : World) (base : Nat) (args : Array Value) (ds gs : List (DataW H)) (before : List MemPlace)
    (hval : ∀ (j : Nat) t v, Tryz.f7.params[j]? = some t → args[j]? = some v → Value.okWide Tryz.prog W .any base t v)
    (hW : DataW.Whole enc Tryz.prog Tryz.f7.params.toList Rows.treeOneSpec.vars false W args.toList ds gs before)
    (hreach : (DataW.weightsEach Tryz.prog (Tryz.f7.params.toList) ds).all (· ≤ reachBytes) = true) :
    Calls Tryz.prog 7 args W fun e W' => ∃ v, e = .returned v ∧ Rows.treeOneSpec.post enc Tryz.prog Tryz.f7 false true false false W args v W' := by
  have hW' := hW
  obtain ⟨p, q, hA0, hV, rfl, hfz, hnd⟩ := hW
  have hA : DataW.TrodAll enc Tryz.prog W 0 (fun _ => true) true Tryz.f7.params.toList args.toList ds p := hA0
  rw [Tryz.params7] at hA hval hreach
  obtain ⟨v0, v1, d0, d1, p0, p1, rfl, rfl, rfl, h0, h1⟩ := trodAll_two hA
  obtain ⟨rfl, rfl⟩ := trodVars_none hV
  obtain ⟨s0, rfl, rfl, rfl, ws0⟩ := Go.ChangeMaps.open_string Tryz.underlying9 (hval 0 9 v0 rfl rfl) h0
  have r0 := reach_size (sized_string hreach (j := 0) rfl rfl)
  obtain ⟨n1, rfl, rfl, rfl, wn1⟩ := open_int Tryz.underlying3 (hval 1 3 v1 rfl rfl) h1
  have r1 := int_range wn1
  clear hA0 hval
  simp only [List.append_nil] at hW'
  refine (walk s0 n1 W r0 r1).mono fun e W' ⟨he, hB⟩ => ?_
  subst he
  exact ⟨_, rfl, post_of_below (pa := [] ++ ([])) (pv := []) hW' (fun _ _ _ => trodAll_mk1 (shut_bool Tryz.underlying4 _)) (fun sp hsp => trodAll_mk2 (Go.ChangeMaps.shut_string Tryz.underlying9 ws0) (shut_int Tryz.underlying3 wn1)) (fun _ _ => rfl) (by simp) hB (ok_one (by kernel_rfl) rfl (okWide_bool_mk Tryz.underlying4 _))⟩

theorem reads (os : Os) {H : Type} (enc : TypeId × Value → H) : ∃ places, DataW.whole enc Tryz.prog ((laidWorld os).forCall (fun _ _ => 0) ⟨#[], #[.string ⟨#[]⟩, .int .i64 0], []⟩).memory Tryz.f7.params.toList Rows.treeOneSpec.vars false (#[.string ⟨#[]⟩, .int .i64 0] : Array Value).toList 8 = some ([.lit (.string []), .lit (.int .i64 0)], [], places) :=
  ⟨[], by kernel_rfl⟩

set_option maxRecDepth 100000 in
theorem lifted (os : Os) (started : os.Started) (H : Type) (enc : TypeId × Value → H) (F : Stop.Interp) :
    ReturnsInHanded {} Tryz.checked os 7 .any ((OpenSpec.ofChange Rows.treeOneSpec).preRow enc Tryz.prog Tryz.f7 Rows.treeOneRow.domain false Rows.treeOneRow.laid) (((OpenSpec.ofChange Rows.treeOneSpec).at F).post enc Tryz.prog Tryz.f7 false true false false) := by
  obtain ⟨places, hx⟩ := reads os enc
  refine returnsInHanded_of_row (C := Tryz.checked) (s := OpenSpec.ofChange Rows.treeOneSpec) own started (by kernel_rfl) Tryz.func7
    (witness_row_at (enc := enc) (C := Tryz.checked) false (laidWorld os) #[.string ⟨#[]⟩, .int .i64 0] rfl (by kernel_rfl) (by kernel_rfl) (by kernel_rfl)
      (OpenSpec.preRow_of_cond 8 hx (by kernel_rfl) (fun k hk => by cases hk) (by kernel_rfl) (laid_met os _))) ?_
  intro W base args ds gs before hval hW _ hcond hreach hL _ _
  obtain ⟨p, q, hA0, hV, hpq, hfz, hnd⟩ := id hW
  obtain ⟨rfl, _⟩ := trodVars_none hV
  rw [List.append_nil] at hreach
  exact contract H enc W base args ds [] before hval hW hreach

theorem said : Rows.TreeOneSaid :=
  OpenClaim.holds_of_cond 7 Tryz.f7 rfl rfl rfl rfl rfl rfl rfl ⟨rfl, rfl, rfl, rfl, rfl⟩ rfl rfl rfl rfl rfl (by kernel_rfl) Tryz.func7 (by kernel_rfl)
    (of_decide_eq_true (by kernel_rfl)) (by unfold Func.isWrapper; first | (rw [if_pos (by decide +kernel)]; kernel_rfl) | (rw [if_neg (by decide +kernel)]; exact ⟨rfl, rfl⟩))
    (fun os started H enc _ F => by rw [OpenClaim.pre_eq_preRow]; exact lifted os started H enc F)



end Go.Proofs.YtaniajldnkcbjaaGreat.tone

