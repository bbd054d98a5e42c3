/-
  What is sealed is opened as it was; what is opened is sealed as it was; a message with a byte that is another one is refused, unless it has that sum: for every message, text and number.
  Conditions: none besides the row's own.
-/
import Derived.Test.YtgeggiafjojgdaaDoorFrmX
import Derived.Test.YtgeggiafjojgdaaDoorFrmK
namespace Go.Proofs.YtgeggiafjojgdaaDoor.fback
open Go.Proofs.YtgeggiafjojgdaaDoor
open Go.ChangeShapes Go.WideShapes Go.ChangeAt Go.RowKit Go

theorem open_cases {l : List UInt8} {g : Fr} {x : Int} (h : OpenIs l g x) : (g = fr0 ∧ x ≠ 0) ∨ (FrOk g ∧ l = sealL g ∧ x = 0) := by
  rcases h with ⟨_, h2, rfl⟩ | h | ⟨_, _, h2, rfl⟩
  · exact .inl ⟨h2, by decide⟩
  · exact .inr h
  · exact .inl ⟨h2, by decide⟩
theorem xor8 (a : UInt8) : bits .xor .u8 (a.toNat : Int) 1 = ((a ^^^ 1).toNat : Int) := by
  have h : ∀ n : Fin 256, bits .xor .u8 ((UInt8.ofNat n.1).toNat : Int) 1 = (((UInt8.ofNat n.1) ^^^ 1).toNat : Int) := by decide +kernel
  have e := h ⟨a.toNat, a.toNat_lt⟩
  simpa using e
theorem below_bytesW (w : World) (e : TypeId) (x : ByteArray) : Below w.heap.size w (Lib.bytesWorld w e x) := by
  have hs : (Lib.bytesWorld w e x).heap.size = w.heap.size + 1 := by simp [Lib.bytesWorld, World.freeze]
  exact ⟨rfl, rfl, rfl, by omega, fun k hk => Lib.bytesWorld_at_old w e x k hk⟩
/-- a text's bytes, one of them turned, and the text of these -/
theorem byte_turned (S : ByteArray) (k : Nat) (hk : k < S.size) (w : World) : ∃ (bo cap : Nat) (y v : UInt8) (w5 w6 : World) (D : ByteArray),
    (convert 9 33 (.string S)).run Tryd.prog w = .ok (.slice (some ⟨bo, 0, none⟩) S.size cap) w5 ∧ w5.cell? ⟨bo, k, none⟩ = some (.int .u8 (y.toNat : Int)) ∧ w5.frozen? ⟨bo, k, none⟩ = false ∧ bits .xor .u8 (y.toNat : Int) 1 = (v.toNat : Int) ∧
    w5.setCell ⟨bo, k, none⟩ (.int .u8 (v.toNat : Int)) = w6 ∧ (convert 33 9 (.slice (some ⟨bo, 0, none⟩) S.size cap)).run Tryd.prog w6 = .ok (.string D) w6 ∧ D.size = S.size ∧ Below w.heap.size w w6 := by
  have len_of : ∀ s : ByteArray, s.data.toList.length = s.size := fun s => by simp
  have hcv := Lib.run_convert_string_bytes (P := Tryd.prog) w 9 33 5 S Tryd.underlying9 Tryd.underlying33 Tryd.underlying5
  have hbc := Lib.bytesWorld_cell w 5 S
  have hbn := Lib.bytesWorld_at_new w 5 S
  have hbs : S.size ≤ (Lib.bytesCells w 5 S).size := by
    unfold Lib.bytesCells
    rw [Array.size_append, Array.size_map]
    exact Nat.le_add_right _ _
  have hB5 := below_bytesW w 5 S
  obtain ⟨cap, hcap⟩ : ∃ cap, grownCap w S.size 0 5 = cap := ⟨_, rfl⟩
  rw [hcap] at hcv
  obtain ⟨bc, hbcs⟩ : ∃ bc, Lib.bytesCells w 5 S = bc := ⟨_, rfl⟩
  rw [hbcs] at hbn hbs
  obtain ⟨w5, hw5⟩ : ∃ w5, Lib.bytesWorld w 5 S = w5 := ⟨_, rfl⟩
  rw [hw5] at hcv hbc hbn hB5
  have hkl : k < S.data.toList.length := by rw [len_of]; exact hk
  obtain ⟨y, hy⟩ : ∃ y, S.data.toList[k] = y := ⟨_, rfl⟩
  have ck : w5.cell? ⟨w.heap.size, k, none⟩ = some (.int .u8 (y.toNat : Int)) := by
    rw [hbc k hk, ← hy, List.getD_eq_getElem?_getD, List.getElem?_eq_getElem hkl]
    rfl
  have hfz : w5.frozen? ⟨w.heap.size, k, none⟩ = false := by
    simp [World.frozen?, hbn]
    omega
  obtain ⟨v, hv⟩ : ∃ v, y ^^^ 1 = v := ⟨_, rfl⟩
  have hxr := xor8 y
  rw [hv] at hxr
  obtain ⟨w6, hw6⟩ : ∃ w6, w5.setCell ⟨w.heap.size, k, none⟩ (.int .u8 (v.toNat : Int)) = w6 := ⟨_, rfl⟩
  have hB6 : Below w.heap.size w w6 := by
    rw [← hw6]
    exact hB5.setCell (Nat.le_refl _) _
  have hbn6 : w6.heap[w.heap.size]? = some (.cells (bc.setIfInBounds k (.int .u8 (v.toNat : Int))) 5 (bc.size, bc.size + 1)) := by
    rw [← hw6]
    exact heap_set hbn _
  have hcells : ∀ j (hj : j < (S.data.toList.set k v).length), w6.cell? ((⟨w.heap.size, 0, none⟩ : Addr).add j) = some (.int .u8 ((S.data.toList.set k v)[j].toNat : Int)) := fun j hj => by
    rw [List.length_set] at hj
    have hjS : j < S.size := by rw [← len_of]; exact hj
    have hc5 := hbc j hjS
    rw [List.getD_eq_getElem?_getD, List.getElem?_eq_getElem hj, Option.getD_some] at hc5
    have e : (⟨w.heap.size, 0, none⟩ : Addr).add j = ⟨w.heap.size, j, none⟩ := by cases j <;> simp [Addr.add]
    rw [e]
    by_cases h : j = k
    · subst h
      have hjb : j < bc.size := by omega
      simp [World.cell?, hbn6, hjb]
    · rw [List.getElem_set_ne (Ne.symm h)]
      have hc6 : w6.cell? ⟨w.heap.size, j, none⟩ = w5.cell? ⟨w.heap.size, j, none⟩ := by
        simp [World.cell?, hbn6, hbn, Ne.symm h]
      rw [hc6, hc5]
  have hback := run_convert_bytes_back (P := Tryd.prog) w6 33 9 5 ⟨w.heap.size, 0, none⟩ cap (S.data.toList.set k v) Tryd.underlying33 Tryd.underlying5 Tryd.underlying9 hcells
  rw [List.length_set, len_of] at hback
  refine ⟨w.heap.size, cap, y, v, w5, w6, _, hcv, ck, hfz, hxr, hw6, hback, ?_, hB6⟩
  rw [← len_of]
  simp

set_option maxRecDepth 100000 in
set_option maxHeartbeats 16000000 in
theorem walk (f : Fr) (s : ByteArray) (n : Int) (w : World) (hf : FrIn f) (hs : s.size ≤ 140737488351232) (_hn : -9223372036854775808 ≤ n ∧ n ≤ 9223372036854775807) (hg : GE w) :
    Calls Tryd.prog 5 #[frV f, .string s, .int .i64 n] w fun e w' => e = .returned (.bool true) ∧ Below w.heap.size w w' := by
  obtain ⟨w1, hw1⟩ : ∃ w1, w.alloc (FrObj f) = w1 := ⟨_, rfl⟩
  have hB1 : Below w.heap.size w w1 := by rw [← hw1]; exact (Below.refl _ w).alloc (Nat.le_refl _) _
  have ha1 : FrAt f w.heap.size w1 := by rw [← hw1]; exact .new _ _
  obtain ⟨i0, i1, i2, i3⟩ := ha1.cells
  have HG := Lib.hid hg
  have HA1 := Lib.hid ha1
  have HB1 := Lib.hid hB1
  have CO2 := fun w hg => open_any s (by omega) w hg
  have C1 := seal_any f hf w1
  unfold FrObj at hw1
  clear hB1 ha1 hg
  by_cases hok : FrOk f
  · rw [sealV_ok hok] at C1
    have htz : 12 ≤ (bs (sealL f)).size ∧ (bs (sealL f)).size ≤ 2021 := by
      have := layF_len hok
      rw [bs_size, sealL, withSum_len]; omega
    have CO := fun w hg => open_any (bs (sealL f)) (by omega) w hg
    rw [bs_list] at CO
    have HO := Lib.hid (fun g h (k : OpenIs (sealL f) g h) => k.uniq (.inr (.inl ⟨hok, rfl, rfl⟩)))
    obtain ⟨bf, -, hfe, hbf⟩ := fr_eql f f
    obtain rfl := hbf.2 rfl
    have hfg := fun w => fr_guard2 f f w
    generalize sealL f = L at *
    obtain ⟨T, hT⟩ : ∃ T, bs L = T := ⟨_, rfl⟩
    rw [hT] at C1 CO htz
    obtain ⟨z, hz, hz5⟩ := and_low n
    obtain ⟨k, hk⟩ : ∃ k, z % T.size = k := ⟨_, rfl⟩
    have hkT : k < T.size := by rw [← hk]; exact Nat.mod_lt _ (by omega)
    have hkm : (z : Int) % (T.size : Int) = (k : Int) := by rw [← hk]; omega
    have hki : (k : Int) < (T.size : Int) := by omega
    have hT8 : ¬ (T.size : Int) < 8 := by omega
    have hT0 : (T.size : Int) ≠ 0 := by omega
    have HTZ := Lib.hid htz
    unfold frV at C1 hfe hfg ⊢
    clear hf hok hbf hT hz5 hk htz
    go_enter Tryd.func5, Tryd.ntmps5
    go_wp2_with fail
    refine C1.mono ?_
    rintro e w2 ⟨rfl, hB2⟩
    have HB2 := Lib.hid (HB1.out.trans (hB2.mono HB1.out.size))
    have HA2 := Lib.hid (HA1.out.later hB2)
    have CO := CO _ (HG.out.below HB2.out)
    clear hB2 C1 i0 i1 i2 i3
    go_wp2_with fail
    refine CO.mono ?_
    rintro e w3 ⟨⟨g, x, -, ho, rfl⟩, hB3⟩
    obtain ⟨rfl, rfl⟩ := HO.out g x ho
    have HB3 := Lib.hid (HB2.out.trans (hB3.mono HB2.out.size))
    have HA3 := Lib.hid (HA2.out.later hB3)
    obtain ⟨wv, ua, ub, uc, w4, ⟨h1, e1, e2, e3, e4⟩, ⟨c1, c2, c3, c4⟩, ⟨f1, f2, f3, f4⟩, hat, hbl⟩ := fr_box g w3
    have HB4 := Lib.hid (HB3.out.trans (hbl.mono HB3.out.size))
    obtain ⟨i0, i1, i2, i3⟩ := (HA3.out.later hbl).cells
    obtain ⟨j0, j1, j2, j3⟩ := hat.cells
    obtain ⟨bo, cap, y, v, w5, w6, D, hcv, hck, hfz, hxr, hw6, hback, hDz, hbt⟩ := byte_turned T k hkT w4
    have HB6 := Lib.hid (HB4.out.trans (hbt.mono HB4.out.size))
    have HDz := Lib.hid hDz
    have CD := open_any D (by have := HTZ.out; omega) w6 (HG.out.below HB6.out)
    unfold frV
    clear hB3 CO ho hat hbl hbt hDz
    go_wp2_with fail
    refine CD.mono ?_
    rintro e w7 ⟨⟨g2, x, -, ho, rfl⟩, hB7⟩
    have HB7 := Lib.hid (HB6.out.trans (hB7.mono HB6.out.size))
    clear hB7 CD h1 e1 e2 e3 e4 c1 c2 c3 c4 f1 f2 f3 f4 hcv hck hfz hxr hw6 hback i0 i1 i2 i3 j0 j1 j2 j3 hfe hfg hkm hki hz
    obtain ⟨wv2, ua2, ub2, uc2, w8, ⟨h1, e1, e2, e3, e4⟩, ⟨c1, c2, c3, c4⟩, ⟨f1, f2, f3, f4⟩, -, hbl⟩ := fr_box g2 w7
    have HB8 := Lib.hid (HB7.out.trans (hbl.mono HB7.out.size))
    unfold frV
    rcases open_cases ho with ⟨-, hx⟩ | ⟨ok2, hs2, rfl⟩
    · have hxe : (x == 0) = false := beq_eq_false_iff_ne.2 hx
      have HBT := HB8
      clear ho hx hbl
      have C9 := CO2 _ (HG.out.below HBT.out)
      go_wp2_with fail
      refine C9.mono ?_
      rintro e wo ⟨⟨g, x, hgin, ho, rfl⟩, hBo⟩
      have HBo := Lib.hid (HBT.out.trans (hBo.mono HBT.out.size))
      obtain ⟨wv, ua, ub, uc, wp, ⟨h1, e1, e2, e3, e4⟩, ⟨c1, c2, c3, c4⟩, ⟨f1, f2, f3, f4⟩, hat, hbl⟩ := fr_box g wo
      have HBp := Lib.hid (HBo.out.trans (hbl.mono HBo.out.size))
      have HAp := Lib.hid hat
      have HGin := Lib.hid hgin
      unfold frV
      clear hBo C9 CO2 hat hbl hgin
      rcases open_cases ho with ⟨rfl, hx⟩ | ⟨okg, hs, rfl⟩
      · obtain ⟨d0, d1, d2, d3⟩ := HAp.out.cells
        obtain ⟨bz, hze, -, hbz⟩ := fr_eql fr0 fr0
        have hzg := fun w => fr_guard fr0 fr0 w
        obtain rfl := hbz.2 rfl
        have hxn : (x != 0) = true := bne_iff_ne.2 hx
        have CF := fixed_any wp (HG.out.below HBp.out)
        unfold frV fr0 at hze hzg
        unfold fr0 at d0 d1 d2 d3 e1 e2 e3 e4
        simp only at d0 d1 d2 d3 e1 e2 e3 e4
        unfold fr0
        clear hbz ho hx
        go_wp2_with fail
        refine CF.mono ?_
        rintro e wq ⟨rfl, hBq⟩
        have HBq := Lib.hid (HBp.out.trans (hBq.mono HBp.out.size))
        clear hBq CF
        go_wp2
        go_ret
        first | exact ⟨rfl, HBq.out⟩ | exact ⟨by simp, HBq.out⟩
      · obtain ⟨d0, d1, d2, d3⟩ := HAp.out.cells
        have C10 := seal_any g HGin.out wp
        rw [sealV_ok okg, show bs (sealL g) = s by rw [← hs]; rfl] at C10
        obtain ⟨t1, t2⟩ := texts_eq s
        unfold frV at C10
        clear ho hs okg
        go_wp2_with fail
        refine C10.mono ?_
        rintro e wq ⟨rfl, hBq⟩
        have HBq := Lib.hid (HBp.out.trans (hBq.mono HBp.out.size))
        have CF := fixed_any wq (HG.out.below HBq.out)
        clear hBq C10
        go_wp2_with fail
        refine CF.mono ?_
        rintro e wr ⟨rfl, hBr⟩
        have HBr := Lib.hid (HBq.out.trans (hBr.mono HBq.out.size))
        clear hBr CF
        go_wp2
        go_ret
        first | exact ⟨rfl, HBr.out⟩ | exact ⟨by simp, HBr.out⟩
    · obtain ⟨k2, hk2⟩ : ∃ k : Nat, D.size = k + 8 := ⟨D.size - 8, by have := HTZ.out; have := HDz.out; omega⟩
      have q1 : (D.size : Int) - 8 = (k2 : Int) := by omega
      have q3 : (k2 : Int) ≤ (D.size : Int) := by omega
      have q5 : RowKit.wrap64 (k2 : Int) = (k2 : Int) := w64 _ (by omega) (by have := HTZ.out; have := HDz.out; omega)
      have q4 : D.size ≤ 2021 := by have := HTZ.out; have := HDz.out; omega
      have CR := fun w => rsealed_any (D.extract 0 k2) (by rw [ByteArray.size_extract]; omega) w
      have hDs : bs (withSum (D.extract 0 k2).data.toList) = D := by
        rw [extract_take]
        have h3 : Summed D.data.toList := by rw [hs2]; exact summed_with _
        have h4 := h3.eq
        rw [show D.data.toList.length - 8 = k2 by simp; omega] at h4
        rw [← h4]; rfl
      rw [hDs] at CR
      obtain ⟨X2, hX2⟩ : ∃ X, D.extract 0 k2 = X := ⟨_, rfl⟩
      rw [hX2] at CR
      obtain ⟨t1, t2⟩ := texts_eq D
      clear ho hbl hs2 ok2 hDs hk2 q4
      go_wp2_with fail
      refine (CR _).mono ?_
      rintro e w9 ⟨rfl, hB9⟩
      have HBT := Lib.hid (HB8.out.trans (hB9.mono HB8.out.size))
      clear hB9 CR h1 e1 e2 e3 e4 c1 c2 c3 c4 f1 f2 f3 f4 t1 t2
      have C9 := CO2 _ (HG.out.below HBT.out)
      go_wp2_with fail
      refine C9.mono ?_
      rintro e wo ⟨⟨g, x, hgin, ho, rfl⟩, hBo⟩
      have HBo := Lib.hid (HBT.out.trans (hBo.mono HBT.out.size))
      obtain ⟨wv, ua, ub, uc, wp, ⟨h1, e1, e2, e3, e4⟩, ⟨c1, c2, c3, c4⟩, ⟨f1, f2, f3, f4⟩, hat, hbl⟩ := fr_box g wo
      have HBp := Lib.hid (HBo.out.trans (hbl.mono HBo.out.size))
      have HAp := Lib.hid hat
      have HGin := Lib.hid hgin
      unfold frV
      clear hBo C9 CO2 hat hbl hgin
      rcases open_cases ho with ⟨rfl, hx⟩ | ⟨okg, hs, rfl⟩
      · obtain ⟨d0, d1, d2, d3⟩ := HAp.out.cells
        obtain ⟨bz, hze, -, hbz⟩ := fr_eql fr0 fr0
        have hzg := fun w => fr_guard fr0 fr0 w
        obtain rfl := hbz.2 rfl
        have hxn : (x != 0) = true := bne_iff_ne.2 hx
        have CF := fixed_any wp (HG.out.below HBp.out)
        unfold frV fr0 at hze hzg
        unfold fr0 at d0 d1 d2 d3 e1 e2 e3 e4
        simp only at d0 d1 d2 d3 e1 e2 e3 e4
        unfold fr0
        clear hbz ho hx
        go_wp2_with fail
        refine CF.mono ?_
        rintro e wq ⟨rfl, hBq⟩
        have HBq := Lib.hid (HBp.out.trans (hBq.mono HBp.out.size))
        clear hBq CF
        go_wp2
        go_ret
        first | exact ⟨rfl, HBq.out⟩ | exact ⟨by simp, HBq.out⟩
      · obtain ⟨d0, d1, d2, d3⟩ := HAp.out.cells
        have C10 := seal_any g HGin.out wp
        rw [sealV_ok okg, show bs (sealL g) = s by rw [← hs]; rfl] at C10
        obtain ⟨t1, t2⟩ := texts_eq s
        unfold frV at C10
        clear ho hs okg
        go_wp2_with fail
        refine C10.mono ?_
        rintro e wq ⟨rfl, hBq⟩
        have HBq := Lib.hid (HBp.out.trans (hBq.mono HBp.out.size))
        have CF := fixed_any wq (HG.out.below HBq.out)
        clear hBq C10
        go_wp2_with fail
        refine CF.mono ?_
        rintro e wr ⟨rfl, hBr⟩
        have HBr := Lib.hid (HBq.out.trans (hBr.mono HBq.out.size))
        clear hBr CF
        go_wp2
        go_ret
        first | exact ⟨rfl, HBr.out⟩ | exact ⟨by simp, HBr.out⟩
  · rw [sealV_no hok] at C1
    unfold frV at C1 ⊢
    clear hf hok
    go_enter Tryd.func5, Tryd.ntmps5
    go_wp2_with fail
    refine C1.mono ?_
    rintro e w2 ⟨rfl, hB2⟩
    have HBT := Lib.hid (HB1.out.trans (hB2.mono HB1.out.size))
    clear hB2 C1 i0 i1 i2 i3
    have C9 := CO2 _ (HG.out.below HBT.out)
    go_wp2_with fail
    refine C9.mono ?_
    rintro e wo ⟨⟨g, x, hgin, ho, rfl⟩, hBo⟩
    have HBo := Lib.hid (HBT.out.trans (hBo.mono HBT.out.size))
    obtain ⟨wv, ua, ub, uc, wp, ⟨h1, e1, e2, e3, e4⟩, ⟨c1, c2, c3, c4⟩, ⟨f1, f2, f3, f4⟩, hat, hbl⟩ := fr_box g wo
    have HBp := Lib.hid (HBo.out.trans (hbl.mono HBo.out.size))
    have HAp := Lib.hid hat
    have HGin := Lib.hid hgin
    unfold frV
    clear hBo C9 CO2 hat hbl hgin
    rcases open_cases ho with ⟨rfl, hx⟩ | ⟨okg, hs, rfl⟩
    · obtain ⟨d0, d1, d2, d3⟩ := HAp.out.cells
      obtain ⟨bz, hze, -, hbz⟩ := fr_eql fr0 fr0
      have hzg := fun w => fr_guard fr0 fr0 w
      obtain rfl := hbz.2 rfl
      have hxn : (x != 0) = true := bne_iff_ne.2 hx
      have CF := fixed_any wp (HG.out.below HBp.out)
      unfold frV fr0 at hze hzg
      unfold fr0 at d0 d1 d2 d3 e1 e2 e3 e4
      simp only at d0 d1 d2 d3 e1 e2 e3 e4
      unfold fr0
      clear hbz ho hx
      go_wp2_with fail
      refine CF.mono ?_
      rintro e wq ⟨rfl, hBq⟩
      have HBq := Lib.hid (HBp.out.trans (hBq.mono HBp.out.size))
      clear hBq CF
      go_wp2
      go_ret
      first | exact ⟨rfl, HBq.out⟩ | exact ⟨by simp, HBq.out⟩
    · obtain ⟨d0, d1, d2, d3⟩ := HAp.out.cells
      have C10 := seal_any g HGin.out wp
      rw [sealV_ok okg, show bs (sealL g) = s by rw [← hs]; rfl] at C10
      obtain ⟨t1, t2⟩ := texts_eq s
      unfold frV at C10
      clear ho hs okg
      go_wp2_with fail
      refine C10.mono ?_
      rintro e wq ⟨rfl, hBq⟩
      have HBq := Lib.hid (HBp.out.trans (hBq.mono HBp.out.size))
      have CF := fixed_any wq (HG.out.below HBq.out)
      clear hBq C10
      go_wp2_with fail
      refine CF.mono ?_
      rintro e wr ⟨rfl, hBr⟩
      have HBr := Lib.hid (HBq.out.trans (hBr.mono HBq.out.size))
      clear hBr CF
      go_wp2
      go_ret
      first | exact ⟨rfl, HBr.out⟩ | exact ⟨by simp, HBr.out⟩

set_option maxRecDepth 100000 in
/-- WHAT THE WALK GIVES, for every argument that can be read. -/
theorem contract (H : Type) (enc : TypeId × Value → H) (W : World) (base : Nat) (args : Array Value) (ds gs : List (DataW H)) (before : List MemPlace)
    (hval : ∀ (j : Nat) t v, Tryd.f5.params[j]? = some t → args[j]? = some v → Value.okWide Tryd.prog W .any base t v)
    (hW : DataW.Whole enc Tryd.prog Tryd.f5.params.toList Rows.frameBackSpec.vars false W args.toList ds gs before)
    (hreach : (DataW.weightsEach Tryd.prog (Tryd.f5.params.toList) ds).all (· ≤ reachBytes) = true) (hg : GE W) :
    Calls Tryd.prog 5 args W fun e W' => ∃ v, e = .returned v ∧ Rows.frameBackSpec.post enc Tryd.prog Tryd.f5 false true false false W args v W' := by
  have hW' := hW
  obtain ⟨p, q, hA0, hV, rfl, hfz, hnd⟩ := hW
  have hA : DataW.TrodAll enc Tryd.prog W 0 (fun _ => true) true Tryd.f5.params.toList args.toList ds p := hA0
  rw [Tryd.params5] at hA hval hreach
  obtain ⟨v0, v1, v2, d0, d1, d2, p0, p1, p2, rfl, rfl, rfl, h0, h1, h2⟩ := trodAll_three hA
  obtain ⟨rfl, rfl⟩ := trodVars_none hV
  obtain ⟨s1, rfl, rfl, rfl, ws1⟩ := Go.ChangeMaps.open_string Tryd.underlying9 (hval 1 9 v1 rfl rfl) h1
  have r1 := reach_size (sized_string hreach (j := 1) rfl rfl)
  obtain ⟨n2, rfl, rfl, rfl, wn2⟩ := open_int Tryd.underlying3 (hval 2 3 v2 rfl rfl) h2
  have r2 := int_range wn2
  obtain ⟨c0, rfl, r0, rfl, sh0, -⟩ := fr_open (hval 0 23 v0 rfl rfl) h0 hreach (j := 0) rfl rfl
  clear hA0 hval
  simp only [List.append_nil] at hW'
  refine (walk c0 s1 n2 W r0 r1 r2 hg).mono fun e W' ⟨he, hB⟩ => ?_
  subst he
  exact ⟨_, rfl, post_of_below (pa := [] ++ ([] ++ ([]))) (pv := []) hW' (fun _ _ _ => trodAll_mk1 (shut_bool Tryd.underlying4 _)) (fun sp hsp => trodAll_mk3 (sh0 _ _) (Go.ChangeMaps.shut_string Tryd.underlying9 ws1) (shut_int Tryd.underlying3 wn2)) (fun _ _ => rfl) (by simp) hB (ok_one (by kernel_rfl) rfl (okWide_bool_mk Tryd.underlying4 _))⟩

theorem reads (os : Os) {H : Type} (enc : TypeId × Value → H) : ∃ places, DataW.whole enc Tryd.prog ((laidWorldH os).forCall (fun _ _ => 0) ⟨#[], #[.agg #[.int .i64 0, .int .i64 0, .int .i64 0, .string ⟨#[]⟩], .string ⟨#[]⟩, .int .i64 0], []⟩).memory Tryd.f5.params.toList Rows.frameBackSpec.vars false (#[.agg #[.int .i64 0, .int .i64 0, .int .i64 0, .string ⟨#[]⟩], .string ⟨#[]⟩, .int .i64 0] : Array Value).toList 8 = some ([.agg [.lit (.int .i64 0), .lit (.int .i64 0), .lit (.int .i64 0), .lit (.string [])], .lit (.string []), .lit (.int .i64 0)], [], places) :=
  ⟨[], by kernel_rfl⟩

set_option maxRecDepth 100000 in
theorem lifted (os : Os) (started : os.Started) (H : Type) (enc : TypeId × Value → H) (F : Stop.Interp) :
    ReturnsInHanded {} Tryd.checked os 5 .any ((OpenSpec.ofChange Rows.frameBackSpec).preRow enc Tryd.prog Tryd.f5 Rows.frameBackRow.domain false Rows.frameBackRow.laid) (((OpenSpec.ofChange Rows.frameBackSpec).at F).post enc Tryd.prog Tryd.f5 false true false false) := by
  obtain ⟨places, hx⟩ := reads os enc
  refine returnsInHanded_of_row (C := Tryd.checked) (s := OpenSpec.ofChange Rows.frameBackSpec) own started (by kernel_rfl) Tryd.func5
    (witness_row_at (enc := enc) (C := Tryd.checked) false (laidWorldH os) #[.agg #[.int .i64 0, .int .i64 0, .int .i64 0, .string ⟨#[]⟩], .string ⟨#[]⟩, .int .i64 0] rfl (by kernel_rfl) (by kernel_rfl) (by kernel_rfl)
      (OpenSpec.preRow_of_cond 8 hx (by kernel_rfl) (fun k hk => by cases hk) (by kernel_rfl) (laid_metH os _))) ?_
  intro W base args ds gs before hval hW _ hcond hreach hL _ _
  obtain ⟨p, q, hA0, hV, hpq, hfz, hnd⟩ := id hW
  obtain ⟨rfl, _⟩ := trodVars_none hV
  rw [List.append_nil] at hreach
  exact contract H enc W base args ds [] before hval hW hreach (handle_of_laid hL)

theorem said : Rows.FrameBackSaid :=
  OpenClaim.holds_of_cond 5 Tryd.f5 rfl rfl rfl rfl rfl rfl rfl ⟨rfl, rfl, rfl, rfl, rfl⟩ rfl rfl rfl rfl rfl (by kernel_rfl) Tryd.func5 (by kernel_rfl)
    (of_decide_eq_true (by kernel_rfl)) (by unfold Func.isWrapper; first | (rw [if_pos (by decide +kernel)]; kernel_rfl) | (rw [if_neg (by decide +kernel)]; exact ⟨rfl, rfl⟩))
    (fun os started H enc _ F => by rw [OpenClaim.pre_eq_preRow]; exact lifted os started H enc F)

theorem plain (f : FuncId) (fn : Func) (hf : Tryd.pinned.checked.prog.funcNamed "stillage/stillagelaw17.FrameBack" = some f) (hfn : Tryd.pinned.checked.prog.funcs[f]? = some fn) :
    true = Tryd.pinned.checked.prog.looks [] ∧ ∀ (j : Nat) t, fn.params[j]? = some t → Tryd.pinned.checked.prog.wantsStandIn t = false := by
  obtain rfl : f = 5 := Option.some.inj ((show Tryd.prog.funcNamed "stillage/stillagelaw17.FrameBack" = some 5 by kernel_rfl).symm.trans hf) |>.symm
  obtain rfl : fn = Tryd.f5 := (Option.some.inj (Tryd.func5.symm.trans hfn)).symm
  refine ⟨by kernel_rfl, fun j t ht => ?_⟩
  rw [Tryd.params5] at ht
  have hm : t ∈ [23, 9, 3] := by simpa using Array.mem_of_getElem? ht
  have hall : ([23, 9, 3].all fun u => !Tryd.prog.wantsStandIn u) = true := by kernel_rfl
  exact (show Tryd.prog.wantsStandIn t = false by simpa using List.all_eq_true.1 hall t hm)

/-- THE CARD -/
theorem card : Rows.FrameBackCardSaid :=
  Claim7.holds_tied_plain_at .later [] _ _ _ _ said (fun _ h => by cases h) (by kernel_rfl) (fun _ h => by cases h) frameBack_row_tie rfl ⟨rfl, rfl⟩ (by kernel_rfl) rfl plain (by kernel_rfl)


end Go.Proofs.YtgeggiafjojgdaaDoor.fback

