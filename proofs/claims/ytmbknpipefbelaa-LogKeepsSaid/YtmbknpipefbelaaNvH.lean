/-
  A log: Append, Start, in the program.
-/
import Derived.Test.YtmbknpipefbelaaNvG
namespace Go.Proofs.Ytmbknpipefbelaa
open Go.RowKit Go Go.Maps SM

section
variable {base l b g m : Nat} {v : Value} {x : LS} {w w' : World}
theorem recB_snoc (L : List ByteArray) (r : ByteArray) : recB (L ++ [r]) = recB L ++ (bsL (leN r.size 2) ++ r).data.toList := by
  rw [recB_append, recB_cons, recB_nil, List.append_nil]
  simp [ByteArray.data_append, bsL]
set_option maxRecDepth 100000 in
set_option maxHeartbeats 4000000 in
theorem append_any (h : LIs base l b g m v x w) (hm : x.disk.made < 900000000) (hbase : base ≤ w.heap.size) (r : ByteArray) (hr : r.size ≤ 140737488355328) :
    Calls Try.prog 9 #[.pointer (some ⟨l, 0, none⟩), .string r] w fun e w' => ∃ v', e = .returned (.int .i64 (x.appE r)) ∧ LIs base l b g m v' (x.app r) w' ∧ Stir (LFoot l b g m v) w w' := by
  obtain ⟨h, hsz⟩ := h
  obtain ⟨E, hE⟩ : ∃ E, x.appE r = E := ⟨_, rfl⟩
  obtain ⟨y, hy⟩ : ∃ y, x.app r = y := ⟨_, rfl⟩
  rw [hE, hy]
  by_cases h1 : 1300 < r.size
  · obtain rfl : 71 = E := by rw [← hE]; simp [LS.appE, h1]
    obtain rfl : x = y := by rw [← hy]; simp [LS.app, h1]
    have h1i : (1300 : Int) < (r.size : Int) := by omega
    have HL := Lib.hid h
    clear h h1 hE hy
    go_enter Try.func9, Try.ntmps9
    go_wp2
    go_ret
    exact ⟨_, rfl, ⟨HL.out, hsz⟩, Stir.refl _ _⟩
  · have h1i : ¬ (1300 : Int) < (r.size : Int) := by omega
    have c3 := LObj.c3 h.obj
    cases hd : x.dead with
    | true =>
      obtain rfl : 2 = E := by rw [← hE]; simp [LS.appE, h1, hd]
      obtain rfl : x = y := by rw [← hy]; simp [LS.app, h1, hd]
      have HL := Lib.hid h
      rw [hd] at c3
      clear h h1 hd hE hy
      go_enter Try.func9, Try.ntmps9
      go_wp2
      go_ret
      exact ⟨rfl, ⟨_, HL.out, hsz⟩, Stir.refl _ _⟩
    | false =>
      rw [hd] at c3
      have CN := fun w => number_any r.size 2 (by omega) (by omega) w
      have hms : (bsL (leN r.size 2) ++ r).size = 2 + r.size := by rw [ByteArray.size_append, size_bsL, length_leN]
      have hnum : (bsL (leN r.size 2)).size = 2 := by rw [size_bsL, length_leN]
      have HSn := Lib.hid (recB_snoc x.recs r)
      generalize bsL (leN r.size 2) = X at CN hms hnum HSn
      have nsum : ¬ 9223372036854775807 < X.size + r.size := by omega
      have CR := fun W (h : LogAt base l b g m v x.gen (recB x.recs) x.dead x.disk W) => room_any h
      have hle := h.le
      have hln := h.len
      have HL := Lib.hid h
      have hN : 64 * halfN x.disk ≤ 1048576 := by have := h.disk.1.le; unfold halfN; omega
      by_cases hf : 64 * halfN x.disk < (recB x.recs).length + 2 + r.size
      · obtain rfl : 72 = E := by rw [← hE]; simp [LS.appE, h1, hd, LS.full, hf]
        obtain rfl : x = y := by rw [← hy]; simp [LS.app, h1, hd, LS.full, hf]
        have hgt : ((64 * halfN x.disk : Nat) : Int) - ((recB x.recs).length : Int) < ((X ++ r).size : Int) := by omega
        generalize 64 * halfN x.disk = N at *
        generalize hM : X ++ r = M at *
        clear h h1 hd hf hE hy
        go_enter Try.func9, Try.ntmps9
        go_wp2_with fail
        refine (CN _).mono ?_
        rintro e w1 ⟨rfl, hB1⟩
        have H1 := Lib.hid (HL.out.below hB1)
        have HB1 := Lib.hid hB1
        clear hB1 CN
        go_wp2_with fail
        refine (CR _ H1.out).mono ?_
        rintro e w2 ⟨rfl, hB2⟩
        have H2 := Lib.hid (H1.out.below hB2)
        have HB2 := Lib.hid (HB1.out.trans (hB2.mono HB1.out.size))
        clear hB2 CR
        go_wp2
        go_ret
        exact ⟨_, rfl, ⟨H2.out, hsz⟩, Stir.of_below HB2.out⟩
      · have hgt : ¬ ((64 * halfN x.disk : Nat) : Int) - ((recB x.recs).length : Int) < ((X ++ r).size : Int) := by omega
        have HEq := Lib.hid (show (E = (appD x.gen x.recs r x.disk).1) ∧ ((appD x.gen x.recs r x.disk).1 = 0 → y = { x with recs := x.recs ++ [r], disk := (appD x.gen x.recs r x.disk).2 }) ∧ ((appD x.gen x.recs r x.disk).1 ≠ 0 → y = { x with dead := (appD x.gen x.recs r x.disk).1 == 2, disk := (appD x.gen x.recs r x.disk).2 }) from
          ⟨by rw [← hE]; simp [LS.appE, h1, hd, LS.full, hf], fun e => by rw [← hy]; simp [LS.app, h1, hd, LS.full, hf, e], fun e => by rw [← hy]; simp [LS.app, h1, hd, LS.full, hf, e]⟩)
        obtain ⟨i0, hi, hz0, hz1, hz2⟩ := info_parts info5e
        obtain ⟨av, cv, rfl⟩ := row_shape h.row
        have hKE : appD x.gen x.recs r x.disk = keepD x.gen (recB x.recs).length (recB (x.recs ++ [r])) x.disk := rfl
        have hlk := (len_keepD x.gen (recB x.recs).length (recB (x.recs ++ [r])) x.disk).1
        rw [← hKE] at hlk
        obtain ⟨R, hR⟩ : ∃ R, appD x.gen x.recs r x.disk = R := ⟨_, rfl⟩
        rw [hR] at hKE HEq hlk
        have HKE := Lib.hid hKE
        have hal : (recB (x.recs ++ [r])).length = (recB x.recs).length + (X ++ r).size := by rw [HSn.out, List.length_append, len_of]
        have HA := Lib.hid hal
        have hMz : 2 ≤ (X ++ r).size := by omega
        have hM2 : (X ++ r).size ≤ 1302 := by omega
        have hm1 : (recB x.recs).length + (X ++ r).size ≤ 64 * halfN x.disk := by omega
        have HM1 := Lib.hid hm1
        generalize hNN : 64 * halfN x.disk = N at hle hN hgt CR
        generalize hM : X ++ r = M at *
        have HNN := Lib.hid hNN
        have HMS := Lib.hid hms
        have hgt2 : ¬ (N : Int) - ((recB x.recs).length : Int) < (M.size : Int) := hgt
        clear h h1 hf hKE hR hal hm1 hNN hE hy hms
        go_enter Try.func9, Try.ntmps9
        go_wp2_with fail
        refine (CN _).mono ?_
        rintro e w1 ⟨rfl, hB1⟩
        have H1 := Lib.hid (HL.out.below hB1)
        have HB1 := Lib.hid hB1
        clear hB1 CN
        go_wp2_with fail
        refine (CR _ H1.out).mono ?_
        rintro e w2 ⟨rfl, hB2⟩
        have H2 := Lib.hid (H1.out.below hB2)
        have HB2 := Lib.hid (HB1.out.trans (hB2.mono HB1.out.size))
        have c2 := LObj.c2 H2.out.obj
        have hbw : base ≤ w2.heap.size := Nat.le_trans hbase HB2.out.size
        clear hB2 CR
        have HB2' := Lib.hid HB2.out.size
        go_wp2_with (at_builtin; refine wpList_append_text _ rfl _ _ 43 9 rfl base 5 i0 Try.underlying43 Try.underlying9 hi hz0 hz1 hz2 _ _ _ rfl H2.out.row M rfl (by unfold maxLen; omega) (by omega) hbw ?_; intro u w3 hown hgrow hat; change w2.grownBy w3 (Value.slice av (recB x.recs).length cv).ownBlock at hgrow; change (u.ownBlock = (Value.slice av (recB x.recs).length cv).ownBlock ∨ u.ownBlock = some w2.heap.size) ∧ w3.ownsRow base 5 1 (Value.slice av (recB x.recs).length cv) (recB x.recs).length (u8c (recB x.recs)) at hat; obtain ⟨au, cu, rfl⟩ := row_shape hown; have HO := Lib.hid hown; have HG := Lib.hid hgrow; have HAt := Lib.hid hat; clear hown hgrow hat)
        have hst := stir_of_grown HG.out
        have hnl : ∀ k, (Value.slice av (recB x.recs).length cv).ownBlock = some k → l ≠ k := fun k hk e => by
          obtain ⟨C, hC⟩ := owns_block H2.out.row hk
          rw [← e, H2.out.obj] at hC
          simp [LObj] at hC
        have hl3 : LogAt base l b g m (.slice av (recB x.recs).length cv) x.gen (recB x.recs) x.dead x.disk w3 :=
          ⟨hst.keep H2.out.obj (fun e => hnl l e rfl), HAt.out.2, H2.out.disk.stay hst (fun i hi e => H2.out.row_not_disk e hi), H2.out.far, H2.out.le, H2.out.gle⟩
        have hou : w3.ownsRow base 5 1 (.slice au ((recB x.recs).length + M.size) cu) (recB (x.recs ++ [r])).length (u8c (recB (x.recs ++ [r]))) := by
          have := HO.out
          rw [HA.out, HSn.out]
          simpa [u8c, strCells_u8c] using this
        have hgl : g < w2.heap.size := H2.out.disk.lt (.inr (.inl rfl))
        have hfar : (Value.slice au ((recB x.recs).length + M.size) cu).ownBlock ≠ some g := by
          rcases HAt.out.1 with e | e
          · rw [e]; exact H2.out.far
          · rw [e]; intro e2; have := Option.some.inj e2; omega
        have CK := keep_any hl3 hm hou hfar (by rw [HA.out]; omega) (by intro e; have := HA.out; rw [e] at this; simp at this; omega) (by rw [HA.out]; exact HM1.out)
        rw [← HKE.out, ← HEq.out.1] at CK
        have H3 := Lib.hid hl3
        have HU := Lib.hid hou
        have HFar := Lib.hid hfar
        have S3 := Lib.hid (show Stir (LFoot l b g m (.slice av (recB x.recs).length cv)) w w3 from (Stir.of_below HB2.out).trans hst (fun i e => .inl (.inr (.inr e))))
        clear hst hnl hl3 hou hgl hfar
        go_wp2_with fail
        refine CK.mono ?_
        rintro e w4 ⟨rfl, h4, s4⟩
        have H4 := Lib.hid (H3.out.turn h4 s4 hlk)
        have S4 := Lib.hid (S3.out.trans s4 (fun i e => .inl (.inr (.inl e))))
        have HU4 := Lib.hid (owns_stay HU.out s4 (fun k hk hf => by
          rcases HAt.out.1 with e | e
          · exact H3.out.row_not_disk (e ▸ hk) hf
          · rw [e] at hk
            have h5 := Option.some.inj hk
            subst h5
            exact absurd (H2.out.disk.lt hf) (Nat.lt_irrefl _)))
        clear h4 s4 CK
        have hhf : halfN R.2 = halfN x.disk := by unfold halfN; rw [hlk]
        by_cases hR0 : E = 0
        · subst hR0
          have hEq := HEq.out
          have hy := hEq.2.1 hEq.1.symm
          have f2 := LObj.fr H4.out.obj 2
          have c2' := LObj.c2 H4.out.obj
          have hl5 : LogAt base l b g m (.slice au ((recB x.recs).length + M.size) cu) y.gen (recB y.recs) y.dead y.disk (w4.setCell ⟨l, 2, none⟩ (.slice au ((recB x.recs).length + M.size) cu)) := by
            rw [hy]
            refine ⟨?_, owns_other HU4.out H4.out.obj (by decide) _, H4.out.disk.stay ((Stir.refl (· = l) w4).set (.inl rfl) _) (fun i hi e => H4.out.log_not_disk (e ▸ hi)), HFar.out, ?_, H4.out.gle⟩
            · rw [heap_set H4.out.obj]; simp [LObj]
            · show (recB (x.recs ++ [r])).length ≤ 64 * halfN R.2
              rw [HA.out, hhf]; exact HM1.out
          have hs5 : ∀ q ∈ y.recs, q.size ≤ 1300 := by
            rw [hy]
            intro q hq
            rcases List.mem_append.1 hq with hq | hq
            · exact hsz q hq
            · rw [List.mem_singleton.1 hq]; omega
          have H5 := Lib.hid (show LIs base l b g m _ y _ from ⟨hl5, hs5⟩)
          have S5 := Lib.hid (S4.out.set (b := l) (i := 2) (.inl (.inl rfl)) (.slice au ((recB x.recs).length + M.size) cu))
          clear hl5 hs5 hEq hy hhf
          go_wp2
          go_ret
          first | exact ⟨_, rfl, H5.out, S5.out⟩ | exact ⟨rfl, ⟨_, H5.out⟩, S5.out⟩
        · have hEq := HEq.out
          have hy := hEq.2.2 (by rw [← hEq.1]; exact hR0)
          rw [← hEq.1] at hy
          have hEb : (E != 0) = true := by simpa using hR0
          have CT := note_any H4.out E
          have HY := Lib.hid hy
          clear hEq hy hhf hR0
          go_wp2_with fail
          refine CT.mono ?_
          rintro e w5 ⟨rfl, h5, s5⟩
          have H5 := Lib.hid h5
          have S5 := Lib.hid (S4.out.trans s5 (fun i e => .inl (.inl e)))
          clear h5 s5 CT
          go_wp2
          go_ret
          have hfin : LIs base l b g m (.slice av (recB x.recs).length cv) y w5 := by rw [HY.out]; exact ⟨H5.out, hsz⟩
          first | exact ⟨_, rfl, hfin, S5.out⟩ | exact ⟨rfl, ⟨_, hfin⟩, S5.out⟩

set_option maxRecDepth 100000 in
set_option maxHeartbeats 4000000 in
theorem start_any (h : LIs base l b g m v x w) (hm : x.disk.made < 900000000) (n : Int) (hn : I64 n) :
    Calls Try.prog 10 #[.pointer (some ⟨l, 0, none⟩), .int .i64 n] w fun e w' => ∃ v', e = .returned (.int .i64 (x.startE n)) ∧ LIs base l b g m v' (x.start n) w' ∧ Stir (LFoot l b g m v) w w' := by
  obtain ⟨h, hsz⟩ := h
  obtain ⟨E, hE⟩ : ∃ E, x.startE n = E := ⟨_, rfl⟩
  obtain ⟨y, hy⟩ : ∃ y, x.start n = y := ⟨_, rfl⟩
  rw [hE, hy]
  have c1 := LObj.c1 h.obj
  have HL := Lib.hid h
  by_cases h1 : n ≤ x.gen
  · obtain rfl : 70 = E := by rw [← hE]; simp [LS.startE, LS.form, h1]
    obtain rfl : x = y := by rw [← hy]; simp [LS.start, LS.form, h1]
    clear h hE hy
    go_enter Try.func10, Try.ntmps10
    go_wp2
    go_ret
    first | exact ⟨_, rfl, ⟨HL.out, hsz⟩, Stir.refl _ _⟩ | exact ⟨rfl, ⟨_, HL.out, hsz⟩, Stir.refl _ _⟩
  · by_cases h2 : 1099511627776 < n
    · obtain rfl : 70 = E := by rw [← hE]; simp [LS.startE, LS.form, h2]
      obtain rfl : x = y := by rw [← hy]; simp [LS.start, LS.form, h2]
      clear h hE hy
      go_enter Try.func10, Try.ntmps10
      go_wp2
      go_ret
      first | exact ⟨_, rfl, ⟨HL.out, hsz⟩, Stir.refl _ _⟩ | exact ⟨rfl, ⟨_, HL.out, hsz⟩, Stir.refl _ _⟩
    · have c3 := LObj.c3 h.obj
      cases hd : x.dead with
      | true =>
        rw [hd] at c3
        obtain rfl : 2 = E := by rw [← hE]; simp [LS.startE, LS.form, h1, h2, hd]
        obtain rfl : x = y := by rw [← hy]; simp [LS.start, LS.form, h1, h2, hd]
        clear h hE hy hd
        go_enter Try.func10, Try.ntmps10
        go_wp2
        go_ret
        first | exact ⟨_, rfl, ⟨HL.out, hsz⟩, Stir.refl _ _⟩ | exact ⟨rfl, ⟨_, HL.out, hsz⟩, Stir.refl _ _⟩
      | false =>
        rw [hd] at c3
        have HEq := Lib.hid (show (E = (heads n.toNat 0 x.disk).1) ∧ ((heads n.toNat 0 x.disk).1 = 0 → y = { gen := n.toNat, recs := [], dead := x.dead, disk := (heads n.toNat 0 x.disk).2 }) ∧ ((heads n.toNat 0 x.disk).1 ≠ 0 → y = { x with dead := (heads n.toNat 0 x.disk).1 == 2, disk := (heads n.toNat 0 x.disk).2 }) from
          ⟨by rw [← hE]; simp [LS.startE, LS.form, h1, h2, hd], fun e => by rw [← hy]; simp [LS.start, LS.form, h1, h2, hd, e], fun e => by rw [← hy]; simp [LS.start, LS.form, h1, h2, hd, e]⟩)
        have c0 := LObj.c0 h.obj
        have hlk := (len_heads n.toNat 0 x.disk).1
        obtain ⟨N, hN⟩ : ∃ N : Nat, n = (N : Int) := ⟨n.toNat, by omega⟩
        subst hN
        rw [Int.toNat_natCast] at HEq hlk
        have CS := fun w (h : DiskAt b g m x.disk w) => say_any (gen := N) (used := 0) h (by omega) (by omega) (by omega)
        obtain ⟨R, hR⟩ : ∃ R, heads N 0 x.disk = R := ⟨_, rfl⟩
        rw [hR] at CS HEq hlk
        rw [← HEq.out.1] at CS
        have HLK := Lib.hid hlk
        have hNle : N ≤ 1099511627776 := by omega
        clear h hE hy hd hR hlk
        go_enter Try.func10, Try.ntmps10
        go_wp2_with fail
        refine (CS _ HL.out.disk).mono ?_
        rintro e w4 ⟨rfl, h4, s4⟩
        have H4 := Lib.hid (HL.out.turn h4 s4 HLK.out)
        have S4 := Lib.hid (show Stir (LFoot l b g m v) w w4 from s4.weaken (fun _ e => .inr (.inl e)))
        clear h4 s4 CS
        by_cases hR0 : E = 0
        · subst hR0
          have hEq := HEq.out
          have hy := hEq.2.1 hEq.1.symm
          have f1 := LObj.fr H4.out.obj 1
          have f2 := LObj.fr H4.out.obj 2
          have c1' := LObj.c1 H4.out.obj
          have c2' := LObj.c2 H4.out.obj
          have hst : Stir (· = l) w4 ((w4.setCell ⟨l, 1, none⟩ (.int .i64 N)).setCell ⟨l, 2, none⟩ (.slice none 0 0)) := ((Stir.refl (· = l) w4).set (.inl rfl) _).set (.inl rfl) _
          have hl5 : LogAt base l b g m (.slice none 0 0) y.gen (recB y.recs) y.dead y.disk ((w4.setCell ⟨l, 1, none⟩ (.int .i64 N)).setCell ⟨l, 2, none⟩ (.slice none 0 0)) := by
            rw [hy]
            refine ⟨?_, World.ownsRow_nil _ _ _ _, H4.out.disk.stay hst (fun i hi e => H4.out.log_not_disk (e ▸ hi)), by simp [Value.ownBlock], Nat.zero_le _, hNle⟩
            rw [heap_set (heap_set H4.out.obj _)]; simp [LObj]
          have hs5 : ∀ q ∈ y.recs, q.size ≤ 1300 := by rw [hy]; simp
          have H5 := Lib.hid (show LIs base l b g m _ y _ from ⟨hl5, hs5⟩)
          have S5 := Lib.hid (S4.out.trans hst (fun i e => .inl (.inl e)))
          clear hl5 hs5 hEq hy hst
          go_wp2
          go_ret
          first | exact ⟨_, rfl, H5.out, S5.out⟩ | exact ⟨rfl, ⟨_, H5.out⟩, S5.out⟩
        · have hEq := HEq.out
          have hy := hEq.2.2 (by rw [← hEq.1]; exact hR0)
          rw [← hEq.1] at hy
          have hEb : (E != 0) = true := by simpa using hR0
          have CT := note_any H4.out E
          have HY := Lib.hid hy
          clear hEq hy hR0
          go_wp2_with fail
          refine CT.mono ?_
          rintro e w5 ⟨rfl, h5, s5⟩
          have H5 := Lib.hid h5
          have S5 := Lib.hid (S4.out.trans s5 (fun i e => .inl (.inl e)))
          clear h5 s5 CT
          go_wp2
          go_ret
          have hfin : LIs base l b g m v y w5 := by rw [HY.out]; exact ⟨H5.out, hsz⟩
          first | exact ⟨_, rfl, hfin, S5.out⟩ | exact ⟨rfl, ⟨_, hfin⟩, S5.out⟩
end
end Go.Proofs.Ytmbknpipefbelaa
