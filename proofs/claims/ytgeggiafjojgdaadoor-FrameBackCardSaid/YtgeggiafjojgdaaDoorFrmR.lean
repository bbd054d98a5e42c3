/-
  The document's Sealed, Seal and Open.
-/
import Derived.Test.YtgeggiafjojgdaaDoorFrmF
import Derived.Test.YtgeggiafjojgdaaDoorDigI
import Derived.Test.YtgeggiafjojgdaaDoorWirR
import Derived.Test.YtgeggiafjojgdaaDoorWirV
namespace Go.Proofs.YtgeggiafjojgdaaDoor
open Go.RowKit Go

theorem rdig_any (s : ByteArray) (hs : s.size ≤ 140737488351232) (w : World) :
    Calls Tryd.prog 22 #[.string keyF, .string s] w fun e w' => e = .returned (.tuple #[.string (bs (sumL s.data.toList)), .int .i64 0]) ∧ Below w.heap.size w w' := by
  have h := DG.rsum_any keyF s (by decide) hs w
  rw [sumV_key] at h
  exact h
set_option maxRecDepth 100000 in
theorem rsealed_any (s : ByteArray) (hs : s.size ≤ 140737488351232) (w : World) :
    Calls Tryd.prog 12 #[.string s] w fun e w' => e = .returned (.string (bs (withSum s.data.toList))) ∧ Below w.heap.size w w' := by
  have C := rdig_any s hs w
  have HE := Lib.hid (show bs (withSum s.data.toList) = s ++ bs (sumL s.data.toList) by rw [withSum, bs_append]; rfl)
  have hz : (bs (sumL s.data.toList)).size = 8 := by rw [bs_size, sumL_len]
  unfold keyF at C
  generalize bs (sumL s.data.toList) = D at *
  generalize bs (withSum s.data.toList) = X at *
  have n1 : ¬ 9223372036854775807 < s.size + D.size := by omega
  clear hz
  go_enter Tryd.func12, Tryd.ntmps12
  go_wp2_with fail
  refine C.mono ?_
  rintro e w1 ⟨rfl, hB⟩
  go_wp2
  go_ret
  exact ⟨by rw [HE.out]; rfl, hB⟩

set_option maxRecDepth 100000 in
set_option maxHeartbeats 8000000 in
theorem rseal_any (f : Fr) (_hf : FrIn f) (w : World) :
    Calls Tryd.prog 8 #[frV f] w fun e w' => e = .returned (sealV f) ∧ Below w.heap.size w w' := by
  obtain ⟨w1, hw1⟩ : ∃ w1, w.alloc (FrObj f) = w1 := ⟨_, rfl⟩
  have hB1 : Below w.heap.size w w1 := by rw [← hw1]; exact (Below.refl _ w).alloc (Nat.le_refl _) _
  have ha1 : FrAt f w.heap.size w1 := by rw [← hw1]; exact .new _ _
  obtain ⟨c0, c1, c2, c3⟩ := ha1.cells
  have HA1 := Lib.hid ha1
  have HB1 := Lib.hid hB1
  unfold FrObj at hw1
  unfold frV
  clear hB1 ha1
  by_cases t0 : f.kind < 0
  · have HV := Lib.hid (sealV_no (f := f) (fun h => by have := h.k0; omega))
    generalize sealV f = V at *
    go_enter Tryd.func8, Tryd.ntmps8
    go_wp2
    go_ret2
    exact ⟨by rw [HV.out]; rfl, HB1.out⟩
  · skip
    by_cases t1 : 7 < f.kind
    · have HV := Lib.hid (sealV_no (f := f) (fun h => by have := h.k1; omega))
      generalize sealV f = V at *
      go_enter Tryd.func8, Tryd.ntmps8
      go_wp2
      go_ret2
      exact ⟨by rw [HV.out]; rfl, HB1.out⟩
    · skip
      by_cases t2 : f.ses < 0
      · have HV := Lib.hid (sealV_no (f := f) (fun h => by have := h.s0; omega))
        generalize sealV f = V at *
        go_enter Tryd.func8, Tryd.ntmps8
        go_wp2
        go_ret2
        exact ⟨by rw [HV.out]; rfl, HB1.out⟩
      · skip
        by_cases t3 : 1073741824 < f.ses
        · have HV := Lib.hid (sealV_no (f := f) (fun h => by have := h.s1; omega))
          generalize sealV f = V at *
          go_enter Tryd.func8, Tryd.ntmps8
          go_wp2
          go_ret2
          exact ⟨by rw [HV.out]; rfl, HB1.out⟩
        · skip
          by_cases t4 : f.seq < 0
          · have HV := Lib.hid (sealV_no (f := f) (fun h => by have := h.q0; omega))
            generalize sealV f = V at *
            go_enter Tryd.func8, Tryd.ntmps8
            go_wp2
            go_ret2
            exact ⟨by rw [HV.out]; rfl, HB1.out⟩
          · skip
            by_cases t5 : 1073741824 < f.seq
            · have HV := Lib.hid (sealV_no (f := f) (fun h => by have := h.q1; omega))
              generalize sealV f = V at *
              go_enter Tryd.func8, Tryd.ntmps8
              go_wp2
              go_ret2
              exact ⟨by rw [HV.out]; rfl, HB1.out⟩
            · skip
              by_cases t6 : (2000 : Int) < (f.body.size : Int)
              · have HV := Lib.hid (sealV_no (f := f) (fun h => by have := h.b; omega))
                generalize sealV f = V at *
                go_enter Tryd.func8, Tryd.ntmps8
                go_wp2
                go_ret2
                exact ⟨by rw [HV.out]; rfl, HB1.out⟩
              · skip
                have hok : FrOk f := ⟨by omega, by omega, by omega, by omega, by omega, by omega, by omega⟩
                have HV := Lib.hid (sealV_ok hok)
                have C1 := fun w => refnum_any f.kind w
                have C2 := fun w => refnum_any f.ses w
                have C3 := fun w => refnum_any f.seq w
                have C4 := fun w => reftext_any f.body (by have := hok.b; omega) w
                rw [numW_ok hok.k0 (by have := hok.k1; omega)] at C1
                rw [numW_ok hok.s0 hok.s1] at C2
                rw [numW_ok hok.q0 hok.q1] at C3
                rw [textW_ok (by rw [body_len]; have := hok.b; omega), body_len] at C4
                obtain ⟨z1, z2, z3, z4⟩ := lay_parts hok
                have hLe := lay_text (f := f)
                have CS := fun w => rsealed_any (bs (layF f)) (by rw [bs_size]; have := layF_len hok; omega) w
                rw [bs_list] at CS
                rw [hLe] at CS
                have HS := Lib.hid (show bs (sealL f) = bs (withSum (layF f)) from rfl)
                generalize bs (withSum (layF f)) = X at *
                generalize bs (sealL f) = Y at *
                generalize bs (dg f.kind.toNat) = P1 at *
                generalize bs (dg f.ses.toNat) = P2 at *
                generalize bs (dg f.seq.toNat) = P3 at *
                generalize bs (dg f.body.size ++ f.body.data.toList) = P4 at *
                have n1 : ¬ 9223372036854775807 < P1.size + P2.size := by omega
                have n2 : ¬ 9223372036854775807 < (P1 ++ P2).size + P3.size := by rw [ByteArray.size_append]; omega
                have n3 : ¬ 9223372036854775807 < (P1 ++ P2 ++ P3).size + P4.size := by rw [ByteArray.size_append, ByteArray.size_append]; omega
                generalize sealV f = V at *
                clear hLe hok z1 z2 z3 z4
                go_enter Tryd.func8, Tryd.ntmps8
                go_wp2_with fail
                refine (C1 _).mono ?_
                rintro e w2 ⟨rfl, hB2⟩
                have HA2 := Lib.hid (HA1.out.later hB2)
                have HB2 := Lib.hid (HB1.out.trans (hB2.mono HB1.out.size))
                clear hB2 C1 c0 c1 c2 c3 t0 t1 t2 t3 t4 t5 t6
                obtain ⟨y0, y1, y2, y3⟩ := HA2.out.cells
                go_wp2_with fail
                refine (C2 _).mono ?_
                rintro e w3 ⟨rfl, hB3⟩
                have HA3 := Lib.hid (HA2.out.later hB3)
                have HB3 := Lib.hid (HB2.out.trans (hB3.mono HB2.out.size))
                clear hB3 C2 y0 y1 y2 y3
                obtain ⟨y0, y1, y2, y3⟩ := HA3.out.cells
                go_wp2_with fail
                refine (C3 _).mono ?_
                rintro e w4 ⟨rfl, hB4⟩
                have HA4 := Lib.hid (HA3.out.later hB4)
                have HB4 := Lib.hid (HB3.out.trans (hB4.mono HB3.out.size))
                clear hB4 C3 y0 y1 y2 y3
                obtain ⟨y0, y1, y2, y3⟩ := HA4.out.cells
                go_wp2_with fail
                refine (C4 _).mono ?_
                rintro e w5 ⟨rfl, hB5⟩
                have HB5 := Lib.hid (HB4.out.trans (hB5.mono HB4.out.size))
                clear hB5 C4 y0 y1 y2 y3
                go_wp2_with fail
                refine (CS _).mono ?_
                rintro e w6 ⟨rfl, hB6⟩
                have HB6 := Lib.hid (HB5.out.trans (hB6.mono HB5.out.size))
                clear hB6 CS
                go_wp2
                go_ret2
                exact ⟨by rw [HV.out, HS.out]; rfl, HB6.out⟩

/-- what the document's reading goes by: the reader, the answer's own variable -/
structure RRdg (w0 : World) (q b : Nat) (s : ByteArray) (r : Rd) (W : World) : Prop where
  at_ : FrAt fr0 q W
  rd : ∃ p e, W.heap[b]? = some (QObj s p e) ∧ Stands s p e r
  below : Below w0.heap.size w0 W
  q0 : w0.heap.size ≤ q
  b0 : w0.heap.size ≤ b
  ne : b ≠ q
section
variable {w0 W W' : World} {q b : Nat} {s : ByteArray} {r r' : Rd}
theorem RRdg.moved (h : RRdg w0 q b s r W) {p : Nat} {e : Int} (hs : Stands s p e r') (m : Moved b (QObj s p e) W W') : RRdg w0 q b s r' W' :=
  ⟨⟨m.other h.at_.obj (fun e => h.ne e.symm)⟩, ⟨p, e, m.here, hs⟩, h.below.trans (m.below h.b0 h.below.size), h.q0, h.b0, h.ne⟩
theorem RRdg.later (h : RRdg w0 q b s r W) (m : Below W.heap.size W W') : RRdg w0 q b s r W' := by
  obtain ⟨p, e, h1, h2⟩ := h.rd
  exact ⟨h.at_.later m, ⟨p, e, keeps_of m h1, h2⟩, h.below.trans (m.mono h.below.size), h.q0, h.b0, h.ne⟩
theorem RRdg.num (h : RRdg w0 q b s r W) (hs : s.size ≤ 281474976710656) (most : Int) :
    Calls Tryd.prog 19 #[.pointer (some ⟨b, 0, none⟩), .int .i64 most] W fun v w' => v = .returned (.tuple #[.int .i64 (numR r most).1, .int .i64 (numR r most).2.err]) ∧ RRdg w0 q b s (numR r most).2 w' := by
  obtain ⟨p, e, h1, h2⟩ := h.rd
  exact (mnum_any b s p e r most hs h2 W h1).mono fun v w' ⟨p', e', hv, k1, k2⟩ => ⟨hv, h.moved k1 k2⟩
theorem RRdg.text (h : RRdg w0 q b s r W) (hs : s.size ≤ 281474976710656) (most : Int) :
    Calls Tryd.prog 20 #[.pointer (some ⟨b, 0, none⟩), .int .i64 most] W fun v w' => v = .returned (.tuple #[.string (bs (textR r most).1), .int .i64 (textR r most).2.err]) ∧ RRdg w0 q b s (textR r most).2 w' := by
  obtain ⟨p, e, h1, h2⟩ := h.rd
  exact (mtext_any b s p e r most hs h2 W h1).mono fun v w' ⟨p', e', hv, k1, k2⟩ => ⟨hv, h.moved k1 k2⟩
theorem RRdg.end_ (h : RRdg w0 q b s r W) :
    Calls Tryd.prog 21 #[.pointer (some ⟨b, 0, none⟩)] W fun v w' => v = .returned (.int .i64 (endR r)) ∧ Below W.heap.size W w' := by
  obtain ⟨p, e, h1, h2⟩ := h.rd
  exact rend_any b s p e r h2 W h1
end
def maxJ : Int := 1152921504606846976
set_option maxRecDepth 100000 in
set_option maxHeartbeats 8000000 in
theorem ropen_any (s : ByteArray) (hs : s.size ≤ 140737488351240) (w : World) :
    Calls Tryd.prog 11 #[.string s] w fun e w' => OpenE s.data.toList e ∧ Below w.heap.size w w' := by
  have hsl : s.data.toList.length = s.size := by simp
  obtain ⟨w1, hw1⟩ : ∃ w1, w.alloc (FrObj fr0) = w1 := ⟨_, rfl⟩
  have hB1 : Below w.heap.size w w1 := by rw [← hw1]; exact (Below.refl _ w).alloc (Nat.le_refl _) _
  have ha1 : FrAt fr0 w.heap.size w1 := by rw [← hw1]; exact .new _ _
  have HA1 := Lib.hid ha1
  have HB1 := Lib.hid hB1
  unfold FrObj fr0 at hw1
  simp only at hw1
  clear hB1 ha1
  by_cases h8 : s.size < 8
  · have HX := Lib.hid (show OpenIs s.data.toList fr0 171 from .inl ⟨fun h => by have := h.1; omega, rfl, rfl⟩)
    have hi : (s.size : Int) < 8 := by omega
    clear h8
    obtain ⟨u1, u2, u3, u4, ⟨e1, e2, e3, e4⟩, ⟨c1, c2, c3, c4⟩, ⟨f1, f2, f3, f4⟩, ha5, hs5⟩ := fr_store fr0 HA1.out
    have HB5 := Lib.hid (HB1.out.trans (hs5.below (B := w.heap.size) (fun i hi => by subst hi; exact Nat.le_refl _) HB1.out.size))
    obtain ⟨q1, q2, q3, q4⟩ := ha5.cells
    unfold fr0 at e1 e2 e3 e4 c1 c2 c3 c4 q1 q2 q3 q4
    simp only at e1 e2 e3 e4 c1 c2 c3 c4 q1 q2 q3 q4
    clear ha5 hs5
    go_enter Tryd.func11, Tryd.ntmps11
    go_wp2
    refine bodyPost_ret ?_ rfl ⟨⟨_, _, fr0_in, HX.out, rfl⟩, HB5.out⟩
    rw [results_cell_tmp rfl]
    go_simp
    try rfl
  · obtain ⟨k, hk⟩ : ∃ k : Nat, s.size = k + 8 := ⟨s.size - 8, by omega⟩
    have hke : s.data.toList.length - 8 = k := by omega
    have h1 : (s.size : Int) - 8 = (k : Int) := by omega
    have h2 : ¬ (s.size : Int) < 8 := by omega
    have h3 : (k : Int) ≤ (s.size : Int) := by omega
    have hxs : (s.extract 0 k).size = k := by rw [ByteArray.size_extract]; omega
    have CS := fun w => rsealed_any (s.extract 0 k) (by omega) w
    have hxl : (s.extract 0 k).data.toList = s.data.toList.take k := extract_take s k
    rw [hxl] at CS
    have HSum := Lib.hid (show bs (withSum (s.data.toList.take k)) = s ↔ Summed s.data.toList by
      rw [summed_iff _ (by omega), hke]
      exact ⟨fun e => by rw [← bs_list (withSum _), e], fun e => by rw [e]; rfl⟩)
    have HRd := Lib.hid (fun (h : Summed s.data.toList) => open_of_read h (m := maxJ) (by decide))
    have HIt := Lib.hid (fun (h : Summed s.data.toList) (h2 : frE (s.data.toList.take k) maxJ = 0) => show bs (sealL (frR (s.data.toList.take k) maxJ)) = s by
      have h3 := h.eq
      rw [hke] at h3
      rw [sealL, ← (read_inv h2).1, ← h3]; rfl)
    rw [hke] at HRd
    have HIn := Lib.hid (frR_in (s.data.toList.take k) maxJ (by rw [List.length_take]; omega))
    have HP1 := Lib.hid (show numR ⟨s.data.toList.take k, 0⟩ maxJ = rd1 (s.data.toList.take k) maxJ from rfl)
    have HP2 := Lib.hid (show numR (rd1 (s.data.toList.take k) maxJ).2 maxJ = rd2 (s.data.toList.take k) maxJ from rfl)
    have HP3 := Lib.hid (show numR (rd2 (s.data.toList.take k) maxJ).2 maxJ = rd3 (s.data.toList.take k) maxJ from rfl)
    have HP4 := Lib.hid (show textR (rd3 (s.data.toList.take k) maxJ).2 65536 = rd4 (s.data.toList.take k) maxJ from rfl)
    have HF := Lib.hid (show frR (s.data.toList.take k) maxJ = ⟨(rd1 (s.data.toList.take k) maxJ).1, (rd2 (s.data.toList.take k) maxJ).1, (rd3 (s.data.toList.take k) maxJ).1, bs (rd4 (s.data.toList.take k) maxJ).1⟩ from rfl)
    have HE := Lib.hid (show endR (rd4 (s.data.toList.take k) maxJ).2 = frE (s.data.toList.take k) maxJ from rfl)
    generalize frR (s.data.toList.take k) maxJ = R at *
    generalize frE (s.data.toList.take k) maxJ = E at *
    generalize rd1 (s.data.toList.take k) maxJ = p1 at *
    generalize rd2 (s.data.toList.take k) maxJ = p2 at *
    generalize rd3 (s.data.toList.take k) maxJ = p3 at *
    generalize rd4 (s.data.toList.take k) maxJ = p4 at *
    generalize bs (withSum (s.data.toList.take k)) = D at *
    obtain ⟨X, hX⟩ : ∃ X, s.extract 0 k = X := ⟨_, rfl⟩
    rw [hX] at CS
    have HX1 := Lib.hid (show X.data.toList = s.data.toList.take k by rw [← hX, hxl])
    have HXz := Lib.hid (show X.size ≤ 281474976710656 by rw [← hX, hxs]; omega)
    have HK := Lib.hid (And.intro hk hsl)
    clear hxs hxl hke hk hsl h8
    by_cases hYD : D = s
    · have HSm := Lib.hid (HSum.out.1 hYD)
      obtain ⟨t1, t2⟩ := texts_eq s
      have HRd := Lib.hid (HRd.out HSm.out)
      have HIt := Lib.hid (HIt.out HSm.out)
      subst hYD
      clear HSum
      go_enter Tryd.func11, Tryd.ntmps11
      go_wp2_with fail
      refine (CS _).mono ?_
      rintro e w3 ⟨rfl, hB3⟩
      have HB3 := Lib.hid (HB1.out.trans (hB3.mono HB1.out.size))
      have HA3 := Lib.hid (HA1.out.later hB3)
      obtain ⟨w4, hw4⟩ : ∃ w4, w3.alloc (.cells #[.string X, .int .i64 0, .int .i64 0] 41) = w4 := ⟨_, rfl⟩
      have HD := Lib.hid (show RRdg w w.heap.size w3.heap.size X ⟨X.data.toList, 0⟩ w4 from
        have hb4 : Below w3.heap.size w3 w4 := by rw [← hw4]; exact (Below.refl _ w3).alloc (Nat.le_refl _) _
        ⟨HA3.out.later hb4, ⟨0, 0, by rw [← hw4]; exact heap_alloc_new _ _, ⟨rfl, fun _ => Nat.zero_le _, fun _ => by simp⟩⟩, HB3.out.trans (hb4.mono HB3.out.size), Nat.le_refl _, HB3.out.size, by have := HA3.out.lt; omega⟩)
      rw [HX1.out] at HD
      clear hB3 CS
      have C1 := HD.out.num HXz.out maxJ
      rw [HP1.out] at C1
      unfold maxJ at C1
      go_wp2_with fail
      refine C1.mono ?_
      rintro e w5 ⟨rfl, hD⟩
      have HD1 := Lib.hid hD
      clear hD C1 hw4
      have C2 := HD1.out.num HXz.out maxJ
      rw [HP2.out] at C2
      unfold maxJ at C2
      go_wp2_with fail
      refine C2.mono ?_
      rintro e w6 ⟨rfl, hD⟩
      have HD2 := Lib.hid hD
      clear hD C2
      have C3 := HD2.out.num HXz.out maxJ
      rw [HP3.out] at C3
      unfold maxJ at C3
      go_wp2_with fail
      refine C3.mono ?_
      rintro e w7 ⟨rfl, hD⟩
      have HD3 := Lib.hid hD
      clear hD C3
      have C4 := HD3.out.text HXz.out 65536
      rw [HP4.out] at C4
      go_wp2_with fail
      refine C4.mono ?_
      rintro e w8 ⟨rfl, hD⟩
      have HD4 := Lib.hid hD
      clear hD C4
      obtain ⟨w9, hw9⟩ : ∃ w9, w8.alloc (FrObj fr0) = w9 := ⟨_, rfl⟩
      have hb9 : Below w8.heap.size w8 w9 := by rw [← hw9]; exact (Below.refl _ w8).alloc (Nat.le_refl _) _
      have ha9 : FrAt fr0 w8.heap.size w9 := by rw [← hw9]; exact .new _ _
      obtain ⟨u1, u2, u3, u4, ⟨e1, e2, e3, e4⟩, ⟨c1, c2, c3, c4⟩, ⟨f1, f2, f3, f4⟩, ha6, hs6⟩ := fr_store R ha9
      have HB9 := Lib.hid (show Below w8.heap.size w8 u4 from hb9.trans (hs6.below (fun i hi => by subst hi; exact Nat.le_refl _) hb9.size))
      have HD5 := Lib.hid (HD4.out.later HB9.out)
      have HR6 := Lib.hid ha6
      obtain ⟨r0, r1, r2, r3⟩ := ha6.cells
      have hRf := HF.out
      rw [hRf] at e1 e2 e3 e4
      have CL := rseal_any R HIn.out u4
      unfold frV at CL
      unfold FrObj fr0 at hw9
      unfold fr0 at c1 c2 c3 c4
      simp only at hw9 c1 c2 c3 c4 e1 e2 e3 e4
      clear hb9 ha9 ha6 hs6 hRf HF
      go_wp2_with fail
      refine CL.mono ?_
      rintro e wa ⟨rfl, hBa⟩
      have HD6 := Lib.hid (HD5.out.later hBa)
      have HR7 := Lib.hid (HR6.out.later hBa)
      clear hBa CL r0 r1 r2 r3 hw9 e1 e2 e3 e4 c1 c2 c3 c4 f1 f2 f3 f4
      have CE := HD6.out.end_
      rw [HE.out] at CE
      by_cases hok : FrOk R
      · rw [sealV_ok hok]
        by_cases hE : E = 0
        · subst hE
          have HX := Lib.hid (HRd.out.1 ⟨rfl, hok⟩)
          have hIt := HIt.out rfl
          rw [hIt]
          go_wp2_with fail
          refine CE.mono ?_
          rintro e wb ⟨rfl, hBb⟩
          have HD7 := Lib.hid (HD6.out.later hBb)
          obtain ⟨r0, r1, r2, r3⟩ := (HR7.out.later hBb).cells
          obtain ⟨u1, u2, u3, u4, ⟨e1, e2, e3, e4⟩, ⟨c1, c2, c3, c4⟩, ⟨f1, f2, f3, f4⟩, ha8, hs8⟩ := fr_store R HD7.out.at_
          have HB8 := Lib.hid (HD7.out.below.trans (hs8.below (B := w.heap.size) (fun i hi => by subst hi; exact Nat.le_refl _) HD7.out.below.size))
          obtain ⟨q1, q2, q3, q4⟩ := ha8.cells
          unfold fr0 at c1 c2 c3 c4
          simp only at c1 c2 c3 c4
          clear ha8 hs8 hBb CE hIt hok
          go_wp2
          refine bodyPost_ret ?_ rfl ⟨⟨_, _, HIn.out, HX.out, rfl⟩, HB8.out⟩
          rw [results_cell_tmp rfl]
          go_simp
          try rfl
        · have HX := Lib.hid (HRd.out.2 (fun h => hE h.1))
          have hEn : (E != 0) = true := bne_iff_ne.2 hE
          go_wp2_with fail
          refine CE.mono ?_
          rintro e wb ⟨rfl, hBb⟩
          have HD7 := Lib.hid (HD6.out.later hBb)
          obtain ⟨u1, u2, u3, u4, ⟨e1, e2, e3, e4⟩, ⟨c1, c2, c3, c4⟩, ⟨f1, f2, f3, f4⟩, ha8, hs8⟩ := fr_store fr0 HD7.out.at_
          have HB8 := Lib.hid (HD7.out.below.trans (hs8.below (B := w.heap.size) (fun i hi => by subst hi; exact Nat.le_refl _) HD7.out.below.size))
          obtain ⟨q1, q2, q3, q4⟩ := ha8.cells
          unfold fr0 at c1 c2 c3 c4 e1 e2 e3 e4 q1 q2 q3 q4
          simp only at c1 c2 c3 c4 e1 e2 e3 e4 q1 q2 q3 q4
          clear ha8 hs8 hBb CE hok
          go_wp2
          refine bodyPost_ret ?_ rfl ⟨⟨_, _, fr0_in, HX.out, rfl⟩, HB8.out⟩
          rw [results_cell_tmp rfl]
          go_simp
          try rfl
      · rw [sealV_no hok]
        have HX := Lib.hid (HRd.out.2 (fun h => hok h.2))
        obtain ⟨bE, hbE⟩ : ∃ b : Bool, (E != 0) = b := ⟨_, rfl⟩
        go_wp2_with fail
        refine CE.mono ?_
        rintro e wb ⟨rfl, hBb⟩
        have HD7 := Lib.hid (HD6.out.later hBb)
        obtain ⟨u1, u2, u3, u4, ⟨e1, e2, e3, e4⟩, ⟨c1, c2, c3, c4⟩, ⟨f1, f2, f3, f4⟩, ha8, hs8⟩ := fr_store fr0 HD7.out.at_
        have HB8 := Lib.hid (HD7.out.below.trans (hs8.below (B := w.heap.size) (fun i hi => by subst hi; exact Nat.le_refl _) HD7.out.below.size))
        obtain ⟨q1, q2, q3, q4⟩ := ha8.cells
        unfold fr0 at c1 c2 c3 c4 e1 e2 e3 e4 q1 q2 q3 q4
        simp only at c1 c2 c3 c4 e1 e2 e3 e4 q1 q2 q3 q4
        clear ha8 hs8 hBb CE hok
        cases bE with
        | true =>
          go_wp2
          refine bodyPost_ret ?_ rfl ⟨⟨_, _, fr0_in, HX.out, rfl⟩, HB8.out⟩
          rw [results_cell_tmp rfl]
          go_simp
          try rfl
        | false =>
          go_wp2
          refine bodyPost_ret ?_ rfl ⟨⟨_, _, fr0_in, HX.out, rfl⟩, HB8.out⟩
          rw [results_cell_tmp rfl]
          go_simp
          try rfl
    · have HX := Lib.hid (show OpenIs s.data.toList fr0 171 from .inl ⟨fun h => hYD (HSum.out.2 h), rfl, rfl⟩)
      obtain ⟨t1, t2⟩ := texts_no hYD
      clear HSum hYD HRd HIt
      go_enter Tryd.func11, Tryd.ntmps11
      go_wp2_with fail
      refine (CS _).mono ?_
      rintro e w3 ⟨rfl, hB3⟩
      have HB3 := Lib.hid (HB1.out.trans (hB3.mono HB1.out.size))
      have HA3 := Lib.hid (HA1.out.later hB3)
      obtain ⟨u1, u2, u3, u4, ⟨e1, e2, e3, e4⟩, ⟨c1, c2, c3, c4⟩, ⟨f1, f2, f3, f4⟩, ha5, hs5⟩ := fr_store fr0 HA3.out
      have HB5 := Lib.hid (HB3.out.trans (hs5.below (B := w.heap.size) (fun i hi => by subst hi; exact Nat.le_refl _) HB3.out.size))
      obtain ⟨q1, q2, q3, q4⟩ := ha5.cells
      unfold fr0 at e1 e2 e3 e4 c1 c2 c3 c4 q1 q2 q3 q4
      simp only at e1 e2 e3 e4 c1 c2 c3 c4 q1 q2 q3 q4
      clear ha5 hs5 CS hB3
      go_wp2
      refine bodyPost_ret ?_ rfl ⟨⟨_, _, fr0_in, HX.out, rfl⟩, HB5.out⟩
      rw [results_cell_tmp rfl]
      go_simp
      try rfl
end Go.Proofs.YtgeggiafjojgdaaDoor

