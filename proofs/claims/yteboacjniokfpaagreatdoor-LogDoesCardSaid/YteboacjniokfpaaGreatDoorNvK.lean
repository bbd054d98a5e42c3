/-
  A log: Open.
-/
import Derived.Test.YteboacjniokfpaaGreatDoorNvJ
namespace Go.Proofs.YteboacjniokfpaaGreatDoor
open Go.RowKit Go Go.Maps SM

def openG (s : DS) : Nat := saidG (s.readS 0)
def openU (s : DS) : Nat := saidU (s.readS 0)
def openL (s : DS) : Int × List UInt8 := loads s (halfAt s.stay (openG s)) ((openU s + 63) / 64) 0
def openForm (s : DS) : Bool := !(saidOk (s.readS 0)) || decide (64 * halfN s < openU s)
def openRecs (s : DS) : Option (List ByteArray) := recsOf ((openL s).2.take (openU s))
/-- what Open answers -/
def openE (s : DS) : Int := if s.stay.length < 5 then 70 else if s.readE 0 ≠ 0 then s.readE 0 else if openForm s then 70 else if (openL s).1 ≠ 0 then (openL s).1 else if (openRecs s).isSome then 0 else 70
def openX (s : DS) : LS := ⟨openG s, (openRecs s).getD [], false, s⟩
section
variable {b g m : Nat} {s : DS} {w w' : World}
set_option maxRecDepth 100000 in
set_option maxHeartbeats 4000000 in
theorem open_any (h : DiskAt b g m s w) :
    Calls Tryz.prog 19 #[.pointer (some ⟨b, 0, none⟩)] w fun e w' => ∃ a, e = .returned (.tuple #[a, .int .i64 (openE s)]) ∧ NewLog w.heap.size b g m a (openE s) (openX s) w w' ∧ Below w.heap.size w w' := by
  have C1 := sectors_any h
  have C2 := read_any h 0 ⟨by decide, by decide⟩
  have HD := Lib.hid h
  have hok := h.1
  obtain ⟨E, hE⟩ : ∃ E, openE s = E := ⟨_, rfl⟩
  rw [hE]
  have hle := hok.le
  by_cases h5 : s.stay.length < 5
  · obtain rfl : 70 = E := by rw [← hE, openE, if_pos h5]
    generalize s.stay.length = N at C1 h5 hle
    have h5i : (N : Int) < 5 := by omega
    clear h hE hok C2
    go_enter Tryz.func19, Tryz.ntmps19
    go_wp2_with fail
    refine C1.mono ?_
    rintro e w' ⟨rfl, rfl⟩
    go_wp2
    go_ret2
    exact ⟨_, rfl, .inr ⟨by decide, rfl⟩, Below.refl _ _⟩
  · have h5i : ¬ (s.stay.length : Int) < 5 := by omega
    rw [openE, if_neg h5] at hE
    by_cases hr : s.readE 0 = 0
    · rw [if_neg (by simpa using hr)] at hE
      have hx := hok.readS_size hr
      rw [hr] at C2
      have CS := fun w => said_any (s.readS 0) hx w
      have CH := fun W (h : DiskAt b g m s W) => halfSize_any h
      obtain ⟨G, hG⟩ : ∃ G, saidG (s.readS 0) = G := ⟨_, rfl⟩
      obtain ⟨U, hU⟩ : ∃ U, saidU (s.readS 0) = U := ⟨_, rfl⟩
      obtain ⟨O, hO⟩ : ∃ O, saidOk (s.readS 0) = O := ⟨_, rfl⟩
      have hOG : O = true → G ≤ 1099511627776 := fun e => by rw [← hO, saidOk_is, hG] at e; exact e.1
      have hUle := saidU_le (s.readS 0)
      rw [hU] at hUle
      have HF := Lib.hid (show openForm s = (!O || decide (64 * halfN s < U)) by rw [openForm, hO, openU, hU])
      have HLd := Lib.hid (show openL s = loads s (halfAt s.stay G) ((U + 63) / 64) 0 by rw [openL, openG, openU, hG, hU])
      have HG := Lib.hid (show openG s = G from hG)
      have HUu := Lib.hid (show openU s = U from hU)
      rw [hG, hU, hO] at CS
      have hN1 : 64 * halfN s ≤ 1048576 := by unfold halfN; omega
      have HLen := Lib.hid hle
      generalize s.readS 0 = X at C2 CS
      clear hG hU hO hx hr h hle
      by_cases hf : openForm s = true
      · rw [if_pos hf] at hE
        subst hE
        have hf2 : O = false ∨ (O = true ∧ 64 * halfN s < U) := by
          rw [HF.out] at hf
          cases O <;> simp at hf ⊢
          exact hf
        generalize s.stay.length = N at C1 h5i
        clear hf hok hOG
        rcases hf2 with rfl | ⟨rfl, hlt⟩
        · go_enter Tryz.func19, Tryz.ntmps19
          go_wp2_with fail
          refine C1.mono ?_
          rintro e w' ⟨rfl, rfl⟩
          go_wp2_with fail
          refine C2.mono ?_
          rintro e w2 ⟨rfl, hB2⟩
          have HB2 := Lib.hid hB2
          clear hB2 C2
          go_wp2_with fail
          refine (CS _).mono ?_
          rintro e w3 ⟨rfl, hB3⟩
          have HB3 := Lib.hid (HB2.out.trans (hB3.mono HB2.out.size))
          clear hB3 CS
          go_wp2
          go_ret2
          exact ⟨_, rfl, .inr ⟨by decide, rfl⟩, HB3.out⟩
        · have hgt : ((64 * halfN s : Nat) : Int) < (U : Int) := by omega
          generalize 64 * halfN s = M at CH hgt hN1
          clear hlt
          go_enter Tryz.func19, Tryz.ntmps19
          go_wp2_with fail
          refine C1.mono ?_
          rintro e w' ⟨rfl, rfl⟩
          go_wp2_with fail
          refine C2.mono ?_
          rintro e w2 ⟨rfl, hB2⟩
          have HB2 := Lib.hid hB2
          clear hB2 C2
          go_wp2_with fail
          refine (CS _).mono ?_
          rintro e w3 ⟨rfl, hB3⟩
          have HB3 := Lib.hid (HB2.out.trans (hB3.mono HB2.out.size))
          clear hB3 CS
          go_wp2_with fail
          refine (CH _ (HD.out.below HB3.out)).mono ?_
          rintro e w' ⟨rfl, rfl⟩
          go_wp2
          go_ret2
          exact ⟨_, rfl, .inr ⟨by decide, rfl⟩, HB3.out⟩
      · rw [if_neg hf] at hE
        have hf2 : O = true ∧ U ≤ 64 * halfN s := by
          rw [HF.out] at hf
          cases O <;> simp at hf ⊢
          exact hf
        obtain ⟨rfl, hU⟩ := hf2
        have hG := hOG rfl
        have hgt : ¬ ((64 * halfN s : Nat) : Int) < (U : Int) := by omega
        have HRecs := Lib.hid (show openRecs s = recsOf ((openL s).2.take U) by rw [openRecs, HUu.out])
        have CL := fun l W (h : DiskAt b g m s W) (h0 : W.heap[l]? = some (LObj b G (.slice none 0 0) false)) => load_any h0 h hG U hU
        rw [← HLd.out] at CL
        obtain ⟨Z, hZ⟩ : ∃ Z, openL s = Z := ⟨_, rfl⟩
        rw [hZ] at hE HRecs CL
        have HUle := Lib.hid hU
        generalize hMM : 64 * halfN s = M at CH hgt hN1
        have HMM := Lib.hid hMM
        generalize s.stay.length = N at C1 h5i
        clear hf hok hOG hZ hU hMM HLd
        go_enter Tryz.func19, Tryz.ntmps19
        go_wp2_with fail
        refine C1.mono ?_
        rintro e w' ⟨rfl, rfl⟩
        go_wp2_with fail
        refine C2.mono ?_
        rintro e w2 ⟨rfl, hB2⟩
        have HB2 := Lib.hid hB2
        clear hB2 C2
        go_wp2_with fail
        refine (CS _).mono ?_
        rintro e w3 ⟨rfl, hB3⟩
        have HB3 := Lib.hid (HB2.out.trans (hB3.mono HB2.out.size))
        clear hB3 CS
        go_wp2_with fail
        refine (CH _ (HD.out.below HB3.out)).mono ?_
        rintro e w' ⟨rfl, rfl⟩
        obtain ⟨w4, hw4⟩ : ∃ w4, w3.alloc (LObj b G (.slice none 0 0) false) = w4 := ⟨_, rfl⟩
        have hB4 : Below w3.heap.size w3 w4 := by rw [← hw4]; exact (Below.refl _ w3).alloc (Nat.le_refl _) _
        have hs4 : w4.heap.size = w3.heap.size + 1 := by rw [← hw4]; simp
        have HO4 := Lib.hid (show w4.heap[w3.heap.size]? = some (LObj b G (.slice none 0 0) false) by rw [← hw4]; exact heap_alloc_new _ _)
        have HB4 := Lib.hid (HB3.out.trans (hB4.mono HB3.out.size))
        have HS4 := Lib.hid hs4
        unfold LObj at hw4
        have CL := CL w3.heap.size w4 (HD.out.below HB4.out) HO4.out
        clear hB4 hs4
        go_wp2_with fail
        refine CL.mono ?_
        rintro e w5 ⟨v, R, rfl, hl5, hR⟩
        have H5 := Lib.hid hl5
        have HB5 := Lib.hid (HB4.out.trans (hl5.stir.below (B := w.heap.size) (fun k e => by subst e; exact HB3.out.size) HB4.out.size))
        clear hl5 CL hw4
        by_cases hZ0 : Z.1 = 0
        · rw [if_neg (by simpa using hZ0)] at hE
          have hRR := hR hZ0
          rw [← hRR] at HRecs
          rw [hZ0]
          have hRl : R.length ≤ 1048576 := by rw [hRR, List.length_take]; have := HUle.out; omega
          have HRl := Lib.hid (show R.length ≤ 64 * halfN s by rw [hRR, List.length_take]; have := HUle.out; omega)
          obtain ⟨av, cv, rfl⟩ := row_shape H5.out.row
          have c2 := LObj.c2 H5.out.obj
          have CP := split_any (rest_of_row H5.out.row) hRl
          clear hR hRR hRl hZ0
          go_wp2_with fail
          refine CP.mono ?_
          rintro e w6 ⟨r, rfl, hs6, hB6⟩
          have HB6 := Lib.hid (HB5.out.trans (hB6.mono HB5.out.size))
          have H6 := Lib.hid (H5.out.below hB6)
          clear hB6 CP c2
          unfold SplitV at hs6
          cases hrec : recsOf R with
          | none =>
            rw [hrec] at hs6
            simp only at hs6
            subst hs6
            obtain rfl : 70 = E := by rw [← hE, HRecs.out, hrec]; rfl
            clear hE
            go_wp2
            go_ret2
            exact ⟨_, rfl, .inr ⟨by decide, rfl⟩, HB6.out⟩
          | some L =>
            rw [hrec] at hs6
            simp only at hs6
            obtain ⟨u, rfl, ho6⟩ := hs6
            obtain rfl : 0 = E := by rw [← hE, HRecs.out, hrec]; rfl
            obtain ⟨hRB, hLs⟩ := recsOf_is hrec
            obtain ⟨au, cu, rfl⟩ := row_shape ho6
            have hgl : g < w4.heap.size := (HD.out.below HB4.out).lt (.inr (.inl rfl))
            have hfin : LIs w.heap.size w3.heap.size b g m (.slice av R.length cv) (openX s) w6 := by
              have hX : openX s = ⟨G, L, false, s⟩ := by rw [openX, HRecs.out, hrec, HG.out]; rfl
              rw [hX]
              refine ⟨⟨H6.out.obj, ?_, H6.out.disk, ?_, ?_, hG⟩, hLs⟩
              · show w6.ownsRow _ _ _ _ (recB L).length (u8c (recB L))
                rw [hRB]
                exact H6.out.row.mono HB4.out.size
              · intro e
                have := (H6.out.row.lt g e).1
                omega
              · show (recB L).length ≤ _
                rw [hRB]; exact HRl.out
            have HFin := Lib.hid hfin
            clear hE hfin hRB ho6 hrec
            go_wp2
            go_ret2
            exact ⟨_, rfl, .inl ⟨rfl, _, _, rfl, HB3.out.size, HFin.out⟩, HB6.out⟩
        · rw [if_pos (by simpa using hZ0)] at hE
          rw [hE] at hZ0 ⊢
          have HZ0 := Lib.hid hZ0
          have hZb : (E != 0) = true := by simpa using hZ0
          clear hZ0 hR
          go_wp2
          go_ret2
          exact ⟨_, rfl, .inr ⟨HZ0.out, rfl⟩, HB5.out⟩
    · rw [if_pos (by simpa using hr)] at hE
      subst hE
      have hrb : (s.readE 0 != 0) = true := by simpa using hr
      have HR := Lib.hid hr
      generalize s.stay.length = N at C1 h5i hle
      generalize s.readE 0 = E at *
      clear h hok hr h5
      go_enter Tryz.func19, Tryz.ntmps19
      go_wp2_with fail
      refine C1.mono ?_
      rintro e w' ⟨rfl, rfl⟩
      go_wp2_with fail
      refine C2.mono ?_
      rintro e w2 ⟨rfl, hB2⟩
      have HB2 := Lib.hid hB2
      clear hB2 C2
      go_wp2
      go_ret2
      exact ⟨_, rfl, .inr ⟨HR.out, rfl⟩, HB2.out⟩
end
end Go.Proofs.YteboacjniokfpaaGreatDoor

