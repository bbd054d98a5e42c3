/-
  A log: bytes are laid and made to stay (keep).
-/
import Derived.Test.YtmbknpipefbelaaNvE
namespace Go.Proofs.Ytmbknpipefbelaa
open Go.RowKit Go Go.Maps SM

/-- what keep makes of a disk: n bytes were there, now these are -/
def keepD (g n : Nat) (all : List UInt8) (s : DS) : Int × DS :=
  if (put (halfAt s.stay g) all (n / 64) ((all.length + 63) / 64 - n / 64) s).1 = 0 then heads g all.length (put (halfAt s.stay g) all (n / 64) ((all.length + 63) / 64 - n / 64) s).2
  else put (halfAt s.stay g) all (n / 64) ((all.length + 63) / 64 - n / 64) s
theorem appD_keep (g : Nat) (L : List ByteArray) (r : ByteArray) (s : DS) : appD g L r s = keepD g (recB L).length (recB (L ++ [r])) s := rfl
theorem secB_fill (all : List UInt8) (j : Nat) : secB all j = fillB (bsL ((all.drop (64 * j)).take 64)) := by
  apply ByteArray.ext
  apply Array.toList_inj.1
  simp [secB, secL, fillB, ByteArray.data_append, bsL, zeros, ByteArray.size]
theorem rest_of_row {base : Nat} {u : Value} {all : List UInt8} {w : World} (h : w.ownsRow base 5 1 u all.length (u8c all)) : Rest u all w := by
  rcases h.2 with ⟨rfl, h0⟩ | ⟨g, cap, cur, rfl, _, hg, h4, h5, h6, h7⟩
  · exact ⟨none, 0, by rw [h0], by omega, by unfold maxLen; omega, fun hne => absurd (List.eq_nil_of_length_eq_zero h0) hne⟩
  · refine ⟨_, cap, rfl, h4, h5, fun _ => ⟨g, 0, cur, _, rfl, hg, fun i hi => ?_⟩⟩
    have := h.cellAt (g := g) (cap := cap) i (by omega)
    rw [Nat.zero_add, this]
    simp [u8c, hi]
section
variable {from_ : Nat} {all : List UInt8}
theorem puts_zero (i : Nat) (s : DS) : puts from_ all 0 i s = (0, s) := rfl
theorem puts_go {k i : Nat} {s : DS} (h : s.writeE ((from_ + i : Nat) : Int) (secB all i) = 0) : puts from_ all (k + 1) i s = puts from_ all k (i + 1) (s.write ((from_ + i : Nat) : Int) (secB all i)) := by rw [puts, if_pos h]
theorem puts_stop {k i : Nat} {s : DS} (h : s.writeE ((from_ + i : Nat) : Int) (secB all i) ≠ 0) : puts from_ all (k + 1) i s = (s.writeE ((from_ + i : Nat) : Int) (secB all i), s.write ((from_ + i : Nat) : Int) (secB all i)) := by rw [puts, if_neg h]
end
theorem keepD_stop {g n : Nat} {all : List UInt8} {s sw : DS} {E : Int} (h : puts (halfAt s.stay g) all ((all.length + 63) / 64 - n / 64) (n / 64) s = (E, sw)) (hE : E ≠ 0) : keepD g n all s = (E, sw) := by
  unfold keepD put
  rw [h]
  simp [hE]
theorem keepD_sync {g n : Nat} {all : List UInt8} {s s1 : DS} (h : puts (halfAt s.stay g) all ((all.length + 63) / 64 - n / 64) (n / 64) s = (0, s1)) (hE : s1.syncE ≠ 0) : keepD g n all s = (s1.syncE, s1.sync) := by
  unfold keepD put
  rw [h]
  simp [hE]
theorem keepD_all {g n : Nat} {all : List UInt8} {s s1 : DS} (h : puts (halfAt s.stay g) all ((all.length + 63) / 64 - n / 64) (n / 64) s = (0, s1)) (hE : s1.syncE = 0) : keepD g n all s = heads g all.length s1.sync := by
  unfold keepD put
  rw [h]
  simp [hE]
/-- a log's object beside its disk, since a world -/
structure LD (l b g m gen : Nat) (v : Value) (dead : Bool) (s : DS) (w0 w : World) : Prop where
  obj : w.heap[l]? = some (LObj b gen v dead)
  disk : DiskAt b g m s w
  stir : Stir (Foot b g m) w0 w
section
variable {base l b g m gen : Nat} {v : Value} {B : List UInt8} {dead : Bool} {s : DS} {w0 w w' : World}
theorem LD.below (h : LD l b g m gen v dead s w0 w) (hB : Below w.heap.size w w') : LD l b g m gen v dead s w0 w' := ⟨keeps_of hB h.obj, h.disk.below hB, h.stir.and_below hB⟩
theorem LD.drew (h : LD l b g m gen v dead s w0 w) : LD l b g m gen v dead s w0 w.drew := h.below ((Below.refl _ w).drew)
theorem LD.turn {s' : DS} (h : LD l b g m gen v dead s w0 w) (hd : DiskAt b g m s' w') (hs : Stir (Foot b g m) w w') : LD l b g m gen v dead s' w0 w' :=
  ⟨hs.keep h.obj (h.disk.not_cells h.obj (by decide) (by decide)), hd, h.stir.trans hs (fun _ e => .inl e)⟩
set_option maxRecDepth 100000 in
set_option maxHeartbeats 4000000 in
theorem keep_any (h : LogAt base l b g m v gen B dead s w) (hm : s.made < 900000000) {u : Value} {all : List UInt8} (hu : w.ownsRow base 5 1 u all.length (u8c all)) (hfar : u.ownBlock ≠ some g) (hBl : B.length ≤ all.length) (hne : all ≠ []) (hfit : all.length ≤ 64 * halfN s) :
    Calls Try.prog 33 #[.pointer (some ⟨l, 0, none⟩), u] w fun e w' => e = .returned (.int .i64 (keepD gen B.length all s).1) ∧ DiskAt b g m (keepD gen B.length all s).2 w' ∧ Stir (Foot b g m) w w' := by
  obtain ⟨R, hR⟩ : ∃ R, keepD gen B.length all s = R := ⟨_, rfl⟩
  rw [hR]
  have HR := Lib.hid hR
  clear hR
  obtain ⟨av, cv, rfl⟩ := row_shape h.row
  have hnil : u ≠ .slice none 0 0 := by
    rintro rfl
    rcases hu.2 with ⟨_, h0⟩ | ⟨_, _, _, e, _⟩
    · exact hne (List.eq_nil_of_length_eq_zero h0)
    · cases e
  obtain ⟨gu, cu, rfl, _, _, hcu, hcm, _⟩ := row_cells' hu hnil
  have HL := Lib.hid h
  have HU := Lib.hid hu
  have HF := Lib.hid (fun (k : Nat) (hk : (Value.slice (some ⟨gu, 0, none⟩) all.length cu).ownBlock = some k) => show ¬ Foot b g m k by
    obtain ⟨C, hC⟩ := owns_block hu hk
    obtain ⟨⟨C1, f1, e1⟩, ⟨C2, f2, e2⟩, ⟨es, c, e3⟩⟩ := h.disk.kinds
    rintro (rfl | rfl | rfl)
    · rw [hC] at e1; simp at e1
    · exact hfar hk
    · rw [hC] at e3; cases e3)
  have c2 : w.drew.cell? ⟨l, 2, none⟩ = some (.slice av B.length cv) := LObj.c2 h.obj
  have hN : halfN s ≤ 8192 := by have := h.disk.1.le; unfold halfN; omega
  have hgle := h.gle
  have hln := Lib.hid (show B.length - B.length % 64 = 64 * (B.length / 64) by omega)
  have hm1 : (B.length : Int) % 64 = ((B.length % 64 : Nat) : Int) := by omega
  have hm2 : (B.length : Int).tmod 64 = ((B.length % 64 : Nat) : Int) := by rw [Int.tmod_eq_emod_of_nonneg (by omega)]; omega
  have hml : B.length % 64 ≤ B.length := Nat.mod_le _ _
  obtain ⟨lo, hlo⟩ : ∃ lo, B.length / 64 = lo := ⟨_, rfl⟩
  rw [hlo] at hln
  have HLo := Lib.hid hlo
  have hlo2 : 64 * lo ≤ B.length := by omega
  obtain ⟨wh, hwh⟩ : ∃ wh, 64 * lo = wh := ⟨_, rfl⟩
  rw [hwh] at hln hlo2
  generalize B.length % 64 = q at *
  have hsub : (B.length : Int) - (q : Int) = (wh : Int) := by have := hln.out; omega
  have k1 := wrapI (q : Int) (by omega) (by omega)
  have k2 := wrapI (wh : Int) (by omega) (by omega)
  have HW := Lib.hid hwh
  clear hlo hwh
  have HN := Lib.hid hN
  have HFit := Lib.hid hfit
  have hal : all.length ≤ 524288 := by omega
  clear h hu hfar hne hnil hN hfit
  go_enter Try.func33, Try.ntmps33
  go_wp2
  go_region_held3 (fun w' => w'.cell? ⟨l, 2, none⟩ = some (.slice av B.length cv)) (exact c2) (first | fail)
  go_wp2
  have hlohi : lo ≤ (all.length + 63) / 64 := by have := HW.out; omega
  have S0 : Stir (Foot b g m) w w.drew := (Stir.refl _ w).drew
  go_loopw [6] (fun i wr => ∃ (j at_ : Nat) (sj : DS), lo ≤ j ∧ j ≤ (all.length + 63) / 64 ∧ Hid (at_ = 64 * j) ∧ i = .int .i64 at_ ∧ Hid (puts (halfAt s.stay gen) all ((all.length + 63) / 64 - lo) lo s = puts (halfAt s.stay gen) all ((all.length + 63) / 64 - j) j sj) ∧ DiskAt b g m sj wr ∧ Stir (Foot b g m) w wr ∧ sj.made ≤ s.made + j ∧ sj.stay.length = s.stay.length) (fun i _ => all.length + 64 - (intOf i).toNat)
  case atStart => exact ⟨lo, wh, s, Nat.le_refl _, hlohi, Lib.hid HW.out.symm, rfl, Lib.hid rfl, HL.out.disk.drew, S0, by omega, rfl⟩
  case round =>
    obtain ⟨j, at_, sj, hj1, hj2, HAt, rfl, HP, hd, hs, hmj, hlj⟩ := hrel
    have HD := Lib.hid hd
    have HS := Lib.hid hs
    by_cases hlt : at_ < all.length
    · have hjh : j < (all.length + 63) / 64 := by have := HAt.out; omega
      obtain ⟨k, hk⟩ : ∃ k, (all.length + 63) / 64 - j = k + 1 := ⟨(all.length + 63) / 64 - j - 1, by omega⟩
      have hk2 : (all.length + 63) / 64 - (j + 1) = k := by omega
      have hr := rest_of_row (owns_stay HU.out hs HF.out)
      obtain ⟨mn, e1, e2, e3, hmn⟩ := clampMin (at_ + 64) all.length
      rw [show ((at_ + 64 : Nat) : Int) = (at_ : Int) + 64 by omega] at e1 e2 e3
      have hra : Rest (.slice (some ⟨gu, at_, none⟩) (mn - at_) (cu - at_)) ((all.drop at_).take 64) wr := by
        obtain ⟨a, cap, e, h2, h3, h4⟩ := hr
        simp only [Value.slice.injEq] at e
        obtain ⟨rfl, -, rfl⟩ := e
        have hd1 := (sliced_rest (k := at_) (by omega) h2 h3 h4).2
        rw [if_neg (by omega), Option.map_some, Addr.add_lit, Nat.zero_add] at hd1
        obtain ⟨a, cap, e, h2', h3', h4'⟩ := hd1
        simp only [Value.slice.injEq] at e
        obtain ⟨rfl, -, rfl⟩ := e
        have ht1 := (sliced_rest (k := mn - at_) (by rw [List.length_drop]; omega) h2' h3' h4').1
        rw [show (all.drop at_).take (mn - at_) = (all.drop at_).take 64 by
          rw [List.take_eq_take_min (i := 64), List.length_drop]
          congr 1
          omega] at ht1
        exact ht1
      have hcv := hra.conv
      have HX := Lib.hid (show secB all j = fillB (bsL ((all.drop at_).take 64)) by rw [secB_fill, HAt.out])
      have hXs : (bsL ((all.drop at_).take 64)).size ≤ 64 := by rw [size_bsL, List.length_take]; omega
      have CF := fun w => fill_any (bsL ((all.drop at_).take 64)) hXs w
      rw [← HX.out] at CF
      generalize bsL ((all.drop at_).take 64) = X at hcv CF
      have HMn := Lib.hid hmn
      have hcat : ¬ cu = at_ := by omega
      have hai : (at_ : Int) < (all.length : Int) := by omega
      have hai2 : (at_ : Int) ≤ (mn : Int) := by omega
      have hmc : (mn : Int) ≤ (cu : Int) := by omega
      have k5 := wrapI ((at_ : Int) + 64) (by omega) (by omega)
      obtain ⟨n0, hn0⟩ : ∃ n0, halfAt s.stay gen + j = n0 := ⟨_, rfl⟩
      have hha : halfAt sj.stay gen = halfAt s.stay gen := halfAt_len hlj gen
      have CS : ∀ W, LD l b g m gen (.slice av B.length cv) dead sj w W → Calls Try.prog 52 #[.pointer (some ⟨l, 0, none⟩), .int .i64 at_] W fun e w' => e = .returned (.int .i64 n0) ∧ Below W.heap.size W w' := fun W h => by
        have := lsector_at h.obj h.disk hgle at_ (by omega)
        rw [hha, show at_ / 64 = j by have := HAt.out; omega, hn0] at this
        exact this
      have hni : I64 (n0 : Int) := by
        have h1 := halfAt_fit s.stay gen HL.out.disk.1.pos (n := j) (by have := HFit.out; unfold halfN at this; omega)
        have h2 := HL.out.disk.1.le
        constructor <;> omega
      have CW := fun W (h : LD l b g m gen (.slice av B.length cv) dead sj w W) => write_any h.disk (by omega) (n0 : Int) hni (secB all j)
      have hmw := made_write' sj (n0 : Int) (secB all j)
      have hlw := len_write sj (n0 : Int) (secB all j)
      have HD0 := Lib.hid (show LD l b g m gen (.slice av B.length cv) dead sj w wr.drew from LD.drew ⟨hs.keep HL.out.obj HL.out.log_not_disk, hd, hs⟩)
      have c0 := LObj.c0 HD0.out.obj
      have HGo := Lib.hid (fun h => puts_go (from_ := halfAt s.stay gen) (all := all) (k := k) (i := j) (s := sj) h)
      have HStop := Lib.hid (fun h => puts_stop (from_ := halfAt s.stay gen) (all := all) (k := k) (i := j) (s := sj) h)
      rw [hn0] at HGo HStop
      rw [hk] at HP
      generalize hsec : secB all j = Y at *
      clear hra hr hmn hXs hs hd hlohi hn0 hha
      by_cases hE : sj.writeE (n0 : Int) Y = 0
      · rw [hE] at CW
        go_wp2_with fail
        go_region_held3 (fun w' => w'.cell? ⟨l, 0, none⟩ = some (.pointer (some ⟨b, 0, none⟩))) (first | exact c0 | exact d0 | exact e0 | exact f0)
          (first
            | (go_at_call 52; refine (CS _ HQ.out).mono ?_; rintro e w6 ⟨rfl, hB⟩; have HX6 := Lib.hid (HQ.out.below hB); have e0 := LObj.c0 HX6.out.obj; clear hB HQ)
            | (go_at_call 52; refine (CS _ HD0.out).mono ?_; rintro e w5 ⟨rfl, hB⟩; have HR5 := Lib.hid (HD0.out.below hB); have d0 := LObj.c0 HR5.out.obj; clear hB)
            | (go_at_call 53; refine (CF _).mono ?_; rintro e w6 ⟨rfl, hB⟩; have HX6 := Lib.hid (HR5.out.below hB); have e0 := LObj.c0 HX6.out.obj; clear hB HR5)
            | (go_at_call 53; refine (CF _).mono ?_; rintro e w5 ⟨rfl, hB⟩; have HQ := Lib.hid (HD0.out.below hB); have d0 := LObj.c0 HQ.out.obj; clear hB)
            | (go_at_call 51; refine (CW _ HX6.out).mono ?_; rintro e w7 ⟨rfl, h7, s7⟩; have H7 := Lib.hid (HX6.out.turn h7 s7); have f0 := LObj.c0 H7.out.obj; clear h7 s7))
        all_goals (
          clear CS CF CW
          go_wp2
          go_roundw
          case rel => exact ⟨j + 1, at_ + 64, sj.write n0 Y, by omega, by omega, Lib.hid (by have := HAt.out; omega), by go_num, Lib.hid (by rw [HP.out, HGo.out hE, hk2]), H7.out.disk, H7.out.stir, by omega, hlw.trans hlj⟩
          case measure => simp [intOf]; omega)
      · have hR : R = (sj.writeE (n0 : Int) Y, sj.write (n0 : Int) Y) := by
          rw [← HR.out]
          refine keepD_stop ?_ hE
          rw [HLo.out, HP.out, HStop.out hE]
        have HR1 := Lib.hid (congrArg Prod.fst hR)
        have HR2 := Lib.hid (congrArg Prod.snd hR)
        have hEb : (sj.writeE (n0 : Int) Y != 0) = true := by simpa using hE
        generalize sj.writeE (n0 : Int) Y = E at *
        clear hR hE
        go_wp2_with fail
        go_region_held3 (fun w' => w'.cell? ⟨l, 0, none⟩ = some (.pointer (some ⟨b, 0, none⟩))) (first | exact c0 | exact d0 | exact e0 | exact f0)
          (first
            | (go_at_call 52; refine (CS _ HQ.out).mono ?_; rintro e w6 ⟨rfl, hB⟩; have HX6 := Lib.hid (HQ.out.below hB); have e0 := LObj.c0 HX6.out.obj; clear hB HQ)
            | (go_at_call 52; refine (CS _ HD0.out).mono ?_; rintro e w5 ⟨rfl, hB⟩; have HR5 := Lib.hid (HD0.out.below hB); have d0 := LObj.c0 HR5.out.obj; clear hB)
            | (go_at_call 53; refine (CF _).mono ?_; rintro e w6 ⟨rfl, hB⟩; have HX6 := Lib.hid (HR5.out.below hB); have e0 := LObj.c0 HX6.out.obj; clear hB HR5)
            | (go_at_call 53; refine (CF _).mono ?_; rintro e w5 ⟨rfl, hB⟩; have HQ := Lib.hid (HD0.out.below hB); have d0 := LObj.c0 HQ.out.obj; clear hB)
            | (go_at_call 51; refine (CW _ HX6.out).mono ?_; rintro e w7 ⟨rfl, h7, s7⟩; have H7 := Lib.hid (HX6.out.turn h7 s7); have f0 := LObj.c0 H7.out.obj; clear h7 s7))
        all_goals (
          clear CS CF CW
          go_wp2
          go_ret
          exact ⟨by rw [HR1.out]; rfl, by rw [HR2.out]; exact H7.out.disk, H7.out.stir⟩)
    · have hjh : j = (all.length + 63) / 64 := by have := HAt.out; omega
      have hp0 : puts (halfAt s.stay gen) all ((all.length + 63) / 64 - B.length / 64) (B.length / 64) s = (0, sj) := by
        rw [HLo.out, HP.out, show (all.length + 63) / 64 - j = 0 by omega, puts_zero]
      have HD0 := Lib.hid (show LD l b g m gen (.slice av B.length cv) dead sj w wr from ⟨hs.keep HL.out.obj HL.out.log_not_disk, hd, hs⟩)
      have c0 := LObj.c0 HD0.out.obj
      have CY := sync_any hd (by omega)
      have hms := made_sync' sj
      have hai : ¬ (at_ : Int) < (all.length : Int) := by omega
      by_cases hE : sj.syncE = 0
      · have hR : R = heads gen all.length sj.sync := by rw [← HR.out]; exact keepD_all hp0 hE
        rw [hE] at CY
        have HR1 := Lib.hid (congrArg Prod.fst hR)
        have HR2 := Lib.hid (congrArg Prod.snd hR)
        have CX := fun W (h : LD l b g m gen (.slice av B.length cv) dead sj.sync w W) => say_any (gen := gen) (used := all.length) h.disk (by omega) (by omega) (by omega)
        clear hR hp0 hs hd hlohi hE
        go_wp2_with fail
        refine CY.mono ?_
        rintro e w3 ⟨rfl, h3, s3⟩
        have H3 := Lib.hid (HD0.out.turn h3 s3).drew
        have d0 := LObj.c0 H3.out.obj
        have d1 := LObj.c1 H3.out.obj
        clear h3 s3 CY c0
        go_wp2
        go_region_held3 (fun w' => w'.cell? ⟨l, 0, none⟩ = some (.pointer (some ⟨b, 0, none⟩)) ∧ w'.cell? ⟨l, 1, none⟩ = some (.int .i64 gen)) (first | exact ⟨d0, d1⟩ | exact ⟨f0, f1⟩)
          (first
            | (go_at_call 35; refine (CX _ H3.out).mono ?_; rintro e w7 ⟨rfl, h7, s7⟩; have H7 := Lib.hid (H3.out.turn h7 s7); have f0 := LObj.c0 H7.out.obj; have f1 := LObj.c1 H7.out.obj; clear h7 s7))
        go_wp2
        go_ret
        exact ⟨by rw [HR1.out]; rfl, by rw [HR2.out]; exact H7.out.disk, H7.out.stir⟩
      · have hR : R = (sj.syncE, sj.sync) := by rw [← HR.out]; exact keepD_sync hp0 hE
        have HR1 := Lib.hid (congrArg Prod.fst hR)
        have HR2 := Lib.hid (congrArg Prod.snd hR)
        have hEb : (sj.syncE != 0) = true := by simpa using hE
        generalize sj.syncE = E at *
        clear hR hp0 hs hd hlohi hE
        go_wp2_with fail
        refine CY.mono ?_
        rintro e w3 ⟨rfl, h3, s3⟩
        have H3 := Lib.hid (HD0.out.turn h3 s3)
        clear h3 s3 CY c0
        go_wp2
        go_ret
        exact ⟨by rw [HR1.out]; rfl, by rw [HR2.out]; exact H3.out.disk, H3.out.stir⟩
end
end Go.Proofs.Ytmbknpipefbelaa
