/-
  NvF / NvG / NvH / NvI.
-/
import Derived.Test.YteboacjniokfpaaGreatDoorNB
namespace Go.Proofs.YteboacjniokfpaaGreatDoor
open Go.RowKit Go Go.Maps SM

/-- what keep makes of a disk: n bytes were there, now these are -/
def keepD (g n : Nat) (all : List UInt8) (s : DS) : Int × DS :=
  if (put (halfAt s.stay g) all (n / 64) ((all.length + 63) / 64 - n / 64) s).1 = 0 then heads g all.length (put (halfAt s.stay g) all (n / 64) ((all.length + 63) / 64 - n / 64) s).2
  else put (halfAt s.stay g) all (n / 64) ((all.length + 63) / 64 - n / 64) s
theorem appD_keep (g : Nat) (L : List ByteArray) (r : ByteArray) (s : DS) : appD g L r s = keepD g (recB L).length (recB (L ++ [r])) s := rfl
theorem secB_fill (all : List UInt8) (j : Nat) : secB all j = fillB (bsL ((all.drop (64 * j)).take 64)) := by
  apply ByteArray.ext
  apply Array.toList_inj.1
  simp [secB, secL, fillB, ByteArray.data_append, bsL, zeros, ByteArray.size]
theorem rest_of_row {base : Nat} {u : Value} {all : List UInt8} {w : World} (h : w.ownsRow base 5 1 u all.length (u8c all)) : Rest u all w := by
  rcases h.2 with ⟨rfl, h0⟩ | ⟨g, cap, cur, rfl, _, hg, h4, h5, h6, h7⟩
  · exact ⟨none, 0, by rw [h0], by omega, by unfold maxLen; omega, fun hne => absurd (List.eq_nil_of_length_eq_zero h0) hne⟩
  · refine ⟨_, cap, rfl, h4, h5, fun _ => ⟨g, 0, cur, _, rfl, hg, fun i hi => ?_⟩⟩
    have := h.cellAt (g := g) (cap := cap) i (by omega)
    rw [Nat.zero_add, this]
    simp [u8c, hi]
section
variable {from_ : Nat} {all : List UInt8}
theorem puts_zero (i : Nat) (s : DS) : puts from_ all 0 i s = (0, s) := rfl
theorem puts_go {k i : Nat} {s : DS} (h : s.writeE ((from_ + i : Nat) : Int) (secB all i) = 0) : puts from_ all (k + 1) i s = puts from_ all k (i + 1) (s.write ((from_ + i : Nat) : Int) (secB all i)) := by rw [puts, if_pos h]
theorem puts_stop {k i : Nat} {s : DS} (h : s.writeE ((from_ + i : Nat) : Int) (secB all i) ≠ 0) : puts from_ all (k + 1) i s = (s.writeE ((from_ + i : Nat) : Int) (secB all i), s.write ((from_ + i : Nat) : Int) (secB all i)) := by rw [puts, if_neg h]
end
theorem keepD_stop {g n : Nat} {all : List UInt8} {s sw : DS} {E : Int} (h : puts (halfAt s.stay g) all ((all.length + 63) / 64 - n / 64) (n / 64) s = (E, sw)) (hE : E ≠ 0) : keepD g n all s = (E, sw) := by
  unfold keepD put
  rw [h]
  simp [hE]
theorem keepD_sync {g n : Nat} {all : List UInt8} {s s1 : DS} (h : puts (halfAt s.stay g) all ((all.length + 63) / 64 - n / 64) (n / 64) s = (0, s1)) (hE : s1.syncE ≠ 0) : keepD g n all s = (s1.syncE, s1.sync) := by
  unfold keepD put
  rw [h]
  simp [hE]
theorem keepD_all {g n : Nat} {all : List UInt8} {s s1 : DS} (h : puts (halfAt s.stay g) all ((all.length + 63) / 64 - n / 64) (n / 64) s = (0, s1)) (hE : s1.syncE = 0) : keepD g n all s = heads g all.length s1.sync := by
  unfold keepD put
  rw [h]
  simp [hE]
/-- a log's object beside its disk, since a world -/
structure LD (l b g m gen : Nat) (v : Value) (dead : Bool) (s : DS) (w0 w : World) : Prop where
  obj : w.heap[l]? = some (LObj b gen v dead)
  disk : DiskAt b g m s w
  stir : Stir (Foot b g m) w0 w
section
variable {base l b g m gen : Nat} {v : Value} {B : List UInt8} {dead : Bool} {s : DS} {w0 w w' : World}
theorem LD.below (h : LD l b g m gen v dead s w0 w) (hB : Below w.heap.size w w') : LD l b g m gen v dead s w0 w' := ⟨keeps_of hB h.obj, h.disk.below hB, h.stir.and_below hB⟩
theorem LD.drew (h : LD l b g m gen v dead s w0 w) : LD l b g m gen v dead s w0 w.drew := h.below ((Below.refl _ w).drew)
theorem LD.turn {s' : DS} (h : LD l b g m gen v dead s w0 w) (hd : DiskAt b g m s' w') (hs : Stir (Foot b g m) w w') : LD l b g m gen v dead s' w0 w' :=
  ⟨hs.keep h.obj (h.disk.not_cells h.obj (by decide) (by decide)), hd, h.stir.trans hs (fun _ e => .inl e)⟩
set_option maxRecDepth 100000 in
set_option maxHeartbeats 4000000 in
theorem keep_any (h : LogAt base l b g m v gen B dead s w) (hm : s.made < 900000000) {u : Value} {all : List UInt8} (hu : w.ownsRow base 5 1 u all.length (u8c all)) (hfar : u.ownBlock ≠ some g) (hBl : B.length ≤ all.length) (hne : all ≠ []) (hfit : all.length ≤ 64 * halfN s) :
    Calls Tryz.prog 54 #[.pointer (some ⟨l, 0, none⟩), u] w fun e w' => e = .returned (.int .i64 (keepD gen B.length all s).1) ∧ DiskAt b g m (keepD gen B.length all s).2 w' ∧ Stir (Foot b g m) w w' := by
  obtain ⟨R, hR⟩ : ∃ R, keepD gen B.length all s = R := ⟨_, rfl⟩
  rw [hR]
  have HR := Lib.hid hR
  clear hR
  obtain ⟨av, cv, rfl⟩ := row_shape h.row
  have hnil : u ≠ .slice none 0 0 := by
    rintro rfl
    rcases hu.2 with ⟨_, h0⟩ | ⟨_, _, _, e, _⟩
    · exact hne (List.eq_nil_of_length_eq_zero h0)
    · cases e
  obtain ⟨gu, cu, rfl, _, _, hcu, hcm, _⟩ := row_cells' hu hnil
  have HL := Lib.hid h
  have HU := Lib.hid hu
  have HF := Lib.hid (fun (k : Nat) (hk : (Value.slice (some ⟨gu, 0, none⟩) all.length cu).ownBlock = some k) => show ¬ Foot b g m k by
    obtain ⟨C, hC⟩ := owns_block hu hk
    obtain ⟨⟨C1, f1, e1⟩, ⟨C2, f2, e2⟩, ⟨es, c, e3⟩⟩ := h.disk.kinds
    rintro (rfl | rfl | rfl)
    · rw [hC] at e1; simp at e1
    · exact hfar hk
    · rw [hC] at e3; cases e3)
  have c2 : w.drew.cell? ⟨l, 2, none⟩ = some (.slice av B.length cv) := LObj.c2 h.obj
  have hN : halfN s ≤ 8192 := by have := h.disk.1.le; unfold halfN; omega
  have hgle := h.gle
  have hln := Lib.hid (show B.length - B.length % 64 = 64 * (B.length / 64) by omega)
  have hm1 : (B.length : Int) % 64 = ((B.length % 64 : Nat) : Int) := by omega
  have hm2 : (B.length : Int).tmod 64 = ((B.length % 64 : Nat) : Int) := by rw [Int.tmod_eq_emod_of_nonneg (by omega)]; omega
  have hml : B.length % 64 ≤ B.length := Nat.mod_le _ _
  obtain ⟨lo, hlo⟩ : ∃ lo, B.length / 64 = lo := ⟨_, rfl⟩
  rw [hlo] at hln
  have HLo := Lib.hid hlo
  have hlo2 : 64 * lo ≤ B.length := by omega
  obtain ⟨wh, hwh⟩ : ∃ wh, 64 * lo = wh := ⟨_, rfl⟩
  rw [hwh] at hln hlo2
  generalize B.length % 64 = q at *
  have hsub : (B.length : Int) - (q : Int) = (wh : Int) := by have := hln.out; omega
  have k1 := wrapI (q : Int) (by omega) (by omega)
  have k2 := wrapI (wh : Int) (by omega) (by omega)
  have HW := Lib.hid hwh
  clear hlo hwh
  have HN := Lib.hid hN
  have HFit := Lib.hid hfit
  have hal : all.length ≤ 524288 := by omega
  clear h hu hfar hne hnil hN hfit
  go_enter Tryz.func54, Tryz.ntmps54
  go_wp2
  go_region_held3 (fun w' => w'.cell? ⟨l, 2, none⟩ = some (.slice av B.length cv)) (exact c2) (first | fail)
  go_wp2
  have hlohi : lo ≤ (all.length + 63) / 64 := by have := HW.out; omega
  have S0 : Stir (Foot b g m) w w.drew := (Stir.refl _ w).drew
  go_loopw [6] (fun i wr => ∃ (j at_ : Nat) (sj : DS), lo ≤ j ∧ j ≤ (all.length + 63) / 64 ∧ Hid (at_ = 64 * j) ∧ i = .int .i64 at_ ∧ Hid (puts (halfAt s.stay gen) all ((all.length + 63) / 64 - lo) lo s = puts (halfAt s.stay gen) all ((all.length + 63) / 64 - j) j sj) ∧ DiskAt b g m sj wr ∧ Stir (Foot b g m) w wr ∧ sj.made ≤ s.made + j ∧ sj.stay.length = s.stay.length) (fun i _ => all.length + 64 - (intOf i).toNat)
  case atStart => exact ⟨lo, wh, s, Nat.le_refl _, hlohi, Lib.hid HW.out.symm, rfl, Lib.hid rfl, HL.out.disk.drew, S0, by omega, rfl⟩
  case round =>
    obtain ⟨j, at_, sj, hj1, hj2, HAt, rfl, HP, hd, hs, hmj, hlj⟩ := hrel
    have HD := Lib.hid hd
    have HS := Lib.hid hs
    by_cases hlt : at_ < all.length
    · have hjh : j < (all.length + 63) / 64 := by have := HAt.out; omega
      obtain ⟨k, hk⟩ : ∃ k, (all.length + 63) / 64 - j = k + 1 := ⟨(all.length + 63) / 64 - j - 1, by omega⟩
      have hk2 : (all.length + 63) / 64 - (j + 1) = k := by omega
      have hr := rest_of_row (owns_stay HU.out hs HF.out)
      obtain ⟨mn, e1, e2, e3, hmn⟩ := clampMin (at_ + 64) all.length
      rw [show ((at_ + 64 : Nat) : Int) = (at_ : Int) + 64 by omega] at e1 e2 e3
      have hra : Rest (.slice (some ⟨gu, at_, none⟩) (mn - at_) (cu - at_)) ((all.drop at_).take 64) wr := by
        obtain ⟨a, cap, e, h2, h3, h4⟩ := hr
        simp only [Value.slice.injEq] at e
        obtain ⟨rfl, -, rfl⟩ := e
        have hd1 := (sliced_rest (k := at_) (by omega) h2 h3 h4).2
        rw [if_neg (by omega), Option.map_some, Addr.add_lit, Nat.zero_add] at hd1
        obtain ⟨a, cap, e, h2', h3', h4'⟩ := hd1
        simp only [Value.slice.injEq] at e
        obtain ⟨rfl, -, rfl⟩ := e
        have ht1 := (sliced_rest (k := mn - at_) (by rw [List.length_drop]; omega) h2' h3' h4').1
        rw [show (all.drop at_).take (mn - at_) = (all.drop at_).take 64 by
          rw [List.take_eq_take_min (i := 64), List.length_drop]
          congr 1
          omega] at ht1
        exact ht1
      have hcv := hra.conv
      have HX := Lib.hid (show secB all j = fillB (bsL ((all.drop at_).take 64)) by rw [secB_fill, HAt.out])
      have hXs : (bsL ((all.drop at_).take 64)).size ≤ 64 := by rw [size_bsL, List.length_take]; omega
      have CF := fun w => fill_any (bsL ((all.drop at_).take 64)) hXs w
      rw [← HX.out] at CF
      generalize bsL ((all.drop at_).take 64) = X at hcv CF
      have HMn := Lib.hid hmn
      have hcat : ¬ cu = at_ := by omega
      have hai : (at_ : Int) < (all.length : Int) := by omega
      have hai2 : (at_ : Int) ≤ (mn : Int) := by omega
      have hmc : (mn : Int) ≤ (cu : Int) := by omega
      have k5 := wrapI ((at_ : Int) + 64) (by omega) (by omega)
      obtain ⟨n0, hn0⟩ : ∃ n0, halfAt s.stay gen + j = n0 := ⟨_, rfl⟩
      have hha : halfAt sj.stay gen = halfAt s.stay gen := halfAt_len hlj gen
      have CS : ∀ W, LD l b g m gen (.slice av B.length cv) dead sj w W → Calls Tryz.prog 115 #[.pointer (some ⟨l, 0, none⟩), .int .i64 at_] W fun e w' => e = .returned (.int .i64 n0) ∧ Below W.heap.size W w' := fun W h => by
        have := lsector_at h.obj h.disk hgle at_ (by omega)
        rw [hha, show at_ / 64 = j by have := HAt.out; omega, hn0] at this
        exact this
      have hni : I64 (n0 : Int) := by
        have h1 := halfAt_fit s.stay gen HL.out.disk.1.pos (n := j) (by have := HFit.out; unfold halfN at this; omega)
        have h2 := HL.out.disk.1.le
        constructor <;> omega
      have CW := fun W (h : LD l b g m gen (.slice av B.length cv) dead sj w W) => write_any h.disk (by omega) (n0 : Int) hni (secB all j)
      have hmw := made_write' sj (n0 : Int) (secB all j)
      have hlw := len_write sj (n0 : Int) (secB all j)
      have HD0 := Lib.hid (show LD l b g m gen (.slice av B.length cv) dead sj w wr.drew from LD.drew ⟨hs.keep HL.out.obj HL.out.log_not_disk, hd, hs⟩)
      have c0 := LObj.c0 HD0.out.obj
      have HGo := Lib.hid (fun h => puts_go (from_ := halfAt s.stay gen) (all := all) (k := k) (i := j) (s := sj) h)
      have HStop := Lib.hid (fun h => puts_stop (from_ := halfAt s.stay gen) (all := all) (k := k) (i := j) (s := sj) h)
      rw [hn0] at HGo HStop
      rw [hk] at HP
      generalize hsec : secB all j = Y at *
      clear hra hr hmn hXs hs hd hlohi hn0 hha
      by_cases hE : sj.writeE (n0 : Int) Y = 0
      · rw [hE] at CW
        go_wp2_with fail
        go_region_held3 (fun w' => w'.cell? ⟨l, 0, none⟩ = some (.pointer (some ⟨b, 0, none⟩))) (first | exact c0 | exact d0 | exact e0 | exact f0)
          (first
            | (go_at_call 115; refine (CS _ HQ.out).mono ?_; rintro e w6 ⟨rfl, hB⟩; have HX6 := Lib.hid (HQ.out.below hB); have e0 := LObj.c0 HX6.out.obj; clear hB HQ)
            | (go_at_call 115; refine (CS _ HD0.out).mono ?_; rintro e w5 ⟨rfl, hB⟩; have HR5 := Lib.hid (HD0.out.below hB); have d0 := LObj.c0 HR5.out.obj; clear hB)
            | (go_at_call 116; refine (CF _).mono ?_; rintro e w6 ⟨rfl, hB⟩; have HX6 := Lib.hid (HR5.out.below hB); have e0 := LObj.c0 HX6.out.obj; clear hB HR5)
            | (go_at_call 116; refine (CF _).mono ?_; rintro e w5 ⟨rfl, hB⟩; have HQ := Lib.hid (HD0.out.below hB); have d0 := LObj.c0 HQ.out.obj; clear hB)
            | (go_at_call 24; refine (CW _ HX6.out).mono ?_; rintro e w7 ⟨rfl, h7, s7⟩; have H7 := Lib.hid (HX6.out.turn h7 s7); have f0 := LObj.c0 H7.out.obj; clear h7 s7))
        all_goals (
          clear CS CF CW
          go_wp2
          go_roundw
          case rel => exact ⟨j + 1, at_ + 64, sj.write n0 Y, by omega, by omega, Lib.hid (by have := HAt.out; omega), by go_num, Lib.hid (by rw [HP.out, HGo.out hE, hk2]), H7.out.disk, H7.out.stir, by omega, hlw.trans hlj⟩
          case measure => simp [intOf]; omega)
      · have hR : R = (sj.writeE (n0 : Int) Y, sj.write (n0 : Int) Y) := by
          rw [← HR.out]
          refine keepD_stop ?_ hE
          rw [HLo.out, HP.out, HStop.out hE]
        have HR1 := Lib.hid (congrArg Prod.fst hR)
        have HR2 := Lib.hid (congrArg Prod.snd hR)
        have hEb : (sj.writeE (n0 : Int) Y != 0) = true := by simpa using hE
        generalize sj.writeE (n0 : Int) Y = E at *
        clear hR hE
        go_wp2_with fail
        go_region_held3 (fun w' => w'.cell? ⟨l, 0, none⟩ = some (.pointer (some ⟨b, 0, none⟩))) (first | exact c0 | exact d0 | exact e0 | exact f0)
          (first
            | (go_at_call 115; refine (CS _ HQ.out).mono ?_; rintro e w6 ⟨rfl, hB⟩; have HX6 := Lib.hid (HQ.out.below hB); have e0 := LObj.c0 HX6.out.obj; clear hB HQ)
            | (go_at_call 115; refine (CS _ HD0.out).mono ?_; rintro e w5 ⟨rfl, hB⟩; have HR5 := Lib.hid (HD0.out.below hB); have d0 := LObj.c0 HR5.out.obj; clear hB)
            | (go_at_call 116; refine (CF _).mono ?_; rintro e w6 ⟨rfl, hB⟩; have HX6 := Lib.hid (HR5.out.below hB); have e0 := LObj.c0 HX6.out.obj; clear hB HR5)
            | (go_at_call 116; refine (CF _).mono ?_; rintro e w5 ⟨rfl, hB⟩; have HQ := Lib.hid (HD0.out.below hB); have d0 := LObj.c0 HQ.out.obj; clear hB)
            | (go_at_call 24; refine (CW _ HX6.out).mono ?_; rintro e w7 ⟨rfl, h7, s7⟩; have H7 := Lib.hid (HX6.out.turn h7 s7); have f0 := LObj.c0 H7.out.obj; clear h7 s7))
        all_goals (
          clear CS CF CW
          go_wp2
          go_ret
          exact ⟨by rw [HR1.out]; rfl, by rw [HR2.out]; exact H7.out.disk, H7.out.stir⟩)
    · have hjh : j = (all.length + 63) / 64 := by have := HAt.out; omega
      have hp0 : puts (halfAt s.stay gen) all ((all.length + 63) / 64 - B.length / 64) (B.length / 64) s = (0, sj) := by
        rw [HLo.out, HP.out, show (all.length + 63) / 64 - j = 0 by omega, puts_zero]
      have HD0 := Lib.hid (show LD l b g m gen (.slice av B.length cv) dead sj w wr from ⟨hs.keep HL.out.obj HL.out.log_not_disk, hd, hs⟩)
      have c0 := LObj.c0 HD0.out.obj
      have CY := sync_any hd (by omega)
      have hms := made_sync' sj
      have hai : ¬ (at_ : Int) < (all.length : Int) := by omega
      by_cases hE : sj.syncE = 0
      · have hR : R = heads gen all.length sj.sync := by rw [← HR.out]; exact keepD_all hp0 hE
        rw [hE] at CY
        have HR1 := Lib.hid (congrArg Prod.fst hR)
        have HR2 := Lib.hid (congrArg Prod.snd hR)
        have CX := fun W (h : LD l b g m gen (.slice av B.length cv) dead sj.sync w W) => say_any (gen := gen) (used := all.length) h.disk (by omega) (by omega) (by omega)
        clear hR hp0 hs hd hlohi hE
        go_wp2_with fail
        refine CY.mono ?_
        rintro e w3 ⟨rfl, h3, s3⟩
        have H3 := Lib.hid (HD0.out.turn h3 s3).drew
        have d0 := LObj.c0 H3.out.obj
        have d1 := LObj.c1 H3.out.obj
        clear h3 s3 CY c0
        go_wp2
        go_region_held3 (fun w' => w'.cell? ⟨l, 0, none⟩ = some (.pointer (some ⟨b, 0, none⟩)) ∧ w'.cell? ⟨l, 1, none⟩ = some (.int .i64 gen)) (first | exact ⟨d0, d1⟩ | exact ⟨f0, f1⟩)
          (first
            | (go_at_call 62; refine (CX _ H3.out).mono ?_; rintro e w7 ⟨rfl, h7, s7⟩; have H7 := Lib.hid (H3.out.turn h7 s7); have f0 := LObj.c0 H7.out.obj; have f1 := LObj.c1 H7.out.obj; clear h7 s7))
        go_wp2
        go_ret
        exact ⟨by rw [HR1.out]; rfl, by rw [HR2.out]; exact H7.out.disk, H7.out.stir⟩
      · have hR : R = (sj.syncE, sj.sync) := by rw [← HR.out]; exact keepD_sync hp0 hE
        have HR1 := Lib.hid (congrArg Prod.fst hR)
        have HR2 := Lib.hid (congrArg Prod.snd hR)
        have hEb : (sj.syncE != 0) = true := by simpa using hE
        generalize sj.syncE = E at *
        clear hR hp0 hs hd hlohi hE
        go_wp2_with fail
        refine CY.mono ?_
        rintro e w3 ⟨rfl, h3, s3⟩
        have H3 := Lib.hid (HD0.out.turn h3 s3)
        clear h3 s3 CY c0
        go_wp2
        go_ret
        exact ⟨by rw [HR1.out]; rfl, by rw [HR2.out]; exact H3.out.disk, H3.out.stir⟩
end
end Go.Proofs.YteboacjniokfpaaGreatDoor

namespace Go.Proofs.YteboacjniokfpaaGreatDoor
open Go.RowKit Go Go.Maps SM

/-! ### a text behind a row: where the new row lies -/
theorem run_append_text {P : Program} (w : World) (base : Nat) (t u ty e : TypeId) (i : TypeInfo) (ht : P.underlying t = some (.slice e)) (hu : P.underlying u = some .string) (hi : P.info? e = some i) (hz : i.zero = some (.int .u8 0))
    (hsize : i.size = 1) (hby : i.bytes = 1)
    (v : Value) (n : Nat) (xs : List Value) (hown : w.ownsRow base e 1 v n xs) (s : ByteArray)
    (h63 : n + s.size ≤ maxLen) (hbytes : n + s.size ≤ 140737488355328) (hbase : base ≤ w.heap.size) :
    ∃ v' w', (Builtin.append_ #[t, u] ty #[v, .string s]).run P w = .ok v' w' ∧ w'.ownsRow base e 1 v' (n + s.size) (xs ++ Lib.strCells s) ∧ w.grownBy w' v.ownBlock ∧
      (v'.ownBlock = v.ownBlock ∨ v'.ownBlock = some w.heap.size) ∧ w'.ownsRow base e 1 v n xs := by
  obtain ⟨v', w', hr, h2, h3, h4⟩ := Lib.run_append_own_string (P := P) (w := w) base t u ty e i ht hu hi hz hsize hby v n xs hown s h63 hbytes hbase
  refine ⟨v', w', hr, h2, h3, ?_⟩
  have hxl : xs.length = n := by simpa using hown.1
  rcases hown.2 with ⟨rfl, rfl⟩ | ⟨g, cap, cur, rfl, hbg, hg, hnc, hcm, hcs, htake⟩
  · by_cases hm : s.size = 0
    · have := h4.2 ⟨rfl, hm⟩
      subst this
      exact ⟨.inl rfl, hown.1, .inl ⟨rfl, rfl⟩⟩
    · have hr2 := run_append_nil_string (P := P) w t u ty e i (.int .u8 0) ht hu hi hz s (by omega) (by simp only [maxLen] at h63; omega) (by rw [hby]; omega)
      rw [hr] at hr2
      injection hr2 with e1 _
      subst e1
      exact ⟨.inr rfl, hown.1, .inl ⟨rfl, rfl⟩⟩
  · by_cases hroom : n + s.size ≤ cap
    · have hcs' : cur.size = cap := by simpa using hcs
      have hr2 := Lib.run_append_room_string (P := P) (w := w) t u ty e i ht hu hi hsize g n cap cur hg s hroom (by omega)
      rw [hr] at hr2
      injection hr2 with e1 e2
      subst e1
      subst e2
      refine ⟨.inl rfl, hown.1, .inr ⟨g, cap, _, rfl, hbg, setRow_heap w g cur _ e _ hg, hnc, hcm, ?_, ?_⟩⟩
      · simp only [List.size_toArray, List.length_append, List.length_take, List.length_drop, Array.length_toList, Lib.strCells_length]
        omega
      · have ht' : cur.toList.take n = xs := by simpa using htake
        rw [ht', List.append_assoc, Nat.mul_one, ← hxl]
        exact List.take_left
    · have holds : ∀ j u, xs[j]? = some u → w.cell? ((⟨g, 0, none⟩ : Addr).add j) = some u := hown.cells (g := g) rfl
      have hr2 := Lib.run_append_grow_string (P := P) (w := w) t u ty e i (.int .u8 0) ht hu hi hz ⟨g, 0, none⟩ n cap xs (by rw [hsize]; simpa using hxl) holds s (by omega) (by simp only [maxLen] at h63; omega) (by rw [hby]; exact growslice_fits (by omega) (by omega))
      rw [hr] at hr2
      injection hr2 with e1 e2
      subst e1
      subst e2
      exact ⟨.inr rfl, hown.1, .inr ⟨g, cap, cur, rfl, hbg, by rw [Below.heap_alloc w.drew _ g (lt_of_heap hg)]; exact hg, hnc, hcm, hcs, htake⟩⟩
theorem wpList_append_text {P : Program} (w : World) {ops : Array Oper} {rest : List Oper} {o : Oper} {a : Act} {Q : Exit → Act → World → Prop} (hgd : o.guard = none) (sl x : Operand) (t u : TypeId)
    (ho : o.op = .call { callee := .builtin .append, args := #[sl, x], argTypes := #[t, u] })
    (base : Nat) (e : TypeId) (i : TypeInfo) (ht : P.underlying t = some (.slice e)) (hu : P.underlying u = some .string) (hi : P.info? e = some i) (hz : i.zero = some (.int .u8 0))
    (hsize : i.size = 1) (hby : i.bytes = 1)
    (v : Value) (n : Nat) (xs : List Value) (hs : a.eval sl = v) (hown : w.ownsRow base e 1 v n xs) (s : ByteArray) (hx : a.eval x = .string s)
    (h63 : n + s.size ≤ maxLen) (hbytes : n + s.size ≤ 140737488355328) (hbase : base ≤ w.heap.size)
    (h : ∀ v' w', w'.ownsRow base e 1 v' (n + s.size) (xs ++ Lib.strCells s) → w.grownBy w' v.ownBlock → (v'.ownBlock = v.ownBlock ∨ v'.ownBlock = some w.heap.size) ∧ w'.ownsRow base e 1 v n xs → wpList P ops Q rest (a.put o.dst v') w') : wpList P ops Q (o :: rest) a w := by
  refine wpList_plain hgd fun K hK => ?_
  obtain ⟨v', w', hr, h2, h3, h4⟩ := run_append_text (P := P) w base t u o.type e i ht hu hi hz hsize hby v n xs hown s h63 hbytes hbase
  unfold Oper.wp execOp
  simp only [ho, resolve, invoke, builtin, Sem.run_bind, Sem.run_pure, Result.andThen_ok, List.map_toArray, List.map_cons, List.map_nil, hs, hx, hr]
  exact hK _ _ (h v' w' h2 h3 h4)
theorem strCells_u8c (s : ByteArray) : Lib.strCells s = u8c s.data.toList := rfl

/-! ### a log as plain data -/
structure LS where
  gen : Nat
  recs : List ByteArray
  dead : Bool
  disk : DS
def LS.full (x : LS) (r : ByteArray) : Bool := decide (64 * halfN x.disk < (recB x.recs).length + 2 + r.size)
def LS.appE (x : LS) (r : ByteArray) : Int := if 1300 < r.size then 71 else if x.dead then 2 else if x.full r then 72 else (appD x.gen x.recs r x.disk).1
def LS.app (x : LS) (r : ByteArray) : LS := if 1300 < r.size then x else if x.dead then x else if x.full r then x else
  if (appD x.gen x.recs r x.disk).1 = 0 then { x with recs := x.recs ++ [r], disk := (appD x.gen x.recs r x.disk).2 } else { x with dead := (appD x.gen x.recs r x.disk).1 == 2, disk := (appD x.gen x.recs r x.disk).2 }
def LS.form (x : LS) (n : Int) : Bool := decide (n ≤ x.gen) || decide (1099511627776 < n)
def LS.startE (x : LS) (n : Int) : Int := if x.form n then 70 else if x.dead then 2 else (heads n.toNat 0 x.disk).1
def LS.start (x : LS) (n : Int) : LS := if x.form n then x else if x.dead then x else
  if (heads n.toNat 0 x.disk).1 = 0 then { gen := n.toNat, recs := [], dead := x.dead, disk := (heads n.toNat 0 x.disk).2 } else { x with dead := (heads n.toNat 0 x.disk).1 == 2, disk := (heads n.toNat 0 x.disk).2 }
/-- a log in memory is this plain data -/
def LIs (base l b g m : Nat) (v : Value) (x : LS) (w : World) : Prop := LogAt base l b g m v x.gen (recB x.recs) x.dead x.disk w ∧ ∀ r ∈ x.recs, r.size ≤ 1300

section
variable {base l b g m : Nat} {v : Value} {x : LS} {w w' : World}
theorem LIs.below (h : LIs base l b g m v x w) (k : Below w.heap.size w w') : LIs base l b g m v x w' := ⟨h.1.below k, h.2⟩
theorem LIs.stay {F : Nat → Prop} (h : LIs base l b g m v x w) (k : Stir F w w') (hn : ∀ i, LFoot l b g m v i → ¬ F i) : LIs base l b g m v x w' := ⟨h.1.stay k hn, h.2⟩
/-- the disk does something -/
theorem LIs.turn {s' : DS} (h : LIs base l b g m v x w) (hd : DiskAt b g m s' w') (hs : Stir (Foot b g m) w w') (hl : s'.stay.length = x.disk.stay.length) : LIs base l b g m v { x with disk := s' } w' := ⟨h.1.turn hd hs hl, h.2⟩

theorem len_puts {from_ : Nat} {all : List UInt8} : ∀ (k i : Nat) (s : DS), (puts from_ all k i s).2.stay.length = s.stay.length ∧ (puts from_ all k i s).2.made ≤ s.made + k
  | 0, _, _ => ⟨rfl, Nat.le_refl _⟩
  | k + 1, i, s => by
    rw [puts]
    split
    · obtain ⟨h1, h2⟩ := len_puts k (i + 1) (s.write ((from_ + i : Nat) : Int) (secB all i))
      have := made_write' s ((from_ + i : Nat) : Int) (secB all i)
      exact ⟨h1.trans (len_write ..), by omega⟩
    · have := made_write' s ((from_ + i : Nat) : Int) (secB all i)
      exact ⟨len_write .., by show (s.write _ _).made ≤ _; omega⟩
theorem len_put {from_ : Nat} {all : List UInt8} (lo k : Nat) (s : DS) : (put from_ all lo k s).2.stay.length = s.stay.length ∧ (put from_ all lo k s).2.made ≤ s.made + k + 1 := by
  obtain ⟨h1, h2⟩ := len_puts (from_ := from_) (all := all) k lo s
  unfold put
  split
  · have := made_sync' (puts from_ all k lo s).2
    exact ⟨(len_sync _).trans h1, by show (puts from_ all k lo s).2.sync.made ≤ _; omega⟩
  · exact ⟨h1, by omega⟩
theorem len_heads (g u : Nat) (s : DS) : (heads g u s).2.stay.length = s.stay.length ∧ (heads g u s).2.made ≤ s.made + 2 := len_put 0 1 s
theorem len_keepD (g n : Nat) (all : List UInt8) (s : DS) : (keepD g n all s).2.stay.length = s.stay.length ∧ (keepD g n all s).2.made ≤ s.made + ((all.length + 63) / 64 - n / 64) + 3 := by
  obtain ⟨h1, h2⟩ := len_put (from_ := halfAt s.stay g) (all := all) (n / 64) ((all.length + 63) / 64 - n / 64) s
  unfold keepD
  split
  · obtain ⟨h3, h4⟩ := len_heads g all.length (put (halfAt s.stay g) all (n / 64) ((all.length + 63) / 64 - n / 64) s).2
    exact ⟨h3.trans h1, by omega⟩
  · exact ⟨h1, by omega⟩
end
end Go.Proofs.YteboacjniokfpaaGreatDoor

namespace Go.Proofs.YteboacjniokfpaaGreatDoor
open Go.RowKit Go Go.Maps SM

section
variable {base l b g m : Nat} {v : Value} {x : LS} {w w' : World}
theorem recB_snoc (L : List ByteArray) (r : ByteArray) : recB (L ++ [r]) = recB L ++ (bsL (leN r.size 2) ++ r).data.toList := by
  rw [recB_append, recB_cons, recB_nil, List.append_nil]
  simp [ByteArray.data_append, bsL]
set_option maxRecDepth 100000 in
set_option maxHeartbeats 4000000 in
theorem append_any (h : LIs base l b g m v x w) (hm : x.disk.made < 900000000) (hbase : base ≤ w.heap.size) (r : ByteArray) (hr : r.size ≤ 140737488355328) :
    Calls Tryz.prog 7 #[.pointer (some ⟨l, 0, none⟩), .string r] w fun e w' => ∃ v', e = .returned (.int .i64 (x.appE r)) ∧ LIs base l b g m v' (x.app r) w' ∧ Stir (LFoot l b g m v) w w' := by
  obtain ⟨h, hsz⟩ := h
  obtain ⟨E, hE⟩ : ∃ E, x.appE r = E := ⟨_, rfl⟩
  obtain ⟨y, hy⟩ : ∃ y, x.app r = y := ⟨_, rfl⟩
  rw [hE, hy]
  by_cases h1 : 1300 < r.size
  · obtain rfl : 71 = E := by rw [← hE]; simp [LS.appE, h1]
    obtain rfl : x = y := by rw [← hy]; simp [LS.app, h1]
    have h1i : (1300 : Int) < (r.size : Int) := by omega
    have HL := Lib.hid h
    clear h h1 hE hy
    go_enter Tryz.func7, Tryz.ntmps7
    go_wp2
    go_ret
    exact ⟨_, rfl, ⟨HL.out, hsz⟩, Stir.refl _ _⟩
  · have h1i : ¬ (1300 : Int) < (r.size : Int) := by omega
    have c3 := LObj.c3 h.obj
    cases hd : x.dead with
    | true =>
      obtain rfl : 2 = E := by rw [← hE]; simp [LS.appE, h1, hd]
      obtain rfl : x = y := by rw [← hy]; simp [LS.app, h1, hd]
      have HL := Lib.hid h
      rw [hd] at c3
      clear h h1 hd hE hy
      go_enter Tryz.func7, Tryz.ntmps7
      go_wp2
      go_ret
      exact ⟨rfl, ⟨_, HL.out, hsz⟩, Stir.refl _ _⟩
    | false =>
      rw [hd] at c3
      have CN := fun w => number_any r.size 2 (by omega) (by omega) w
      have hms : (bsL (leN r.size 2) ++ r).size = 2 + r.size := by rw [ByteArray.size_append, size_bsL, length_leN]
      have hnum : (bsL (leN r.size 2)).size = 2 := by rw [size_bsL, length_leN]
      have HSn := Lib.hid (recB_snoc x.recs r)
      generalize bsL (leN r.size 2) = X at CN hms hnum HSn
      have nsum : ¬ 9223372036854775807 < X.size + r.size := by omega
      have CR := fun W (h : LogAt base l b g m v x.gen (recB x.recs) x.dead x.disk W) => room_any h
      have hle := h.le
      have hln := h.len
      have HL := Lib.hid h
      have hN : 64 * halfN x.disk ≤ 1048576 := by have := h.disk.1.le; unfold halfN; omega
      by_cases hf : 64 * halfN x.disk < (recB x.recs).length + 2 + r.size
      · obtain rfl : 72 = E := by rw [← hE]; simp [LS.appE, h1, hd, LS.full, hf]
        obtain rfl : x = y := by rw [← hy]; simp [LS.app, h1, hd, LS.full, hf]
        have hgt : ((64 * halfN x.disk : Nat) : Int) - ((recB x.recs).length : Int) < ((X ++ r).size : Int) := by omega
        generalize 64 * halfN x.disk = N at *
        generalize hM : X ++ r = M at *
        clear h h1 hd hf hE hy
        go_enter Tryz.func7, Tryz.ntmps7
        go_wp2_with fail
        refine (CN _).mono ?_
        rintro e w1 ⟨rfl, hB1⟩
        have H1 := Lib.hid (HL.out.below hB1)
        have HB1 := Lib.hid hB1
        clear hB1 CN
        go_wp2_with fail
        refine (CR _ H1.out).mono ?_
        rintro e w2 ⟨rfl, hB2⟩
        have H2 := Lib.hid (H1.out.below hB2)
        have HB2 := Lib.hid (HB1.out.trans (hB2.mono HB1.out.size))
        clear hB2 CR
        go_wp2
        go_ret
        exact ⟨_, rfl, ⟨H2.out, hsz⟩, Stir.of_below HB2.out⟩
      · have hgt : ¬ ((64 * halfN x.disk : Nat) : Int) - ((recB x.recs).length : Int) < ((X ++ r).size : Int) := by omega
        have HEq := Lib.hid (show (E = (appD x.gen x.recs r x.disk).1) ∧ ((appD x.gen x.recs r x.disk).1 = 0 → y = { x with recs := x.recs ++ [r], disk := (appD x.gen x.recs r x.disk).2 }) ∧ ((appD x.gen x.recs r x.disk).1 ≠ 0 → y = { x with dead := (appD x.gen x.recs r x.disk).1 == 2, disk := (appD x.gen x.recs r x.disk).2 }) from
          ⟨by rw [← hE]; simp [LS.appE, h1, hd, LS.full, hf], fun e => by rw [← hy]; simp [LS.app, h1, hd, LS.full, hf, e], fun e => by rw [← hy]; simp [LS.app, h1, hd, LS.full, hf, e]⟩)
        obtain ⟨i0, hi, hz0, hz1, hz2⟩ := info_parts info5e
        obtain ⟨av, cv, rfl⟩ := row_shape h.row
        have hKE : appD x.gen x.recs r x.disk = keepD x.gen (recB x.recs).length (recB (x.recs ++ [r])) x.disk := rfl
        have hlk := (len_keepD x.gen (recB x.recs).length (recB (x.recs ++ [r])) x.disk).1
        rw [← hKE] at hlk
        obtain ⟨R, hR⟩ : ∃ R, appD x.gen x.recs r x.disk = R := ⟨_, rfl⟩
        rw [hR] at hKE HEq hlk
        have HKE := Lib.hid hKE
        have hal : (recB (x.recs ++ [r])).length = (recB x.recs).length + (X ++ r).size := by rw [HSn.out, List.length_append, len_of]
        have HA := Lib.hid hal
        have hMz : 2 ≤ (X ++ r).size := by omega
        have hM2 : (X ++ r).size ≤ 1302 := by omega
        have hm1 : (recB x.recs).length + (X ++ r).size ≤ 64 * halfN x.disk := by omega
        have HM1 := Lib.hid hm1
        generalize hNN : 64 * halfN x.disk = N at hle hN hgt CR
        generalize hM : X ++ r = M at *
        have HNN := Lib.hid hNN
        have HMS := Lib.hid hms
        have hgt2 : ¬ (N : Int) - ((recB x.recs).length : Int) < (M.size : Int) := hgt
        clear h h1 hf hKE hR hal hm1 hNN hE hy hms
        go_enter Tryz.func7, Tryz.ntmps7
        go_wp2_with fail
        refine (CN _).mono ?_
        rintro e w1 ⟨rfl, hB1⟩
        have H1 := Lib.hid (HL.out.below hB1)
        have HB1 := Lib.hid hB1
        clear hB1 CN
        go_wp2_with fail
        refine (CR _ H1.out).mono ?_
        rintro e w2 ⟨rfl, hB2⟩
        have H2 := Lib.hid (H1.out.below hB2)
        have HB2 := Lib.hid (HB1.out.trans (hB2.mono HB1.out.size))
        have c2 := LObj.c2 H2.out.obj
        have hbw : base ≤ w2.heap.size := Nat.le_trans hbase HB2.out.size
        clear hB2 CR
        have HB2' := Lib.hid HB2.out.size
        go_wp2_with (at_builtin; refine wpList_append_text _ rfl _ _ 74 9 rfl base 5 i0 Tryz.underlying74 Tryz.underlying9 hi hz0 hz1 hz2 _ _ _ rfl H2.out.row M rfl (by unfold maxLen; omega) (by omega) hbw ?_; intro u w3 hown hgrow hat; change w2.grownBy w3 (Value.slice av (recB x.recs).length cv).ownBlock at hgrow; change (u.ownBlock = (Value.slice av (recB x.recs).length cv).ownBlock ∨ u.ownBlock = some w2.heap.size) ∧ w3.ownsRow base 5 1 (Value.slice av (recB x.recs).length cv) (recB x.recs).length (u8c (recB x.recs)) at hat; obtain ⟨au, cu, rfl⟩ := row_shape hown; have HO := Lib.hid hown; have HG := Lib.hid hgrow; have HAt := Lib.hid hat; clear hown hgrow hat)
        have hst := stir_of_grown HG.out
        have hnl : ∀ k, (Value.slice av (recB x.recs).length cv).ownBlock = some k → l ≠ k := fun k hk e => by
          obtain ⟨C, hC⟩ := owns_block H2.out.row hk
          rw [← e, H2.out.obj] at hC
          simp [LObj] at hC
        have hl3 : LogAt base l b g m (.slice av (recB x.recs).length cv) x.gen (recB x.recs) x.dead x.disk w3 :=
          ⟨hst.keep H2.out.obj (fun e => hnl l e rfl), HAt.out.2, H2.out.disk.stay hst (fun i hi e => H2.out.row_not_disk e hi), H2.out.far, H2.out.le, H2.out.gle⟩
        have hou : w3.ownsRow base 5 1 (.slice au ((recB x.recs).length + M.size) cu) (recB (x.recs ++ [r])).length (u8c (recB (x.recs ++ [r]))) := by
          have := HO.out
          rw [HA.out, HSn.out]
          simpa [u8c, strCells_u8c] using this
        have hgl : g < w2.heap.size := H2.out.disk.lt (.inr (.inl rfl))
        have hfar : (Value.slice au ((recB x.recs).length + M.size) cu).ownBlock ≠ some g := by
          rcases HAt.out.1 with e | e
          · rw [e]; exact H2.out.far
          · rw [e]; intro e2; have := Option.some.inj e2; omega
        have CK := keep_any hl3 hm hou hfar (by rw [HA.out]; omega) (by intro e; have := HA.out; rw [e] at this; simp at this; omega) (by rw [HA.out]; exact HM1.out)
        rw [← HKE.out, ← HEq.out.1] at CK
        have H3 := Lib.hid hl3
        have HU := Lib.hid hou
        have HFar := Lib.hid hfar
        have S3 := Lib.hid (show Stir (LFoot l b g m (.slice av (recB x.recs).length cv)) w w3 from (Stir.of_below HB2.out).trans hst (fun i e => .inl (.inr (.inr e))))
        clear hst hnl hl3 hou hgl hfar
        go_wp2_with fail
        refine CK.mono ?_
        rintro e w4 ⟨rfl, h4, s4⟩
        have H4 := Lib.hid (H3.out.turn h4 s4 hlk)
        have S4 := Lib.hid (S3.out.trans s4 (fun i e => .inl (.inr (.inl e))))
        have HU4 := Lib.hid (owns_stay HU.out s4 (fun k hk hf => by
          rcases HAt.out.1 with e | e
          · exact H3.out.row_not_disk (e ▸ hk) hf
          · rw [e] at hk
            have h5 := Option.some.inj hk
            subst h5
            exact absurd (H2.out.disk.lt hf) (Nat.lt_irrefl _)))
        clear h4 s4 CK
        have hhf : halfN R.2 = halfN x.disk := by unfold halfN; rw [hlk]
        by_cases hR0 : E = 0
        · subst hR0
          have hEq := HEq.out
          have hy := hEq.2.1 hEq.1.symm
          have f2 := LObj.fr H4.out.obj 2
          have c2' := LObj.c2 H4.out.obj
          have hl5 : LogAt base l b g m (.slice au ((recB x.recs).length + M.size) cu) y.gen (recB y.recs) y.dead y.disk (w4.setCell ⟨l, 2, none⟩ (.slice au ((recB x.recs).length + M.size) cu)) := by
            rw [hy]
            refine ⟨?_, owns_other HU4.out H4.out.obj (by decide) _, H4.out.disk.stay ((Stir.refl (· = l) w4).set (.inl rfl) _) (fun i hi e => H4.out.log_not_disk (e ▸ hi)), HFar.out, ?_, H4.out.gle⟩
            · rw [heap_set H4.out.obj]; simp [LObj]
            · show (recB (x.recs ++ [r])).length ≤ 64 * halfN R.2
              rw [HA.out, hhf]; exact HM1.out
          have hs5 : ∀ q ∈ y.recs, q.size ≤ 1300 := by
            rw [hy]
            intro q hq
            rcases List.mem_append.1 hq with hq | hq
            · exact hsz q hq
            · rw [List.mem_singleton.1 hq]; omega
          have H5 := Lib.hid (show LIs base l b g m _ y _ from ⟨hl5, hs5⟩)
          have S5 := Lib.hid (S4.out.set (b := l) (i := 2) (.inl (.inl rfl)) (.slice au ((recB x.recs).length + M.size) cu))
          clear hl5 hs5 hEq hy hhf
          go_wp2
          go_ret
          first | exact ⟨_, rfl, H5.out, S5.out⟩ | exact ⟨rfl, ⟨_, H5.out⟩, S5.out⟩
        · have hEq := HEq.out
          have hy := hEq.2.2 (by rw [← hEq.1]; exact hR0)
          rw [← hEq.1] at hy
          have hEb : (E != 0) = true := by simpa using hR0
          have CT := note_any H4.out E
          have HY := Lib.hid hy
          clear hEq hy hhf hR0
          go_wp2_with fail
          refine CT.mono ?_
          rintro e w5 ⟨rfl, h5, s5⟩
          have H5 := Lib.hid h5
          have S5 := Lib.hid (S4.out.trans s5 (fun i e => .inl (.inl e)))
          clear h5 s5 CT
          go_wp2
          go_ret
          have hfin : LIs base l b g m (.slice av (recB x.recs).length cv) y w5 := by rw [HY.out]; exact ⟨H5.out, hsz⟩
          first | exact ⟨_, rfl, hfin, S5.out⟩ | exact ⟨rfl, ⟨_, hfin⟩, S5.out⟩

set_option maxRecDepth 100000 in
set_option maxHeartbeats 4000000 in
theorem start_any (h : LIs base l b g m v x w) (hm : x.disk.made < 900000000) (n : Int) (hn : I64 n) :
    Calls Tryz.prog 9 #[.pointer (some ⟨l, 0, none⟩), .int .i64 n] w fun e w' => ∃ v', e = .returned (.int .i64 (x.startE n)) ∧ LIs base l b g m v' (x.start n) w' ∧ Stir (LFoot l b g m v) w w' := by
  obtain ⟨h, hsz⟩ := h
  obtain ⟨E, hE⟩ : ∃ E, x.startE n = E := ⟨_, rfl⟩
  obtain ⟨y, hy⟩ : ∃ y, x.start n = y := ⟨_, rfl⟩
  rw [hE, hy]
  have c1 := LObj.c1 h.obj
  have HL := Lib.hid h
  by_cases h1 : n ≤ x.gen
  · obtain rfl : 70 = E := by rw [← hE]; simp [LS.startE, LS.form, h1]
    obtain rfl : x = y := by rw [← hy]; simp [LS.start, LS.form, h1]
    clear h hE hy
    go_enter Tryz.func9, Tryz.ntmps9
    go_wp2
    go_ret
    first | exact ⟨_, rfl, ⟨HL.out, hsz⟩, Stir.refl _ _⟩ | exact ⟨rfl, ⟨_, HL.out, hsz⟩, Stir.refl _ _⟩
  · by_cases h2 : 1099511627776 < n
    · obtain rfl : 70 = E := by rw [← hE]; simp [LS.startE, LS.form, h2]
      obtain rfl : x = y := by rw [← hy]; simp [LS.start, LS.form, h2]
      clear h hE hy
      go_enter Tryz.func9, Tryz.ntmps9
      go_wp2
      go_ret
      first | exact ⟨_, rfl, ⟨HL.out, hsz⟩, Stir.refl _ _⟩ | exact ⟨rfl, ⟨_, HL.out, hsz⟩, Stir.refl _ _⟩
    · have c3 := LObj.c3 h.obj
      cases hd : x.dead with
      | true =>
        rw [hd] at c3
        obtain rfl : 2 = E := by rw [← hE]; simp [LS.startE, LS.form, h1, h2, hd]
        obtain rfl : x = y := by rw [← hy]; simp [LS.start, LS.form, h1, h2, hd]
        clear h hE hy hd
        go_enter Tryz.func9, Tryz.ntmps9
        go_wp2
        go_ret
        first | exact ⟨_, rfl, ⟨HL.out, hsz⟩, Stir.refl _ _⟩ | exact ⟨rfl, ⟨_, HL.out, hsz⟩, Stir.refl _ _⟩
      | false =>
        rw [hd] at c3
        have HEq := Lib.hid (show (E = (heads n.toNat 0 x.disk).1) ∧ ((heads n.toNat 0 x.disk).1 = 0 → y = { gen := n.toNat, recs := [], dead := x.dead, disk := (heads n.toNat 0 x.disk).2 }) ∧ ((heads n.toNat 0 x.disk).1 ≠ 0 → y = { x with dead := (heads n.toNat 0 x.disk).1 == 2, disk := (heads n.toNat 0 x.disk).2 }) from
          ⟨by rw [← hE]; simp [LS.startE, LS.form, h1, h2, hd], fun e => by rw [← hy]; simp [LS.start, LS.form, h1, h2, hd, e], fun e => by rw [← hy]; simp [LS.start, LS.form, h1, h2, hd, e]⟩)
        have c0 := LObj.c0 h.obj
        have hlk := (len_heads n.toNat 0 x.disk).1
        obtain ⟨N, hN⟩ : ∃ N : Nat, n = (N : Int) := ⟨n.toNat, by omega⟩
        subst hN
        rw [Int.toNat_natCast] at HEq hlk
        have CS := fun w (h : DiskAt b g m x.disk w) => say_any (gen := N) (used := 0) h (by omega) (by omega) (by omega)
        obtain ⟨R, hR⟩ : ∃ R, heads N 0 x.disk = R := ⟨_, rfl⟩
        rw [hR] at CS HEq hlk
        rw [← HEq.out.1] at CS
        have HLK := Lib.hid hlk
        have hNle : N ≤ 1099511627776 := by omega
        clear h hE hy hd hR hlk
        go_enter Tryz.func9, Tryz.ntmps9
        go_wp2_with fail
        refine (CS _ HL.out.disk).mono ?_
        rintro e w4 ⟨rfl, h4, s4⟩
        have H4 := Lib.hid (HL.out.turn h4 s4 HLK.out)
        have S4 := Lib.hid (show Stir (LFoot l b g m v) w w4 from s4.weaken (fun _ e => .inr (.inl e)))
        clear h4 s4 CS
        by_cases hR0 : E = 0
        · subst hR0
          have hEq := HEq.out
          have hy := hEq.2.1 hEq.1.symm
          have f1 := LObj.fr H4.out.obj 1
          have f2 := LObj.fr H4.out.obj 2
          have c1' := LObj.c1 H4.out.obj
          have c2' := LObj.c2 H4.out.obj
          have hst : Stir (· = l) w4 ((w4.setCell ⟨l, 1, none⟩ (.int .i64 N)).setCell ⟨l, 2, none⟩ (.slice none 0 0)) := ((Stir.refl (· = l) w4).set (.inl rfl) _).set (.inl rfl) _
          have hl5 : LogAt base l b g m (.slice none 0 0) y.gen (recB y.recs) y.dead y.disk ((w4.setCell ⟨l, 1, none⟩ (.int .i64 N)).setCell ⟨l, 2, none⟩ (.slice none 0 0)) := by
            rw [hy]
            refine ⟨?_, World.ownsRow_nil _ _ _ _, H4.out.disk.stay hst (fun i hi e => H4.out.log_not_disk (e ▸ hi)), by simp [Value.ownBlock], Nat.zero_le _, hNle⟩
            rw [heap_set (heap_set H4.out.obj _)]; simp [LObj]
          have hs5 : ∀ q ∈ y.recs, q.size ≤ 1300 := by rw [hy]; simp
          have H5 := Lib.hid (show LIs base l b g m _ y _ from ⟨hl5, hs5⟩)
          have S5 := Lib.hid (S4.out.trans hst (fun i e => .inl (.inl e)))
          clear hl5 hs5 hEq hy hst
          go_wp2
          go_ret
          first | exact ⟨_, rfl, H5.out, S5.out⟩ | exact ⟨rfl, ⟨_, H5.out⟩, S5.out⟩
        · have hEq := HEq.out
          have hy := hEq.2.2 (by rw [← hEq.1]; exact hR0)
          rw [← hEq.1] at hy
          have hEb : (E != 0) = true := by simpa using hR0
          have CT := note_any H4.out E
          have HY := Lib.hid hy
          clear hEq hy hR0
          go_wp2_with fail
          refine CT.mono ?_
          rintro e w5 ⟨rfl, h5, s5⟩
          have H5 := Lib.hid h5
          have S5 := Lib.hid (S4.out.trans s5 (fun i e => .inl (.inl e)))
          clear h5 s5 CT
          go_wp2
          go_ret
          have hfin : LIs base l b g m v y w5 := by rw [HY.out]; exact ⟨H5.out, hsz⟩
          first | exact ⟨_, rfl, hfin, S5.out⟩ | exact ⟨rfl, ⟨_, hfin⟩, S5.out⟩
end
end Go.Proofs.YteboacjniokfpaaGreatDoor

namespace Go.Proofs.YteboacjniokfpaaGreatDoor
open Go.RowKit Go Go.Maps SM

theorem step_append_text {P : Program} (w : World) {ops : Array Oper} {o : Oper} {a : Act} {K : Act → World → Prop} {Q : Exit → Act → World → Prop} {E : Prop} (hgd : o.guard = none) (sl x : Operand) (t u : TypeId)
    (ho : o.op = .call { callee := .builtin .append, args := #[sl, x], argTypes := #[t, u] })
    (base : Nat) (e : TypeId) (i : TypeInfo) (ht : P.underlying t = some (.slice e)) (hu : P.underlying u = some .string) (hi : P.info? e = some i) (hz : i.zero = some (.int .u8 0))
    (hsize : i.size = 1) (hby : i.bytes = 1)
    (v : Value) (n : Nat) (xs : List Value) (hs : a.eval sl = v) (hown : w.ownsRow base e 1 v n xs) (s : ByteArray) (hx : a.eval x = .string s)
    (h63 : n + s.size ≤ maxLen) (hbytes : n + s.size ≤ 140737488355328) (hbase : base ≤ w.heap.size)
    (h : ∀ v' w', w'.ownsRow base e 1 v' (n + s.size) (xs ++ Lib.strCells s) → w.grownBy w' v.ownBlock → (v'.ownBlock = v.ownBlock ∨ v'.ownBlock = some w.heap.size) → K (a.put o.dst v') w') :
    if Region.wanted o (yielded ops a.tmps) = true then Oper.wp P o a w K Q else E := by
  have hw : Region.wanted o (yielded ops a.tmps) = true := by simp [Region.wanted, hgd]
  rw [if_pos hw]
  obtain ⟨v', w', hr, h2, h3, h4, _⟩ := run_append_text (P := P) w base t u o.type e i ht hu hi hz hsize hby v n xs hown s h63 hbytes hbase
  unfold Oper.wp execOp
  simp only [ho, resolve, invoke, builtin, Sem.run_bind, Sem.run_pure, Result.andThen_ok, List.map_toArray, List.map_cons, List.map_nil, hs, hx, hr]
  exact h v' w' h2 h3 h4

section
variable {base l b g m gen : Nat} {v : Value} {x : LS} {s : DS} {w w' : World}
/-! ### Records -/
theorem records_any (h : LIs base l b g m v x w) :
    Calls Tryz.prog 32 #[.pointer (some ⟨l, 0, none⟩)] w fun e w' => ∃ u, e = .returned u ∧ w'.ownsRow w.heap.size 9 1 u x.recs.length (strVals x.recs) ∧ Below w.heap.size w w' := by
  have c2 := LObj.c2 h.1.obj
  have C := split_any (rest_of_row h.1.row) (by have := h.1.len; omega)
  have HR := Lib.hid (recsOf_recB h.2)
  obtain ⟨a, c, rfl⟩ := row_shape h.1.row
  clear h
  go_enter Tryz.func32, Tryz.ntmps32
  go_wp2_with fail
  refine C.mono ?_
  rintro e w1 ⟨r, rfl, hs, hB⟩
  unfold SplitV at hs
  rw [HR.out] at hs
  obtain ⟨u, rfl, ho⟩ := hs
  have HO := Lib.hid ho
  have HB := Lib.hid hB
  obtain ⟨a2, c2', rfl⟩ := row_shape ho
  clear ho hB C
  go_wp2
  go_ret
  exact ⟨_, rfl, HO.out, HB.out⟩

/-! ### Format -/
def formE (s : DS) (n : Int) : Int := if s.stay.length < 5 ∨ n < 0 ∨ 1099511627776 < n then 70 else (heads n.toNat 0 s).1
def formD (s : DS) (n : Int) : DS := if s.stay.length < 5 ∨ n < 0 ∨ 1099511627776 < n then s else (heads n.toNat 0 s).2
/-- a new log, or none -/
def NewLog (base b g m : Nat) (a : Value) (E : Int) (x : LS) (w w' : World) : Prop := (E = 0 ∧ ∃ l v, a = .pointer (some ⟨l, 0, none⟩) ∧ w.heap.size ≤ l ∧ LIs base l b g m v x w') ∨ (E ≠ 0 ∧ a = .pointer none)
set_option maxRecDepth 100000 in
theorem format_any (h : DiskAt b g m s w) (hm : s.made < 900000000) (n : Int) (hn : I64 n) :
    Calls Tryz.prog 51 #[.pointer (some ⟨b, 0, none⟩), .int .i64 n] w fun e w' => ∃ a, e = .returned (.tuple #[a, .int .i64 (formE s n)]) ∧ NewLog w.heap.size b g m a (formE s n) ⟨n.toNat, [], false, formD s n⟩ w w' ∧ DiskAt b g m (formD s n) w' ∧ Stir (Foot b g m) w w' := by
  have C1 := sectors_any h
  have HD := Lib.hid h
  obtain ⟨E, hE⟩ : ∃ E, formE s n = E := ⟨_, rfl⟩
  obtain ⟨D, hD⟩ : ∃ D, formD s n = D := ⟨_, rfl⟩
  rw [hE, hD]
  have hle := h.1.le
  by_cases hbad : s.stay.length < 5 ∨ n < 0 ∨ 1099511627776 < n
  · obtain rfl : 70 = E := by rw [← hE, formE, if_pos hbad]
    obtain rfl : s = D := by rw [← hD, formD, if_pos hbad]
    generalize s.stay.length = N at C1 hbad hle
    clear h hE hD
    have h3 : N < 5 ∨ (¬ N < 5 ∧ n < 0) ∨ (¬ N < 5 ∧ ¬ n < 0 ∧ 1099511627776 < n) := by omega
    clear hbad
    rcases h3 with h3 | ⟨h3, h4⟩ | ⟨h3, h4, h5⟩
    all_goals (
      go_enter Tryz.func51, Tryz.ntmps51
      go_wp2_with fail
      refine C1.mono ?_
      rintro e w' ⟨rfl, rfl⟩
      go_wp2
      go_ret2
      exact ⟨_, rfl, .inr ⟨by decide, rfl⟩, HD.out, Stir.refl _ _⟩)
  · have h3 : ¬ (s.stay.length : Int) < 5 ∧ ¬ n < 0 ∧ ¬ 1099511627776 < n := by omega
    obtain ⟨h3, h4, h5⟩ := h3
    have hE' : E = (heads n.toNat 0 s).1 := by rw [← hE, formE, if_neg hbad]
    have hD' : D = (heads n.toNat 0 s).2 := by rw [← hD, formD, if_neg hbad]
    have hlk := (len_heads n.toNat 0 s).1
    obtain ⟨N, hN⟩ : ∃ N : Nat, n = (N : Int) := ⟨n.toNat, by omega⟩
    subst hN
    rw [Int.toNat_natCast] at hE' hD' hlk
    have C2 := fun w (h : DiskAt b g m s w) => say_any (gen := N) (used := 0) h (by omega) (by omega) (by omega)
    rw [← hE', ← hD'] at C2
    have hNle : N ≤ 1099511627776 := by omega
    generalize s.stay.length = M at C1 h3 hle
    clear h hE hD hE' hD' hbad hlk
    by_cases hE0 : E = 0
    · subst hE0
      go_enter Tryz.func51, Tryz.ntmps51
      go_wp2_with fail
      refine C1.mono ?_
      rintro e w' ⟨rfl, rfl⟩
      go_wp2_with fail
      refine (C2 _ HD.out).mono ?_
      rintro e w2 ⟨rfl, h2, s2⟩
      have hB3 : Below w2.heap.size w2 (w2.alloc (LObj b N (.slice none 0 0) false)) := (Below.refl _ w2).alloc (Nat.le_refl _) _
      have hl3 : LIs w.heap.size w2.heap.size b g m (.slice none 0 0) ⟨N, [], false, D⟩ (w2.alloc (LObj b N (.slice none 0 0) false)) :=
        ⟨⟨heap_alloc_new _ _, World.ownsRow_nil _ _ _ _, h2.below hB3, by simp [Value.ownBlock], Nat.zero_le _, hNle⟩, by simp⟩
      have HL3 := Lib.hid hl3
      have S3 := Lib.hid (s2.and_below hB3)
      have HZ := Lib.hid s2.size
      clear h2 s2 hB3 hl3 C1 C2
      go_wp2
      go_ret2
      exact ⟨_, rfl, .inl ⟨rfl, _, _, rfl, HZ.out, HL3.out⟩, HL3.out.1.disk, S3.out⟩
    · have hEb : (E != 0) = true := by simpa using hE0
      have HE0 := Lib.hid hE0
      clear hE0
      go_enter Tryz.func51, Tryz.ntmps51
      go_wp2_with fail
      refine C1.mono ?_
      rintro e w' ⟨rfl, rfl⟩
      go_wp2_with fail
      refine (C2 _ HD.out).mono ?_
      rintro e w2 ⟨rfl, h2, s2⟩
      have H2 := Lib.hid h2
      have S2 := Lib.hid s2
      clear h2 s2 C1 C2
      go_wp2
      go_ret2
      exact ⟨_, rfl, .inr ⟨HE0.out, rfl⟩, H2.out, S2.out⟩
end
end Go.Proofs.YteboacjniokfpaaGreatDoor

