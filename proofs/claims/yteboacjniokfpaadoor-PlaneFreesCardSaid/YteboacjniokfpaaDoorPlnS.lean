/-
  The reference's Put, Copy, Diff.
-/
import Derived.Test.YteboacjniokfpaaDoorPlnR
namespace Go.Proofs.YteboacjniokfpaaDoor
open Go.ChangeShapes Go.WideShapes Go.ChangeAt Go.RowKit Go SM PL

theorem nums_fits {n : Nat} {l : List UInt8} : (∀ z ∈ nums l 0, 1 ≤ z ∧ z < n) ↔ Fits n l := by
  unfold Fits
  constructor
  · intro h m hm; exact h m (mem_nums.2 ⟨Nat.zero_le _, hm⟩)
  · intro h z hz; exact h z (mem_nums.1 hz).2
theorem bits_not_p (x : UInt8) (p : Nat) : bits .andNot .u8 (x.toNat : Int) (2 ^ p % 256) = ((bsub x (bitB p)).toNat : Int) := by
  have e : (2 ^ p % 256 : Int) = ((bitB p).toNat : Int) := by
    unfold bitB
    have h2 : 2 ^ p % 256 < 256 := Nat.mod_lt _ (by decide)
    rw [UInt8.toNat_ofNat_of_lt' h2]
    simp
  rw [e, bits_andNot]
theorem add_p (x : UInt8) {p : Nat} (hp : p < 8) : (((bsub x (bitB p)).toNat : Int) + 2 ^ p % 256) % 256 = ((putB x p true).toNat : Int) ∧ ((bsub x (bitB p)).toNat : Int) + 2 ^ p % 256 < 256 := by
  have e : (2 ^ p % 256 : Int) = ((bitB p).toNat : Int) := by
    unfold bitB
    have h2 : 2 ^ p % 256 < 256 := Nat.mod_lt _ (by decide)
    rw [UInt8.toNat_ofNat_of_lt' h2]
    simp
  have h := (add_bit x p hp).2
  unfold putB
  rw [if_pos rfl, e, UInt8.toNat_add]
  refine ⟨?_, by omega⟩
  rw [Nat.mod_eq_of_lt (by omega)]
  omega
theorem putB_false (x : UInt8) (p : Nat) : putB x p false = bsub x (bitB p) := rfl
theorem info7 : (Tryd.prog.info? 5).map (fun i => (i.zero, i.size, i.bytes)) = some (some (.int .u8 0), 1, 1) := by kernel_rfl
theorem rowAt_owns {W : World} {base : Nat} {g n cap : Nat} {L : List UInt8} (h : W.ownsRow base 5 1 (.slice (some ⟨g, 0, none⟩) n cap) n (u8s L)) : RowAt W g L ∧ (∃ C fr, W.heap[g]? = some (.cells C 5 fr)) ∧ base ≤ g ∧ g < W.heap.size ∧ n ≤ cap := by
  obtain ⟨g', cap', e, hb, hg, hn, _, hc⟩ := row_cells h (by simp)
  simp only [Value.slice.injEq, Option.some.injEq, Addr.mk.injEq, and_true, true_and] at e
  obtain ⟨rfl, rfl⟩ := e
  refine ⟨fun i hi => ⟨?_, row_frozen h rfl i⟩, ?_, hb, hg, hn⟩
  · rw [gd_lt hi]
    exact hc i _ (by simp [u8s, hi])
  · rcases h.2 with ⟨e, _⟩ | ⟨g', cap', cur, h1, h2, h3, _⟩
    · cases e
    · simp only [Value.slice.injEq, Option.some.injEq, Addr.mk.injEq, and_true, true_and] at h1
      obtain ⟨rfl, rfl⟩ := h1
      exact ⟨_, _, h3⟩
theorem kind_set {W : World} {g i b : Nat} {x : Value} (h : ∃ C fr, W.heap[g]? = some (.cells C 5 fr)) : ∃ C fr, (W.setCell ⟨b, i, none⟩ x).heap[g]? = some (.cells C 5 fr) := by
  obtain ⟨C, fr, h⟩ := h
  by_cases e : g = b
  · subst e; exact ⟨_, _, heap_set h x⟩
  · exact ⟨_, _, heap_set_other h e x⟩
set_option maxRecDepth 100000 in
set_option maxHeartbeats 4000000 in
theorem rput_any (r n : Nat) (f : Nat → List UInt8) (p : Int) (s : ByteArray) (hs : s.size ≤ 2199023255552) (w : World) (h : RAt r n f w) :
    Calls Tryd.prog 18 #[.pointer (some ⟨r, 0, none⟩), .int .i64 p, .string s] w fun e w' => e = .returned (.int .i64 (putE n p s.data.toList)) ∧ RAt r n (putF n f p s.data.toList) w' ∧ Stir (· = r) w w' := by
  have C1 := is_any p w
  have HH := Lib.hid h
  have hok := ok_putF h.ok p s.data.toList
  obtain ⟨E, hE⟩ : ∃ E, putE n p s.data.toList = E := ⟨_, rfl⟩
  obtain ⟨G, hG⟩ : ∃ G, putF n f p s.data.toList = G := ⟨_, rfl⟩
  rw [hE, hG]
  rw [hG] at hok
  unfold putE at hE
  unfold putF at hG
  cases hp : isP p with
  | false =>
    rw [hp] at C1 hE hG
    simp only [Bool.false_and, Bool.false_eq_true, if_false] at hE hG
    have HE := Lib.hid (And.intro hE hG)
    clear hE hG h
    go_enter Tryd.func18, Tryd.ntmps18
    go_wp2_with fail
    refine C1.mono ?_
    rintro e w1 ⟨rfl, rfl⟩
    go_wp2
    go_ret
    exact ⟨by rw [← HE.out.1]; rfl, by rw [← HE.out.2]; exact HH.out, Stir.refl _ _⟩
  | true =>
    obtain ⟨k, rfl, hk⟩ := isP_yes hp
    rw [hp] at C1 hE hG
    simp only [Bool.true_and, Int.toNat_natCast] at hE hG
    have CL := fun W => rlist_any s hs W
    have hzlen := length_nums s.data.toList 0
    rw [show s.data.toList.length = s.size by simp] at hzlen
    have HNF := Lib.hid (nums_fits (n := n) (l := s.data.toList))
    have hn1 := h.ok.hi
    have hn2 := h.ok.lo
    obtain ⟨i0, hi, hz0, hz1, hz2⟩ := info_parts info7
    generalize nums s.data.toList 0 = zs at *
    have HE := Lib.hid (And.intro hE hG)
    have HOK := Lib.hid hok
    clear hE hG h hok
    have hk1 : (0 : Int) ≤ (k : Int) := by omega
    have hk2 : (k : Int) < 8 := by omega
    go_enter Tryd.func18, Tryd.ntmps18
    go_wp2_with fail
    refine C1.mono ?_
    rintro e w1 ⟨rfl, rfl⟩
    go_wp2_with fail
    refine (CL _).mono ?_
    rintro e w1 ⟨v, rfl, hown, hB1⟩
    obtain ⟨a, ca, rfl, ha⟩ := row_nats hown
    have HA := Lib.hid ha
    have HB1 := Lib.hid hB1
    have H1 := Lib.hid (HH.out.below hB1)
    obtain ⟨⟨g, cap, g1, ⟨C, fr, g2⟩, g3⟩, _⟩ := HH.out.below hB1
    have c0 : w1.cell? ⟨r, 0, none⟩ = some (.slice (some ⟨g, 0, none⟩) n cap) := by simp [World.cell?, g1, RObj]
    have HG1 := Lib.hid g1
    have HG2 := Lib.hid g2
    have HG3 := Lib.hid g3
    clear hown ha hB1 CL C1 g1 g2 g3
    go_wp2
    go_loopw [8] (fun i wr => ∃ j N : Nat, j ≤ zs.length ∧ i = .int .i64 j ∧ wr = w1.drewN N ∧ Hid (∀ y (hy : y < zs.length), y < j → 1 ≤ zs[y] ∧ zs[y] < n)) (fun i _ => zs.length - (intOf i).toNat)
    case atStart => exact ⟨0, 0, Nat.zero_le _, rfl, rfl, Lib.hid (fun y _ hy => absurd hy (Nat.not_lt_zero _))⟩
    case round =>
      obtain ⟨j, N, hj, rfl, rfl, HZ⟩ := hrel
      have c0' : (w1.drewN N).cell? ⟨r, 0, none⟩ = some (.slice (some ⟨g, 0, none⟩) n cap) := c0
      by_cases hjl : j < zs.length
      · obtain ⟨gz, rfl, hz1', hz2', hz3⟩ := HA.out (by rintro rfl; simp at hjl)
        have hcell := hz3 j hjl
        have hji : (j : Int) < (zs.length : Int) := by omega
        by_cases hin : 1 ≤ zs[j] ∧ zs[j] < n
        · have HZ2 := Lib.hid (fun y (hy : y < zs.length) (h : y < j + 1) => show 1 ≤ zs[y] ∧ zs[y] < n by
            rcases Nat.lt_or_ge y j with h1 | h1
            · exact HZ.out y hy h1
            · obtain rfl : y = j := by omega
              exact hin)
          obtain ⟨h1, h2⟩ := hin
          have h1' : ¬ ((zs[j] : Nat) : Int) < 1 := by omega
          have h2' : ¬ (n : Int) ≤ ((zs[j] : Nat) : Int) := by omega
          clear hz3 h1 h2
          generalize zs[j] = z at *
          go_wp2_with fail
          go_quiet (fail)
          go_wp2
          go_roundw
          case rel => exact ⟨j + 1, _, by omega, by go_num, rfl, HZ2⟩
          case measure => simp [intOf]; omega
        · have HNo := Lib.hid (show fitsB n s.data.toList = false by
            cases hc : fitsB n s.data.toList with
            | false => rfl
            | true => exact absurd (HNF.out.2 (fits_iff.1 hc) zs[j] (List.getElem_mem hjl)) hin)
          have hE2 : 91 = E ∧ f = G := by
            have := HE.out
            rw [HNo.out] at this
            simpa using this
          have HE2 := Lib.hid hE2
          clear hE2
          by_cases hlo : zs[j] < 1
          · have h1' : ((zs[j] : Nat) : Int) < 1 := by omega
            clear hz3 hin hlo
            generalize zs[j] = z at *
            go_wp2_with fail
            go_quiet (fail)
            go_wp2
            go_ret
            exact ⟨by rw [← HE2.out.1]; rfl, by rw [← HE2.out.2]; exact H1.out.below (below_drewN (below_drewN (Below.refl _ _) _) _), Stir.of_below (below_drewN (below_drewN HB1.out _) _)⟩
          · have h1' : ¬ ((zs[j] : Nat) : Int) < 1 := by omega
            have h2' : (n : Int) ≤ ((zs[j] : Nat) : Int) := by omega
            clear hz3 hin hlo
            generalize zs[j] = z at *
            go_wp2_with fail
            go_quiet (fail)
            go_wp2
            go_ret
            exact ⟨by rw [← HE2.out.1]; rfl, by rw [← HE2.out.2]; exact H1.out.below (below_drewN (below_drewN (Below.refl _ _) _) _), Stir.of_below (below_drewN (below_drewN HB1.out _) _)⟩
      · obtain rfl : j = zs.length := by omega
        have hfit : fitsB n s.data.toList = true := fits_iff.2 (HNF.out.1 (fun z hz => by
          obtain ⟨y, hy, rfl⟩ := List.getElem_of_mem hz
          exact HZ.out y hy hy))
        have hE2 : 0 = E ∧ upd f k (least s.data.toList) = G := by
          have := HE.out
          rw [hfit] at this
          simpa using this
        have HE2 := Lib.hid hE2
        have HL := Lib.hid (length_textL n f)
        clear hfit hE2
        obtain ⟨W, hW⟩ : ∃ W, w1.drewN N = W := ⟨_, rfl⟩
        have hWs : W.heap.size = w1.heap.size := by rw [← hW]; rfl
        have HBW := Lib.hid (show Below w1.heap.size w1 W by rw [← hW]; exact below_drewN (Below.refl _ _) _)
        have hg1 : g < w1.heap.size := lt_of_heap HG2.out
        have hg3 : ∀ i v, (u8s (textL n f))[i]? = some v → (W.alloc (.cells #[] 5)).cell? ((⟨g, 0, none⟩ : Addr).add i) = some v := fun i v hv => by
          obtain ⟨h1, h2⟩ := List.getElem?_eq_some_iff.1 hv
          rw [length_u8s, HL.out] at h1
          rw [← h2, Addr.add_lit, Nat.zero_add, World.cell?_of_block (w := W) (Below.heap_alloc _ _ g (by omega)), ← hW]
          rw [show (w1.drewN N).cell? ⟨g, i, none⟩ = w1.cell? ⟨g, i, none⟩ from rfl, HG3.out i h1]
          simp [u8s, gd_lt (show i < (textL n f).length by rw [HL.out]; exact h1)]
        have hone : ∀ u ∈ u8s (textL n f), u.oneCell' = true := fun u hu => by
          simp only [u8s, List.mem_map] at hu
          obtain ⟨b, _, rfl⟩ := hu
          rfl
        have hul : (u8s (textL n f)).length = n * 1 := by rw [length_u8s, HL.out, Nat.mul_one]
        have hrow0 : (W.alloc (.cells #[] 5)).ownsRow W.heap.size 5 1 (.slice (some ⟨W.heap.size, 0, none⟩) 0 0) 0 [] := World.ownsRow_made W #[] 0 (Nat.le_refl _) (by unfold maxLen; omega) (by simp)
        have HG3' := Lib.hid hg3
        have HUL := Lib.hid hul
        have HON := Lib.hid hone
        rw [hW] at c0' ⊢
        have HX := Lib.hid (show RAt r n f W from by rw [← hW]; exact H1.out.below (below_drewN (Below.refl _ _) _))
        have hrW : r < W.heap.size := HX.out.lt
        have c0a : (W.alloc (.cells #[] 5)).cell? ⟨r, 0, none⟩ = some (.slice (some ⟨g, 0, none⟩) n cap) := (World.cell?_of_block (w := W) (Below.heap_alloc _ _ r (by omega))).trans c0'
        have HWs := Lib.hid hWs
        clear hg3 hone hul hW c0 HZ HG1 HG2 HG3 hWs
        go_wp2_with (at_builtin; refine wpList_append_own _ rfl _ _ 34 rfl W.heap.size 5 i0 (.int .u8 0) 1 1 Tryd.underlying34 hi hz0 hz1 hz2 rfl (by decide) _ _ _ rfl hrow0 ⟨g, 0, none⟩ n cap (u8s (textL n f)) rfl HUL.out HG3'.out HON.out (by unfold maxLen; omega) (by omega) (by simp) ?_; intro v2 w2 hown2 hgrow2 hnl2)
        have hB2 : Below W.heap.size W w2 := ((Below.refl _ W).alloc (Nat.le_refl _) _).grown hgrow2 (by simp) (fun j ej => by cases ej; exact Nat.le_refl _)
        have hv2 : v2 ≠ .slice none 0 0 := fun e => by have := (hnl2.1 e).1; cases this
        obtain ⟨g2, cap2, rfl, _⟩ := row_cells hown2 hv2
        have hown3 : w2.ownsRow W.heap.size 5 1 (.slice (some ⟨g2, 0, none⟩) n cap2) n (u8s (textL n f)) := by simpa using hown2
        rw [Nat.zero_add]
        obtain ⟨r1, r2, r3, r4, r5⟩ := rowAt_owns hown3
        have HR := Lib.hid (And.intro r1 r2)
        have HB2 := Lib.hid hB2
        have HLO := Lib.hid r3
        clear r1 r2 hown2 hown3 hgrow2 hnl2 hrow0 hv2 hB2 r3 r4
        go_wp2
        go_loopw [10] (fun i wr => ∃ j : Nat, j ≤ n ∧ i = .int .i64 j ∧ Hid (RowAt wr g2 (putK (textL n f) k s.data.toList j) ∧ ∃ C fr, wr.heap[g2]? = some (.cells C 5 fr)) ∧ Hid (Below W.heap.size W wr)) (fun i _ => n - (intOf i).toNat)
        case atStart => exact ⟨0, Nat.zero_le _, rfl, Lib.hid (by rw [putK_zero]; exact HR.out), HB2⟩
        case round =>
          obtain ⟨j, hj, rfl, HRow, HB⟩ := hrel
          clear HR HB2
          by_cases hjl : j < n
          · have hji : (j : Int) < (n : Int) := by omega
            have hlen : (putK (textL n f) k s.data.toList j).length = n := by rw [length_putK, HL.out]
            have hgd : gd (putK (textL n f) k s.data.toList j) j = gd (textL n f) j := by rw [gd_putK (by rw [HL.out]; exact hjl), if_neg (Nat.lt_irrefl _)]
            have hset1 := HRow.out.1.set j (bsub (gd (textL n f) j) (bitB k)) (by omega)
            have hset2 := hset1.set j (putB (gd (textL n f) j) k true) (by rw [List.length_set]; omega)
            obtain ⟨c1, fr1⟩ := HRow.out.1 j (by omega)
            rw [hgd] at c1
            obtain ⟨c2, fr2⟩ := hset1 j (by rw [List.length_set]; omega)
            rw [gd_set _ _ _ (by omega), if_pos rfl] at c2
            have hsucc := putK_succ (L := textL n f) (p := k) (l := s.data.toList) (k := j) (by rw [HL.out]; exact hjl)
            have CH := fun W => rhas_any s (j : Int) W (by omega) (by omega) (by omega)
            rw [bitI_nat] at CH
            have ha1 := bits_not_p (gd (textL n f) j) k
            have ha2 := (add_p (gd (textL n f) j) hk).1
            rw [List.set_set] at hset2
            have HS1 := Lib.hid hset1
            have HS2 := Lib.hid hset2
            have hlow := HLO.out
            clear hset1 hset2 hgd hlen
            cases hb : bit s.data.toList j with
            | true =>
              rw [hb] at CH hsucc
              have HN := Lib.hid hsucc
              clear hsucc hb
              generalize putB (gd (textL n f) j) k true = y2 at *
              generalize bsub (gd (textL n f) j) (bitB k) = y1 at *
              generalize gd (textL n f) j = y at *
              obtain ⟨w3, hw3⟩ : ∃ w3, wr.setCell ⟨g2, j, none⟩ (.int .u8 y1.toNat) = w3 := ⟨_, rfl⟩
              have HB3 := Lib.hid (show Below W.heap.size W w3 by rw [← hw3]; exact HB.out.setCell (p := ⟨g2, j, none⟩) hlow _)
              have HK3 := Lib.hid (show ∃ C fr, w3.heap[g2]? = some (.cells C 5 fr) by rw [← hw3]; exact kind_set HRow.out.2)
              rw [hw3] at c2 fr2 HS1 HS2
              go_wp2_with fail
              go_region
              go_wp2_with fail
              refine (CH _).mono ?_
              rintro e w4 ⟨rfl, rfl⟩
              go_wp2_with fail
              go_region
              go_wp2_with fail
              go_roundw
              case rel => exact ⟨j + 1, by omega, by go_num, Lib.hid (by rw [HN.out]; exact ⟨HS2.out, kind_set HK3.out⟩), Lib.hid ((HB3.out.setCell (p := ⟨g2, j, none⟩) hlow _).drew.drew)⟩
              case measure => simp [intOf]; omega
            | false =>
              rw [hb] at CH hsucc
              rw [putB_false] at hsucc
              have HN := Lib.hid hsucc
              clear hsucc hb ha2 HS2
              generalize bsub (gd (textL n f) j) (bitB k) = y1 at *
              generalize gd (textL n f) j = y at *
              obtain ⟨w3, hw3⟩ : ∃ w3, wr.setCell ⟨g2, j, none⟩ (.int .u8 y1.toNat) = w3 := ⟨_, rfl⟩
              have HB3 := Lib.hid (show Below W.heap.size W w3 by rw [← hw3]; exact HB.out.setCell (p := ⟨g2, j, none⟩) hlow _)
              have HK3 := Lib.hid (show ∃ C fr, w3.heap[g2]? = some (.cells C 5 fr) by rw [← hw3]; exact kind_set HRow.out.2)
              rw [hw3] at c2 fr2 HS1
              go_wp2_with fail
              go_region
              go_wp2_with fail
              refine (CH _).mono ?_
              rintro e w4 ⟨rfl, rfl⟩
              go_wp2
              go_roundw
              case rel => exact ⟨j + 1, by omega, by go_num, Lib.hid (by rw [HN.out]; exact ⟨HS1.out, HK3.out⟩), Lib.hid HB3.out.drew⟩
              case measure => simp [intOf]; omega
          · obtain rfl : j = n := by omega
            have hput := put_text (n := j) (f := f) (l := s.data.toList) hk
            have hR := HX.out.below HB.out
            have HRow2 := Lib.hid (show RowAt wr g2 (textL j G) by rw [← HE2.out.2, ← hput]; exact HRow.out.1)
            have hlow := HLO.out
            have hkd := Lib.hid HRow.out.2
            obtain ⟨⟨g9, cap9, h9, _, _⟩, _⟩ := hR
            have fr9 : wr.frozen? ⟨r, 0, none⟩ = false := by simp [World.frozen?, h9, RObj]
            have c9 : wr.cell? ⟨r, 0, none⟩ = some (.slice (some ⟨g9, 0, none⟩) j cap9) := by simp [World.cell?, h9, RObj]
            have HOb := Lib.hid (show (wr.setCell ⟨r, 0, none⟩ (.slice (some ⟨g2, 0, none⟩) j cap2)).heap[r]? = some (RObj g2 j cap2) by
              have := heap_set (i := 0) h9 (.slice (some ⟨g2, 0, none⟩) j cap2)
              rw [this]; rfl)
            have hrg : r ≠ g2 := by omega
            clear hput HRow h9
            go_wp2
            go_ret
            refine ⟨by rw [← HE2.out.1]; rfl, ⟨⟨g2, cap2, HOb.out, kind_set hkd.out, fun i hi => ?_⟩, HOK.out⟩, ((Stir.of_below (F := (· = r)) HB1.out).trans ((Stir.of_below (F := (· = r)) HBW.out).trans (Stir.of_below (F := (· = r)) HB.out) (fun _ h => .inl h)) (fun _ h => .inl h)).set (.inl rfl) _⟩
            rw [World.cell?_setCell_other _ _ _ _ (by intro e; cases e; exact hrg rfl)]
            exact (HRow2.out i (by rw [length_textL]; exact hi)).1
end Go.Proofs.YteboacjniokfpaaDoor

