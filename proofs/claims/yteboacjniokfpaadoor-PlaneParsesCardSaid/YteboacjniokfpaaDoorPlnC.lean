/-
  A map's text, and the map of a text: bitsOf, Text, Parse.
-/
import Derived.Test.YteboacjniokfpaaDoorPlnB
import Derived.BigRegion
namespace Go.Proofs.YteboacjniokfpaaDoor
open Go.ChangeShapes Go.WideShapes Go.ChangeAt Go.RowKit Go SM PL

theorem toInts_nats (l : List Nat) : toInts l = intsN l := rfl
theorem shr_test {s : ByteArray} {i p : Nat} (hi : i < s.size) (hp : p < 8) : (bits .and .u8 ((s[i].toNat : Int) / 2 ^ p) 1 == 1) = (gd s.data.toList i).toNat.testBit p := by
  rw [gd_get hi, ← tb_div _ _ hp, ← bits_and_one _ (shr_lt _ _)]; simp
theorem of_row {v : Value} {l : List Nat} {w : World} {base : Nat} (h : w.ownsRow base 3 1 v l.length (ints l)) (hl : ∀ m ∈ l, m ≤ 65535) (hn : l.length ≤ 65536) :
    Calls Tryd.prog 50 #[v] w fun e w' => e = .returned (.tuple #[.string (bs (ofL (intsN l))), .int .i64 0]) ∧ Below w.heap.size w w' := by
  have := of_any v (intsN l) (by rw [← toInts_nats, length_toInts]; omega) w (intsAt_of_owns h)
  rw [ofV, if_pos (okI_nats hl)] at this
  exact this
set_option maxRecDepth 100000 in
set_option maxHeartbeats 2000000 in
theorem bitsOf_any (s : ByteArray) (p : Nat) (hp : p < 8) (hs : s.size ≤ 65535) (w : World) :
    Calls Tryd.prog 35 #[.string s, .int .i64 p] w fun e w' => e = .returned (.string (bs (planeOf s.data.toList p))) ∧ Below w.heap.size w w' := by
  obtain ⟨i0, hi, hz0, hz1, hz2⟩ := info_parts info3
  have hp1 : (0 : Int) ≤ (p : Int) := by omega
  have hp2 : (p : Int) < 8 := by omega
  have hsl : s.data.toList.length = s.size := by simp
  have HP := Lib.hid (show ofL (intsN (places s.data.toList p s.size)) = planeOf s.data.toList p by unfold planeOf; rw [hsl])
  clear hsl
  go_enter Tryd.func35, Tryd.ntmps35
  go_wp2
  go_loopw [5, 11] (fun v i wr => ∃ k : Nat, k ≤ s.size ∧ i = .int .i64 k ∧ wr.ownsRow w.heap.size 3 1 v (places s.data.toList p k).length (ints (places s.data.toList p k)) ∧ Below w.heap.size w wr) (fun _ i _ => s.size - (intOf i).toNat)
  case atStart => exact ⟨0, Nat.zero_le _, rfl, World.ownsRow_nil _ _ _ _, Below.refl _ w⟩
  case round =>
    obtain ⟨k, hk, rfl, hrow, hB⟩ := hrel
    have hlen := length_places s.data.toList p k
    by_cases hlt : k < s.size
    · have hszW : w.heap.size ≤ wr.heap.size := hB.size
      have hsucc := places_succ s.data.toList p k
      have e := shr_test hlt hp
      cases hbit : (gd s.data.toList k).toNat.testBit p with
      | true =>
        rw [hbit, if_pos rfl] at hsucc
        rw [hbit] at e
        have HS := Lib.hid hsucc
        clear hsucc hbit
        go_wp2_with (at_builtin; refine wpList_append_own _ rfl _ _ 58 rfl w.heap.size 3 i0 (.int .i64 0) 1 8 Tryd.underlying58 hi hz0 hz1 hz2 rfl (by decide) _ _ _ rfl (hrow.alloc _) ⟨wr.heap.size, 0, none⟩ 1 1 [.int .i64 k] rfl rfl (cell_one_new _ _ _) (by simp [Value.oneCell']) (by unfold maxLen; omega) (by omega) (by simp; omega) ?_; intro v' w1 hown' hgrow _)
        have hB1 : Below w.heap.size w w1 := (hB.alloc hszW _).grown hgrow (by simp; omega) (fun j ej => (hrow.lt j ej).1)
        go_wp2
        go_roundw
        case rel => exact ⟨k + 1, by omega, by go_num, by rw [HS.out, List.length_append]; simpa [ints] using hown', hB1⟩
        case measure => simp [intOf]; omega
      | false =>
        rw [hbit] at hsucc e
        have HS := Lib.hid (show places s.data.toList p (k + 1) = places s.data.toList p k by rw [hsucc]; simp)
        clear hsucc hbit
        go_wp2
        go_roundw
        case rel => exact ⟨k + 1, by omega, by go_num, by rw [HS.out]; exact hrow, hB⟩
        case measure => simp [intOf]; omega
    · obtain rfl : k = s.size := by omega
      have C := of_row hrow (fun m hm => by have := (mem_places.1 hm).1; omega) (by omega)
      rw [HP.out] at C
      have HB := Lib.hid hB
      clear hrow hlen hB
      go_wp2_with fail
      refine C.mono ?_
      rintro e w1 ⟨rfl, hB1⟩
      go_wp2
      go_ret
      exact ⟨rfl, HB.out.trans (hB1.mono HB.out.size)⟩

theorem row_nats {W : World} {base : Nat} {v : Value} {l : List Nat} (h : W.ownsRow base 3 1 v l.length (ints l)) :
    ∃ a cap, v = .slice a l.length cap ∧ (l ≠ [] → ∃ g, a = some ⟨g, 0, none⟩ ∧ base ≤ g ∧ g < W.heap.size ∧ ∀ j (h : j < l.length), W.cell? ⟨g, j, none⟩ = some (.int .i64 (l[j] : Nat))) := by
  by_cases hv : v = .slice none 0 0
  · rcases h.2 with ⟨_, h0⟩ | ⟨g, cap, cur, e, _⟩
    · exact ⟨none, 0, by rw [h0]; exact hv, fun hn => absurd (List.eq_nil_of_length_eq_zero h0) hn⟩
    · rw [hv] at e; cases e
  · obtain ⟨g, cap, rfl, hb, hg, _, _, hc⟩ := row_cells h hv
    exact ⟨_, cap, rfl, fun _ => ⟨g, rfl, hb, hg, fun j hj => hc j _ (by simp [ints, hj])⟩⟩
theorem rowAt_lt {W : World} {g : Nat} {L : List UInt8} (h : RowAt W g L) (hl : 0 < L.length) : g < W.heap.size := by
  have := (h 0 hl).1
  rcases Nat.lt_or_ge g W.heap.size with h1 | h1
  · exact h1
  · rw [World.cell?, Array.getElem?_eq_none (by simpa using h1)] at this
    cases this
theorem rowAt_keep {W W' : World} {g : Nat} {L : List UInt8} (h : RowAt W g L) (hB : Below W.heap.size W W') (hl : 0 < L.length) : RowAt W' g L := fun i hi => by
  have hb := hB.block g (rowAt_lt h hl)
  refine ⟨(World.cell?_of_block (w := W) hb).trans (h i hi).1, ?_⟩
  have h2 := (h i hi).2
  simp only [World.frozen?] at h2 ⊢
  rw [hb]; exact h2
theorem bits_or_p (x : UInt8) {p : Nat} (hp : p < 8) : bits .or .u8 (x.toNat : Int) (2 ^ p % 256) = ((bor x (bitB p)).toNat : Int) := by
  have h := bits_or_bit x p
  rw [Nat.mod_eq_of_lt hp] at h
  exact h
theorem set_or (L : List UInt8) (z p : Nat) : L.set z (bor (gd L z) (bitB p)) = orAt p L [z] := rfl
set_option maxRecDepth 100000 in
set_option maxHeartbeats 2000000 in
theorem text_any (q n : Nat) (f : Nat → List UInt8) (w : World) (h : MapAt q n f w) :
    Calls Tryd.prog 15 #[.pointer (some ⟨q, 0, none⟩)] w fun e w' => e = .returned (.string (bs (textL n f))) ∧ Below w.heap.size w w' := by
  obtain ⟨i0, hi, hz0, hz1, hz2⟩ := info_parts info5
  have c0 := MapO.c0 h.obj
  have hok := Lib.hid h.ok
  have hn1 := h.ok.hi
  have hn2 := h.ok.lo
  have hmk := run_makeSlice (P := Tryd.prog) (w := w) 34 5 i0 (.int .u8 0) Tryd.underlying34 hi hz0 .i64 .i64 (n : Int) (n : Int) (by omega) (by omega) (by rw [hz1]; omega) (by rw [hz2]; omega) (by omega)
  rw [hz1, Nat.mul_one, Int.toNat_natCast, show Value.cells (.int .u8 0) = #[.int .u8 0] from rfl] at hmk
  obtain ⟨w1, hw1⟩ : ∃ w1, w.alloc (.cells (madeCells #[.int .u8 0] n) 5) = w1 := ⟨_, rfl⟩
  have hR1 : RowAt w1 w.heap.size (textN n f 0) := by rw [← hw1, textN_zero]; exact RowAt.new w n
  have hB1 : Below w.heap.size w w1 := by rw [← hw1]; exact (Below.refl _ w).alloc (Nat.le_refl _) _
  rw [hw1] at hmk
  obtain ⟨d1, d2, d3, d4, d5, d6, d7, d8⟩ := MapO.eight (h.below hB1).obj
  have X : ∀ p : Nat, p < 8 → ∀ W, _ := fun p hp W => index_planes f (p := p) hp W
  unfold aggV at X
  clear h hw1
  go_enter Tryd.func15, Tryd.ntmps15
  go_wp2
  generalize bs (f 0) = s0 at *
  generalize bs (f 1) = s1 at *
  generalize bs (f 2) = s2 at *
  generalize bs (f 3) = s3 at *
  generalize bs (f 4) = s4 at *
  generalize bs (f 5) = s5 at *
  generalize bs (f 6) = s6 at *
  generalize bs (f 7) = s7 at *
  clear d1 d2 d3 d4 d5 d6 d7 d8 hmk c0
  go_loopw [17] (fun i wr => ∃ k : Nat, k ≤ 8 ∧ i = .int .i64 k ∧ RowAt wr w.heap.size (textN n f k) ∧ Below w.heap.size w wr) (fun i _ => 8 - (intOf i).toNat)
  case atStart => exact ⟨0, by omega, rfl, hR1, hB1⟩
  case round =>
    clear hR1 hB1
    obtain ⟨k, hk, rfl, hrow, hB⟩ := hrel
    obtain ⟨wo, rfl⟩ : ∃ wo : World, wo = wr := ⟨_, rfl⟩
    by_cases hlt : k < 8
    · have hki : (k : Int) < 8 := by omega
      have hk0 : (0 : Int) ≤ (k : Int) := by omega
      have x := X k hlt
      have l2 := hok.out.len hlt
      have CL := fun W => list_any (bs (f k)) (by rw [bs_size]; omega) W
      rw [bs_list] at CL
      have hfit := Lib.hid (hok.out.fits k hlt)
      have HN := Lib.hid (orAt_plane (n := n) f (hok.out.fits k hlt))
      have hzb : ∀ z ∈ nums (f k) 0, z < n := fun z hz => (hok.out.fits k hlt z (mem_nums.1 hz).2).2
      have hzlen := length_nums (f k) 0
      have HZ := Lib.hid hzb
      have HRow := Lib.hid hrow
      have HB := Lib.hid hB
      have hTl := Lib.hid (length_textN n f k)
      clear X hB hrow hzb
      generalize textN n f k = T at *
      generalize nums (f k) 0 = zs at *
      have hzl2 : zs.length ≤ 4096 := by omega
      clear hzlen l2
      generalize bs (f k) = S at *
      go_wp2_with fail
      refine (CL _).mono ?_
      rintro e w2 ⟨v, rfl, hown, hB2⟩
      obtain ⟨a, cap, rfl, ha⟩ := row_nats hown
      have HA := Lib.hid ha
      have HRow2 := Lib.hid (rowAt_keep HRow.out hB2 (by rw [hTl.out]; omega))
      have hgl := rowAt_lt HRow.out (by rw [hTl.out]; omega)
      have HB2 := Lib.hid (HB.out.trans (hB2.mono HB.out.size))
      clear hown ha CL hB2 HB HRow
      go_wp2
      go_loopw [24] (fun i wr => ∃ j : Nat, j ≤ zs.length ∧ i = .int .i64 j ∧ RowAt wr w.heap.size (orAt k T (zs.take j)) ∧ Below w.heap.size w wr ∧ Hid (∀ g, w.heap.size < g → wr.heap[g]? = w2.heap[g]?)) (fun i _ => zs.length - (intOf i).toNat)
      case atStart => exact ⟨0, Nat.zero_le _, rfl, by rw [List.take_zero]; exact HRow2.out, HB2.out, Lib.hid (fun _ _ => rfl)⟩
      case round =>
        obtain ⟨j, hj, rfl, hrow, hB, HG⟩ := hrel
        clear HRow2 HB2
        by_cases hjl : j < zs.length
        · obtain ⟨g, rfl, hg1, hg2, hg3⟩ := HA.out (by rintro rfl; simp at hjl)
          have hcell : wr.cell? ⟨g, j, none⟩ = some (.int .i64 (zs[j] : Nat)) := (World.cell?_of_block (w := w2) (HG.out g (by omega))).trans (hg3 j hjl)
          have hji : (j : Int) < (zs.length : Int) := by omega
          have hz := HZ.out zs[j] (List.getElem_mem hjl)
          have HT := Lib.hid (orAt_take k T zs j hjl)
          have hl1 := length_orAt k (zs.take j) T
          rw [hTl.out] at hl1
          generalize orAt k T (zs.take j) = L at *
          obtain ⟨hc8, hf8⟩ := hrow zs[j] (by omega)
          have hset := hrow.set zs[j] (bor (gd L zs[j]) (bitB k)) (by omega)
          rw [← HT.out] at hset
          have HS := Lib.hid hset
          have hbits := bits_or_p (gd L zs[j]) hlt
          have hzi : (zs[j] : Int) < (n : Int) := by omega
          have HB := Lib.hid hB
          clear hset hl1 hrow hB hg3 HT
          generalize bor (gd L zs[j]) (bitB k) = y at *
          generalize gd L zs[j] = b at *
          generalize zs[j] = z at *
          go_wp2
          go_region
          all_goals go_wp2
          go_roundw
          case rel => exact ⟨j + 1, by omega, by go_num, HS.out, (HB.out.setCell (p := ⟨w.heap.size, z, none⟩) (Nat.le_refl _) _).drew, Lib.hid (fun i hi => (show (World.setCell _ _ _).heap[i]? = _ from Below.heap_setCell _ _ _ _ (Nat.ne_of_gt hi)).trans (HG.out i hi))⟩
          case measure => simp [intOf]; omega
        · obtain rfl : j = zs.length := by omega
          rw [List.take_length, HN.out] at hrow
          have HRow := Lib.hid hrow
          have HB := Lib.hid hB
          clear hrow hB
          go_wp2
          go_roundw
          case rel => exact ⟨k + 1, by omega, by go_num, HRow.out, HB.out⟩
          case measure => simp [intOf]; omega
    · obtain rfl : k = 8 := by omega
      have hL := length_textL n f
      rw [show textN n f 8 = textL n f from rfl] at hrow
      generalize hT : textL n f = T at *
      have HT := Lib.hid hT
      clear hT
      have hconv : (convert 34 9 (.slice (some ⟨w.heap.size, 0, none⟩) T.length n)).run Tryd.prog wo = .ok (.string (bs T)) wo :=
        run_convert_bytes_back wo 34 9 5 ⟨w.heap.size, 0, none⟩ n T Tryd.underlying34 Tryd.underlying5 Tryd.underlying9 (fun j hj => by
          rw [Addr.add_lit, Nat.zero_add, (hrow j hj).1, gd_lt hj])
      rw [hL] at hconv
      have HB := Lib.hid hB
      clear hrow hL hB X
      go_wp2
      go_ret
      exact ⟨by rw [HT.out]; rfl, HB.out⟩

/-! ### Parse -/
theorem mapO_congr {n : Nat} {f g : Nat → List UInt8} (h : ∀ p, p < 8 → f p = g p) : MapO n f = MapO n g := by
  unfold MapO mapCells
  rw [List.map_congr_left (fun p hp => by rw [h p (List.mem_range.1 hp)])]
theorem MapAt.congr {q n : Nat} {f g : Nat → List UInt8} {w : World} (k : MapAt q n f w) (h : ∀ p, p < 8 → f p = g p) : MapAt q n g w :=
  ⟨by rw [← mapO_congr h]; exact k.obj, k.ok.used (fun p hp => (h p hp).symm)⟩
def Parses (s : ByteArray) : Prop := 8 ≤ s.size ∧ s.size ≤ 4096 ∧ gd s.data.toList 0 = 0
def fK (s : List UInt8) (k : Nat) : Nat → List UInt8 := fun p => if p < k then planeOf s p else []
theorem fK_succ {s : List UInt8} (h : s.length ≤ 65535) (k : Nat) : upd (fK s k) k (least (planeOf s k)) = fK s (k + 1) := by
  funext p
  unfold upd fK
  rw [least_planeOf h]
  by_cases e : p = k
  · subst e; simp
  · rw [if_neg e]
    have h1 : (p < k + 1) ↔ (p < k) := by omega
    simp only [h1]
def PAns (w : World) (s : ByteArray) (e : Ending) (w' : World) : Prop := Below w.heap.size w w' ∧ ((Parses s ∧ ∃ q, e = .returned (.tuple #[.pointer (some ⟨q, 0, none⟩), .int .i64 0]) ∧ w.heap.size ≤ q ∧ MapAt q s.size (planeOf s.data.toList) w') ∨ (¬ Parses s ∧ e = .returned (.tuple #[.pointer none, .int .i64 90])))
set_option maxRecDepth 100000 in
set_option maxHeartbeats 2000000 in
theorem parse_any (s : ByteArray) (hs : s.size ≤ 140737488355328) (w : World) :
    Calls Tryd.prog 11 #[.string s] w fun e w' => PAns w s e w' := by
  by_cases hsz : 8 ≤ s.size ∧ s.size ≤ 4096
  · have CN := new_yes s.size hsz.1 hsz.2 w
    have hn : s.data.toList.length = s.size := by simp
    have hsz2 := hsz.2
    have hsz1 := hsz.1
    clear hsz
    go_enter Tryd.func11, Tryd.ntmps11
    go_wp2_with fail
    refine CN.mono ?_
    rintro e w1 ⟨rfl, hm, hB⟩
    have HM := Lib.hid (show MapAt w.heap.size s.size (fK s.data.toList 0) w1 from hm)
    have HB := Lib.hid hB
    clear hm hB CN
    go_wp2
    go_loopw [17] (fun i wr => ∃ k : Nat, k ≤ 8 ∧ i = .int .i64 k ∧ Hid (MapAt w.heap.size s.size (fK s.data.toList k) wr ∧ Below w.heap.size w wr) ∧ Hid (∀ p, p < k → (gd s.data.toList 0).toNat.testBit p = false)) (fun i _ => 8 - (intOf i).toNat)
    case atStart => exact ⟨0, by omega, rfl, Lib.hid ⟨HM.out, HB.out⟩, Lib.hid (fun p hp => absurd hp (Nat.not_lt_zero _))⟩
    case round =>
      clear HM HB
      obtain ⟨k, hk, rfl, H, HZ⟩ := hrel
      by_cases hlt : k < 8
      · have hki : (k : Int) < 8 := by omega
        have CB := fun W => bitsOf_any s k hlt (by omega) W
        have hfit := fits_planeOf (s := s.data.toList) (p := k) (by omega)
        have hlen : (bs (planeOf s.data.toList k)).size ≤ 140737488355328 := by
          rw [bs_size]
          have := lenI_le (okI_places (s := s.data.toList) (p := k) (k := s.data.toList.length) (by omega))
          have h2 : (planeOf s.data.toList k).length = _ := length_ofL _
          omega
        have CP := fun W (h : MapAt w.heap.size s.size (fK s.data.toList k) W) => put_any w.heap.size s.size (fK s.data.toList k) (k : Int) (by omega) (by omega) (bs (planeOf s.data.toList k)) hlen W h
        unfold putE putF at CP
        rw [isP_nat hlt, bs_list, Int.toNat_natCast, fK_succ (by omega)] at CP
        rw [hn] at hfit
        cases hb : (gd s.data.toList 0).toNat.testBit k with
        | false =>
          rw [fits_iff.2 (hfit.2 hb)] at CP
          simp only [Bool.and_self, if_true] at CP
          have HN := Lib.hid (fun p (hp : p < k + 1) => show (gd s.data.toList 0).toNat.testBit p = false by
            rcases Nat.lt_or_ge p k with h | h
            · exact HZ.out p h
            · obtain rfl : p = k := by omega
              exact hb)
          clear hfit hlen hb
          generalize bs (planeOf s.data.toList k) = B at *
          go_wp2_with fail
          refine (CB _).mono ?_
          rintro e w2 ⟨rfl, hB2⟩
          have H2 := Lib.hid (And.intro (H.out.1.below hB2) (H.out.2.trans (hB2.mono H.out.2.size)))
          clear CB hB2
          go_wp2_with fail
          refine (CP _ H2.out.1).mono ?_
          rintro e w3 ⟨rfl, hm3, hs3⟩
          have H3 := Lib.hid (And.intro hm3 (H2.out.2.trans (hs3.below (fun i e => by rw [e]; exact Nat.le_refl _) H2.out.2.size)))
          clear CP hm3 hs3
          go_wp2
          go_roundw
          case rel => exact ⟨k + 1, by omega, by go_num, H3, HN⟩
          case measure => simp [intOf]; omega
        | true =>
          have hnf : fitsB s.size (planeOf s.data.toList k) = false := by
            cases hc : fitsB s.size (planeOf s.data.toList k) with
            | false => rfl
            | true => rw [hfit.1 (fits_iff.1 hc)] at hb; cases hb
          rw [hnf] at CP
          simp only [Bool.and_false, Bool.false_eq_true, if_false] at CP
          have HN := Lib.hid (show ¬ Parses s from fun h => by rw [h.2.2] at hb; simp at hb)
          clear hfit hlen hb hnf
          generalize bs (planeOf s.data.toList k) = B at *
          go_wp2_with fail
          refine (CB _).mono ?_
          rintro e w2 ⟨rfl, hB2⟩
          have H2 := Lib.hid (And.intro (H.out.1.below hB2) (H.out.2.trans (hB2.mono H.out.2.size)))
          clear CB hB2
          go_wp2_with fail
          refine (CP _ H2.out.1).mono ?_
          rintro e w3 ⟨rfl, hm3, hs3⟩
          have H3 := Lib.hid (And.intro hm3 (H2.out.2.trans (hs3.below (fun i e => by rw [e]; exact Nat.le_refl _) H2.out.2.size)))
          clear CP hm3 hs3
          go_wp2
          go_ret2
          exact ⟨H3.out.2, .inr ⟨HN.out, rfl⟩⟩
      · obtain rfl : k = 8 := by omega
        go_wp2
        go_ret2
        have h0 : gd s.data.toList 0 = 0 := u8_ext fun k hk => by rw [HZ.out k hk]; simp
        exact ⟨H.out.2, .inl ⟨⟨hsz1, hsz2, h0⟩, w.heap.size, rfl, Nat.le_refl _, H.out.1.congr (fun p hp => if_pos hp)⟩⟩
  · have CN := new_no (s.size : Int) (by omega) w
    have HN := Lib.hid (show ¬ Parses s from fun h => hsz ⟨h.1, h.2.1⟩)
    clear hsz
    go_enter Tryd.func11, Tryd.ntmps11
    go_wp2_with fail
    refine CN.mono ?_
    rintro e w1 ⟨rfl, rfl⟩
    go_wp2
    go_ret2
    exact ⟨Below.refl _ _, .inr ⟨HN.out, rfl⟩⟩
end Go.Proofs.YteboacjniokfpaaDoor

