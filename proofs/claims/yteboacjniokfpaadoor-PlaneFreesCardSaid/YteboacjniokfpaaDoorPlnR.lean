/-
  The reference's map: its object; which text it makes; Plane, Used, Free, Diff.
-/
import Derived.Test.YteboacjniokfpaaDoorPlnC
import Derived.Test.YteboacjniokfpaaDoorSetsG4
import Derived.Lib.ConvBytes
namespace Go.Proofs.YteboacjniokfpaaDoor
open Go.ChangeShapes Go.WideShapes Go.ChangeAt Go.RowKit Go SM PL

/-! ### Which texts, how many blocks -/
theorem rnew_no (b : Int) (hb : b < 8 ∨ 4096 < b) (w : World) :
    Calls Tryd.prog 10 #[.int .i64 b] w fun e w' => e = .returned (.tuple #[.pointer none, .int .i64 90]) ∧ w = w' := by
  by_cases h : b < 8
  · go_enter Tryd.func10, Tryd.ntmps10
    go_wp2
    go_ret2
    exact ⟨rfl, rfl⟩
  · have h2 : 4096 < b := by omega
    go_enter Tryd.func10, Tryd.ntmps10
    go_wp2
    go_ret2
    exact ⟨rfl, rfl⟩
def RObj (g n cap : Nat) : Obj := .cells #[.slice (some ⟨g, 0, none⟩) n cap] 49 (0, 0)
theorem rnew_yes (n : Nat) (h1 : 8 ≤ n) (h2 : n ≤ 4096) (w : World) :
    Calls Tryd.prog 10 #[.int .i64 n] w fun e w' => e = .returned (.tuple #[.pointer (some ⟨w.heap.size + 1, 0, none⟩), .int .i64 0]) ∧ w' = (w.alloc (.cells (madeCells #[.int .u8 0] n) 5)).alloc (RObj w.heap.size n n) := by
  obtain ⟨i0, hi, hz0, hz1, hz2⟩ := info_parts info5
  have a1 : ¬ (n : Int) < 8 := by omega
  have a2 : ¬ (4096 : Int) < (n : Int) := by omega
  have hmk := run_makeSlice (P := Tryd.prog) (w := w) 34 5 i0 (.int .u8 0) Tryd.underlying34 hi hz0 .i64 .i64 (n : Int) (n : Int) (by omega) (by omega) (by rw [hz1]; omega) (by rw [hz2]; omega) (by omega)
  rw [hz1, Nat.mul_one, Int.toNat_natCast, show Value.cells (.int .u8 0) = #[.int .u8 0] from rfl] at hmk
  obtain ⟨w1, hw1⟩ : ∃ w1, w.alloc (.cells (madeCells #[.int .u8 0] n) 5) = w1 := ⟨_, rfl⟩
  have hs : w1.heap.size = w.heap.size + 1 := by rw [← hw1, World.size_alloc]
  rw [hw1] at hmk ⊢
  have HS := Lib.hid hs
  clear h1 h2 hw1 hs hz0 hz1 hz2
  go_enter Tryd.func10, Tryd.ntmps10
  go_wp2
  go_ret2
  exact ⟨by rw [← HS.out]; rfl, rfl⟩
theorem rbelow_bytes (w : World) (e : TypeId) (x : ByteArray) : Below w.heap.size w (Lib.bytesWorld w e x) ∧ (Lib.bytesWorld w e x).heap.size = w.heap.size + 1 := by
  have hs : (Lib.bytesWorld w e x).heap.size = w.heap.size + 1 := by simp [Lib.bytesWorld, World.freeze]
  refine ⟨⟨rfl, rfl, rfl, by omega, fun k hk => Lib.bytesWorld_at_old w e x k hk⟩, hs⟩
def RPAns (w : World) (s : ByteArray) (e : Ending) (w' : World) : Prop := ∃ p, Below w.heap.size w w' ∧ ((Parses s ∧ e = .returned (.tuple #[p, .int .i64 0])) ∨ (¬ Parses s ∧ e = .returned (.tuple #[p, .int .i64 90])))
set_option maxRecDepth 100000 in
theorem rparse_any (s : ByteArray) (hs : s.size ≤ 140737488355328) (w : World) :
    Calls Tryd.prog 12 #[.string s] w fun e w' => RPAns w s e w' := by
  by_cases h1 : (s.size : Int) < 8
  · have HN := Lib.hid (show ¬ Parses s from fun h => by have := h.1; omega)
    go_enter Tryd.func12, Tryd.ntmps12
    go_wp2
    go_ret2
    exact ⟨_, Below.refl _ _, .inr ⟨HN.out, rfl⟩⟩
  · by_cases h2 : (4096 : Int) < (s.size : Int)
    · have HN := Lib.hid (show ¬ Parses s from fun h => by have := h.2.1; omega)
      go_enter Tryd.func12, Tryd.ntmps12
      go_wp2
      go_ret2
      exact ⟨_, Below.refl _ _, .inr ⟨HN.out, rfl⟩⟩
    · have h0 : 0 < s.size := by omega
      have hg := gd_get h0
      by_cases h3 : s[0] = 0
      · have HP := Lib.hid (show Parses s from ⟨by omega, by omega, by rw [hg]; exact h3⟩)
        have hb : ((s[0].toNat : Int) != 0) = false := by rw [h3]; rfl
        have hcv := Lib.run_convert_string_bytes (P := Tryd.prog) w 9 34 5 s Tryd.underlying9 Tryd.underlying34 Tryd.underlying5
        obtain ⟨hB1, hs1⟩ := rbelow_bytes w 5 s
        generalize Lib.bytesWorld w 5 s = w1 at hcv hB1 hs1
        generalize grownCap w s.size 0 5 = cap at hcv
        have HB := Lib.hid hB1
        have HS := Lib.hid hs1
        clear hg h3 hB1 hs1
        go_enter Tryd.func12, Tryd.ntmps12
        go_wp2
        go_ret2
        exact ⟨_, HB.out.alloc (by rw [HS.out]; omega) _, .inl ⟨HP.out, rfl⟩⟩
      · have HP := Lib.hid (show ¬ Parses s from fun h => h3 (by rw [← hg]; exact h.2.2))
        have hb : ((s[0].toNat : Int) != 0) = true := by
          rw [bne_iff_ne]; intro e; exact h3 (UInt8.toNat_inj.1 (by simpa using e))
        clear hg h3
        go_enter Tryd.func12, Tryd.ntmps12
        go_wp2
        go_ret2
        exact ⟨_, Below.refl _ _, .inr ⟨HP.out, rfl⟩⟩

/-! ### The object -/
structure RAt (r n : Nat) (f : Nat → List UInt8) (w : World) : Prop where
  ex : ∃ g cap, w.heap[r]? = some (RObj g n cap) ∧ (∃ C fr, w.heap[g]? = some (.cells C 5 fr)) ∧ ∀ i, i < n → w.cell? ⟨g, i, none⟩ = some (.int .u8 (gd (textL n f) i).toNat)
  ok : Ok n f
section
variable {r n : Nat} {f : Nat → List UInt8} {w w' : World}
theorem RAt.stay {F : Nat → Prop} (h : RAt r n f w) (k : Stir F w w') (hn : ∀ i C e fr, F i → w.heap[i]? = some (.cells C e fr) → e ≠ 5 ∧ e ≠ 49) : RAt r n f w' := by
  obtain ⟨⟨g, cap, h1, ⟨C, fr, h2⟩, h3⟩, h4⟩ := h
  refine ⟨⟨g, cap, k.keep h1 (fun e => (hn r _ _ _ e h1).2 rfl), ⟨C, fr, k.keep h2 (fun e => (hn g _ _ _ e h2).1 rfl)⟩, fun i hi => ?_⟩, h4⟩
  rw [World.cell?_of_block (w := w) (k.block g (lt_of_heap h2) (fun e => (hn g _ _ _ e h2).1 rfl))]
  exact h3 i hi
theorem RAt.below (h : RAt r n f w) (k : Below w.heap.size w w') : RAt r n f w' := h.stay (Stir.of_below (F := fun _ => False) k) (fun _ _ _ _ e => e.elim)
theorem RAt.map {q : Nat} {fq : Nat → List UInt8} {m : Nat} (h : RAt r n f w) (hq : w.heap[q]? = some (MapO m fq)) (k : Stir (· = q) w w') : RAt r n f w' :=
  h.stay k (fun i C e fr hi hc => by
    subst hi
    rw [hq] at hc
    injection hc with hc
    injection hc with _ hc _
    subst hc
    exact ⟨by decide, by decide⟩)
theorem RAt.lt (h : RAt r n f w) : r < w.heap.size := by obtain ⟨⟨_, _, h1, _⟩, _⟩ := h; exact lt_of_heap h1
end
theorem rat_new (n : Nat) (h1 : 8 ≤ n) (h2 : n ≤ 4096) (w : World) : RAt (w.heap.size + 1) n (fun _ => []) ((w.alloc (.cells (madeCells #[.int .u8 0] n) 5)).alloc (RObj w.heap.size n n)) ∧ Below w.heap.size w ((w.alloc (.cells (madeCells #[.int .u8 0] n) 5)).alloc (RObj w.heap.size n n)) := by
  have hB := ((Below.refl _ w).alloc (Nat.le_refl _) (.cells (madeCells #[.int .u8 0] n) 5))
  refine ⟨⟨⟨w.heap.size, n, ?_, ⟨_, _, heap_alloc_old (heap_alloc_new w _) _⟩, fun i hi => ?_⟩, ok_new h1 h2⟩, hB.alloc (by rw [World.size_alloc]; omega) _⟩
  · have := heap_alloc_new (w.alloc (.cells (madeCells #[.int .u8 0] n) 5)) (RObj w.heap.size n n)
    rwa [World.size_alloc] at this
  · have hR := RowAt.new w n i (by simpa using hi)
    have e : gd (textL n fun _ => []) i = 0 := by rw [gd_textL _ hi, byteN_zero]; intro p _; exact bit_nil _
    rw [e]
    have := hR.1
    rw [gd_zeros] at this
    rw [World.cell?_of_block (w := w.alloc (.cells (madeCells #[.int .u8 0] n) 5)) (Below.heap_alloc _ _ w.heap.size (by rw [World.size_alloc]; omega))]
    exact this

theorem is_any (p : Int) (w : World) :
    Calls Tryd.prog 39 #[.int .i64 p] w fun e w' => e = .returned (.bool (isP p)) ∧ w = w' := by
  obtain ⟨B, hB⟩ : ∃ B, isP p = B := ⟨_, rfl⟩
  rw [hB]
  unfold isP at hB
  have HE := Lib.hid hB
  clear hB
  by_cases a : 0 ≤ p
  · by_cases b : p ≤ 7
    · go_enter Tryd.func39, Tryd.ntmps39
      go_wp2
      go_ret
      exact ⟨by rw [← HE.out, decide_eq_true a, decide_eq_true (show p < 8 by omega)]; rfl, rfl⟩
    · go_enter Tryd.func39, Tryd.ntmps39
      go_wp2
      go_ret
      exact ⟨by rw [← HE.out, decide_eq_false (show ¬ p < 8 by omega), Bool.and_false]; rfl, rfl⟩
  · go_enter Tryd.func39, Tryd.ntmps39
    go_wp2
    go_ret
    exact ⟨by rw [← HE.out, decide_eq_false (show ¬ 0 ≤ p by omega)]; rfl, rfl⟩
theorem shr_int (b : UInt8) {p : Nat} (hp : p < 8) : (((b.toNat : Int) / 2 ^ p).tmod 2 == 1) = b.toNat.testBit p := by
  have hb := b.toNat_lt
  rw [← tb_div b p hp]
  have e2 : ((b.toNat : Int) / 2 ^ p) = ((b.toNat / 2 ^ p : Nat) : Int) := by simp
  rw [e2]
  generalize b.toNat / 2 ^ p = m
  rw [Int.tmod_eq_emod_of_nonneg (by omega)]
  have : m % 2 = 0 ∨ m % 2 = 1 := by omega
  rcases this with h | h
  · have : (m : Int) % 2 = 0 := by omega
    simp [h, this]
  · have : (m : Int) % 2 = 1 := by omega
    simp [h, this]
theorem rmhas_any (r n : Nat) (f : Nat → List UInt8) {p b : Nat} (hp : p < 8) (hb : b < n) (w : World) (h : RAt r n f w) :
    Calls Tryd.prog 43 #[.pointer (some ⟨r, 0, none⟩), .int .i64 p, .int .i64 b] w fun e w' => e = .returned (.bool ((gd (textL n f) b).toNat.testBit p)) ∧ w = w' := by
  obtain ⟨⟨g, cap, h1, _, h3⟩, h4⟩ := h
  have hn := h4.hi
  have c0 : w.cell? ⟨r, 0, none⟩ = some (.slice (some ⟨g, 0, none⟩) n cap) := by simp [World.cell?, h1, RObj]
  have c1 := h3 b hb
  have e := shr_int (gd (textL n f) b) hp
  have hlt := (gd (textL n f) b).toNat_lt
  generalize gd (textL n f) b = y at *
  rw [← e]
  have hp1 : (0 : Int) ≤ (p : Int) := by omega
  have hb1 : (b : Int) < (n : Int) := by omega
  clear e h3
  go_enter Tryd.func43, Tryd.ntmps43
  go_wp2
  go_ret
  exact ⟨rfl, rfl⟩

theorem rof_row {v : Value} {l : List Nat} {w : World} {base : Nat} (h : w.ownsRow base 3 1 v l.length (ints l)) (hl : ∀ m ∈ l, m ≤ 65535) (hn : l.length ≤ 65536) :
    Calls Tryd.prog 44 #[v] w fun e w' => e = .returned (.tuple #[.string (bs (ofL (intsN l))), .int .i64 0]) ∧ Below w.heap.size w w' := by
  have := rof_any v (intsN l) (by rw [← toInts_nats, length_toInts]; omega) w (intsAt_of_owns h)
  rw [ofV, if_pos (okI_nats hl)] at this
  exact this
set_option maxRecDepth 100000 in
set_option maxHeartbeats 2000000 in
theorem rplane_any (r n : Nat) (f : Nat → List UInt8) (p : Int) (w : World) (h : RAt r n f w) :
    Calls Tryd.prog 26 #[.pointer (some ⟨r, 0, none⟩), .int .i64 p] w fun e w' => e = .returned (planeV f p) ∧ Below w.heap.size w w' := by
  have C1 := is_any p w
  unfold planeV
  cases hp : isP p with
  | false =>
    rw [hp] at C1
    simp only [Bool.false_eq_true, if_false]
    go_enter Tryd.func26, Tryd.ntmps26
    go_wp2_with fail
    refine C1.mono ?_
    rintro e w1 ⟨rfl, rfl⟩
    go_wp2
    go_ret2
    exact ⟨rfl, Below.refl _ _⟩
  | true =>
    obtain ⟨k, rfl, hk⟩ := isP_yes hp
    rw [hp] at C1
    simp only [if_true, Int.toNat_natCast]
    obtain ⟨i0, hi, hz0, hz1, hz2⟩ := info_parts info3
    have HP := Lib.hid (ref_plane h.ok hk)
    have hn := h.ok.hi
    have HH := Lib.hid h
    clear h
    go_enter Tryd.func26, Tryd.ntmps26
    go_wp2_with fail
    refine C1.mono ?_
    rintro e w1 ⟨rfl, rfl⟩
    go_wp2
    have hrow0 : (w.alloc (.cells #[] 3)).ownsRow w.heap.size 3 1 (.slice (some ⟨w.heap.size, 0, none⟩) 0 0) 0 [] := World.ownsRow_made w #[] 0 (Nat.le_refl _) (by unfold maxLen; omega) (by simp)
    go_loopw [6, 7] (fun v i wr => ∃ b : Nat, b ≤ n ∧ i = .int .i64 b ∧ wr.ownsRow w.heap.size 3 1 v (places (textL n f) k b).length (ints (places (textL n f) k b)) ∧ Below w.heap.size w wr) (fun _ i _ => n - (intOf i).toNat)
    case atStart => exact ⟨0, Nat.zero_le _, rfl, hrow0, (Below.refl _ w).alloc (Nat.le_refl _) _⟩
    case round =>
      clear hrow0
      obtain ⟨b, hb, rfl, hrow, hB⟩ := hrel
      have hR := HH.out.below hB
      have hR2 := hR
      obtain ⟨⟨g, cap, g1, _, _⟩, _⟩ := hR2
      have c0 : wr.cell? ⟨r, 0, none⟩ = some (.slice (some ⟨g, 0, none⟩) n cap) := by simp [World.cell?, g1, RObj]
      clear g1
      have hlen := length_places (textL n f) k b
      by_cases hlt : b < n
      · have hszW : w.heap.size ≤ wr.heap.size := hB.size
        have hbi : (b : Int) < (n : Int) := by omega
        have hsucc := places_succ (textL n f) k b
        have CH := rmhas_any r n f hk hlt wr hR
        clear hR
        cases hbit : (gd (textL n f) b).toNat.testBit k with
        | true =>
          rw [hbit, if_pos rfl] at hsucc
          rw [hbit] at CH
          have HS := Lib.hid hsucc
          clear hsucc hbit
          go_wp2_with fail
          refine CH.mono ?_
          rintro e w1 ⟨rfl, rfl⟩
          go_wp2_with (at_builtin; refine wpList_append_own _ rfl _ _ 58 rfl w.heap.size 3 i0 (.int .i64 0) 1 8 Tryd.underlying58 hi hz0 hz1 hz2 rfl (by decide) _ _ _ rfl (hrow.alloc _) ⟨wr.heap.size, 0, none⟩ 1 1 [.int .i64 b] rfl rfl (cell_one_new _ _ _) (by simp [Value.oneCell']) (by unfold maxLen; omega) (by omega) (by simp; omega) ?_; intro v' w1 hown' hgrow _)
          have hB1 : Below w.heap.size w w1 := (hB.alloc hszW _).grown hgrow (by simp; omega) (fun j ej => (hrow.lt j ej).1)
          go_wp2
          go_roundw
          case rel => exact ⟨b + 1, by omega, by go_num, by rw [HS.out, List.length_append]; simpa [ints] using hown', hB1⟩
          case measure => simp [intOf]; omega
        | false =>
          rw [hbit] at hsucc CH
          have HS := Lib.hid (show places (textL n f) k (b + 1) = places (textL n f) k b by rw [hsucc]; simp)
          clear hsucc hbit
          go_wp2_with fail
          refine CH.mono ?_
          rintro e w1 ⟨rfl, rfl⟩
          go_wp2
          go_roundw
          case rel => exact ⟨b + 1, by omega, by go_num, by rw [HS.out]; exact hrow, hB⟩
          case measure => simp [intOf]; omega
      · obtain rfl : b = n := by omega
        have C := rof_row hrow (fun m hm => by have := (mem_places.1 hm).1; omega) (by omega)
        rw [HP.out] at C
        have HB := Lib.hid hB
        clear hrow hlen hB hR
        go_wp2_with fail
        refine C.mono ?_
        rintro e w1 ⟨rfl, hB1⟩
        go_wp2
        go_ret2
        exact ⟨rfl, HB.out.trans (hB1.mono HB.out.size)⟩
set_option maxRecDepth 100000 in
set_option maxHeartbeats 2000000 in
theorem rused_any (r n : Nat) (f : Nat → List UInt8) (w : World) (h : RAt r n f w) :
    Calls Tryd.prog 28 #[.pointer (some ⟨r, 0, none⟩)] w fun e w' => e = .returned (.string (bs (used f))) ∧ Below w.heap.size w w' := by
  obtain ⟨i0, hi, hz0, hz1, hz2⟩ := info_parts info3
  have HP := Lib.hid (ref_used h.ok)
  have hn := h.ok.hi
  have HH := Lib.hid h
  clear h
  go_enter Tryd.func28, Tryd.ntmps28
  go_wp2
  have hrow0 : (w.alloc (.cells #[] 3)).ownsRow w.heap.size 3 1 (.slice (some ⟨w.heap.size, 0, none⟩) 0 0) 0 [] := World.ownsRow_made w #[] 0 (Nat.le_refl _) (by unfold maxLen; omega) (by simp)
  go_loopw [3, 4] (fun v i wr => ∃ b : Nat, b ≤ n ∧ i = .int .i64 b ∧ wr.ownsRow w.heap.size 3 1 v (busy (textL n f) b).length (ints (busy (textL n f) b)) ∧ Below w.heap.size w wr) (fun _ i _ => n - (intOf i).toNat)
  case atStart => exact ⟨0, Nat.zero_le _, rfl, hrow0, (Below.refl _ w).alloc (Nat.le_refl _) _⟩
  case round =>
    clear hrow0
    obtain ⟨b, hb, rfl, hrow, hB⟩ := hrel
    obtain ⟨⟨g, cap, g1, _, g3⟩, _⟩ := HH.out.below hB
    have c0 : wr.cell? ⟨r, 0, none⟩ = some (.slice (some ⟨g, 0, none⟩) n cap) := by simp [World.cell?, g1, RObj]
    clear g1
    have hlen := length_busy (textL n f) b
    by_cases hlt : b < n
    · have hszW : w.heap.size ≤ wr.heap.size := hB.size
      have hbi : (b : Int) < (n : Int) := by omega
      have hsucc := busy_succ (textL n f) b
      have c1 := g3 b hlt
      by_cases hbit : gd (textL n f) b = 0
      · rw [if_pos hbit, List.append_nil] at hsucc
        rw [hbit] at c1
        have c1' : wr.cell? ⟨g, b, none⟩ = some (.int .u8 0) := c1
        have HS := Lib.hid hsucc
        clear hsucc hbit c1 g3
        go_wp2
        go_roundw
        case rel => exact ⟨b + 1, by omega, by go_num, by rw [HS.out]; exact hrow, hB⟩
        case measure => simp [intOf]; omega
      · rw [if_neg hbit] at hsucc
        have hne : (((gd (textL n f) b).toNat : Int) != 0) = true := by
          rw [bne_iff_ne]; intro e; exact hbit (UInt8.toNat_inj.1 (by simpa using e))
        have HS := Lib.hid hsucc
        clear hsucc hbit g3
        generalize gd (textL n f) b = y at c1 hne
        go_wp2_with (at_builtin; refine wpList_append_own _ rfl _ _ 58 rfl w.heap.size 3 i0 (.int .i64 0) 1 8 Tryd.underlying58 hi hz0 hz1 hz2 rfl (by decide) _ _ _ rfl (hrow.alloc _) ⟨wr.heap.size, 0, none⟩ 1 1 [.int .i64 b] rfl rfl (cell_one_new _ _ _) (by simp [Value.oneCell']) (by unfold maxLen; omega) (by omega) (by simp; omega) ?_; intro v' w1 hown' hgrow _)
        have hB1 : Below w.heap.size w w1 := (hB.alloc hszW _).grown hgrow (by simp; omega) (fun j ej => (hrow.lt j ej).1)
        go_wp2
        go_roundw
        case rel => exact ⟨b + 1, by omega, by go_num, by rw [HS.out, List.length_append]; simpa [ints] using hown', hB1⟩
        case measure => simp [intOf]; omega
    · obtain rfl : b = n := by omega
      have C := rof_row hrow (fun m hm => by simp only [busy, List.mem_filter, List.mem_range] at hm; omega) (by omega)
      rw [HP.out] at C
      have HB := Lib.hid hB
      clear hrow hlen hB g3
      go_wp2_with fail
      refine C.mono ?_
      rintro e w1 ⟨rfl, hB1⟩
      go_wp2
      go_ret
      exact ⟨rfl, HB.out.trans (hB1.mono HB.out.size)⟩
set_option maxRecDepth 100000 in
theorem rfree_any (r n : Nat) (f : Nat → List UInt8) (w : World) (h : RAt r n f w) :
    Calls Tryd.prog 30 #[.pointer (some ⟨r, 0, none⟩)] w fun e w' => e = .returned (.int .i64 (freeK f n n : Nat)) ∧ w = w' := by
  have hn := h.ok.hi
  have hlo := h.ok.lo
  obtain ⟨⟨g, cap, g1, _, g3⟩, _⟩ := h
  have c0 : w.cell? ⟨r, 0, none⟩ = some (.slice (some ⟨g, 0, none⟩) n cap) := by simp [World.cell?, g1, RObj]
  have HC := Lib.hid g3
  clear g1 g3
  go_enter Tryd.func30, Tryd.ntmps30
  go_wp2
  go_loop [3, 4] (fun c i => ∃ b : Nat, 1 ≤ b ∧ b ≤ n ∧ i = .int .i64 b ∧ c = .int .i64 (freeK f n b : Nat)) (fun _ i => n - (intOf i).toNat)
  case atStart => exact ⟨1, by omega, by omega, rfl, by simp [freeK]⟩
  case round =>
    obtain ⟨b, hb1, hb, rfl, rfl⟩ := hrel
    by_cases hlt : b < n
    · have hbi : (b : Int) < (n : Int) := by omega
      have c1 := HC.out b hlt
      have hsucc := freeK_succ f n b
      have hle := freeK_le f n b
      by_cases hbit : gd (textL n f) b = 0
      · rw [if_pos ⟨hb1, hbit⟩] at hsucc
        rw [hbit] at c1
        have c1' : w.cell? ⟨g, b, none⟩ = some (.int .u8 0) := c1
        have HS := Lib.hid hsucc
        clear hsucc hbit c1
        generalize freeK f n b = z at *
        go_wp2
        go_round
        case rel => exact ⟨b + 1, by omega, by omega, by go_num, by rw [HS.out]; go_num⟩
        case measure => simp [intOf]; omega
      · rw [if_neg (fun h => hbit h.2)] at hsucc
        have hne : (((gd (textL n f) b).toNat : Int) == 0) = false := by
          rw [beq_eq_false_iff_ne]; intro e; exact hbit (UInt8.toNat_inj.1 (by simpa using e))
        have HS := Lib.hid hsucc
        clear hsucc hbit
        generalize gd (textL n f) b = y at c1 hne
        generalize freeK f n b = z at *
        go_wp2
        go_round
        case rel => exact ⟨b + 1, by omega, by omega, by go_num, by rw [HS.out]; rfl⟩
        case measure => simp [intOf]; omega
    · obtain rfl : b = n := by omega
      go_wp2
      go_ret
      exact ⟨rfl, rfl⟩
end Go.Proofs.YteboacjniokfpaaDoor

