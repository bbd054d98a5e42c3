/-
  The set of the free blocks; what tells them one by one; a pool as an object.
-/
import Derived.Test.YtknfakaklmpboaaAlcMath
import Derived.Test.YtknfakaklmpboaaLawKit
import Derived.Maps.AppendAt
namespace Go.Proofs.Ytknfakaklmpboaa
open Go.ChangeShapes Go.WideShapes Go.ChangeAt Go.RowKit Go.Shelf Go SM PL AL

theorem bitI_n (l : List UInt8) (k : Nat) : bitI l (k : Int) = bit l k := by simp [bitI]
theorem owns_keep {w w' : World} {base : Nat} {e : TypeId} {size : Nat} {v : Value} {n : Nat} {xs : List Value} (h : w.ownsRow base e size v n xs) (hk : ∀ k, v.ownBlock = some k → w'.heap[k]? = w.heap[k]?) : w'.ownsRow base e size v n xs := by
  refine ⟨h.1, ?_⟩
  rcases h.2 with h1 | ⟨g, cap, cur, rfl, h2, h3, h4⟩
  · exact .inl h1
  · exact .inr ⟨g, cap, cur, rfl, h2, (hk g rfl).trans h3, h4⟩
theorem owns_low {w : World} {base base' : Nat} {e : TypeId} {size : Nat} {v : Value} {n : Nat} {xs : List Value} (h : w.ownsRow base e size v n xs) (hb : base' ≤ base) : w.ownsRow base' e size v n xs := by
  refine ⟨h.1, ?_⟩
  rcases h.2 with h1 | ⟨g, cap, cur, h1, h2, h3⟩
  · exact .inl h1
  · exact .inr ⟨g, cap, cur, h1, Nat.le_trans hb h2, h3⟩
theorem owns_cells {w : World} {base : Nat} {e : TypeId} {size : Nat} {v : Value} {n : Nat} {xs : List Value} (h : w.ownsRow base e size v n xs) {k : Nat} (hk : v.ownBlock = some k) : ∃ cur, w.heap[k]? = some (.cells cur e (0, 0)) := by
  rcases h.2 with ⟨rfl, _⟩ | ⟨g, cap, cur, rfl, _, h3, _⟩
  · cases hk
  · obtain rfl : g = k := by simpa [Value.ownBlock] using hk
    exact ⟨cur, h3⟩
theorem intsN_is (l : List Nat) : toInts l = intsN l := rfl
theorem owns_ints {w : World} {base : Nat} {v : Value} {l : List Nat} (h : w.ownsRow base 3 1 v l.length (ints l)) : IntsAt w v (intsN l) := intsAt_of_owns h
/-- the set of a list of such numbers -/
theorem ofV_nats {l : List Nat} (h : ∀ m ∈ l, m ≤ 65535) : ofV (intsN l) = .tuple #[.string (bs (ofL (intsN l))), .int .i64 0] := by
  rw [ofV, if_pos (okI_nats h)]; rfl

/-! ### freeOf -/
set_option maxRecDepth 100000 in
set_option maxHeartbeats 2000000 in
theorem freeOf_any (s : ByteArray) (n : Nat) (hs : s.size ≤ 140737488355328) (h1 : 1 ≤ n) (h2 : n ≤ 4096) (w : World) :
    Calls Try.prog 18 #[.string s, .int .i64 n] w fun e w' => e = .returned (.string (bs (freeT s.data.toList n))) ∧ Below w.heap.size w w' := by
  obtain ⟨i0, hi, hz0, hz1, hz2⟩ := info_parts info3
  obtain ⟨T, hT⟩ : ∃ T, bs (freeT s.data.toList n) = T := ⟨_, rfl⟩
  rw [hT]
  have HT := Lib.hid hT
  clear hT
  go_enter Try.func18, Try.ntmps18
  go_wp2
  go_loopw [5, 6] (fun v i wr => ∃ k : Nat, 1 ≤ k ∧ k ≤ n ∧ i = .int .i64 k ∧ wr.ownsRow w.heap.size 3 1 v (frees s.data.toList k).length (ints (frees s.data.toList k)) ∧ Below w.heap.size w wr) (fun _ i _ => n - (intOf i).toNat)
  case atStart => exact ⟨1, Nat.le_refl _, h1, rfl, by rw [frees_one]; exact World.ownsRow_nil _ _ _ _, Below.refl _ _⟩
  case round =>
    obtain ⟨k, hk1, hk, rfl, hrow, hB⟩ := hrel
    have hlen := length_frees s.data.toList k
    by_cases hlt : k < n
    · have hszW : w.heap.size ≤ wr.heap.size := hB.size
      have hsucc := frees_succ s.data.toList k
      cases hbit : bit s.data.toList k with
      | false =>
        rw [if_pos ⟨hk1, hbit⟩] at hsucc
        have HS := Lib.hid hsucc
        have HB := Lib.hid (show bitI s.data.toList (k : Int) = false by rw [bitI_n, hbit])
        clear hsucc hbit
        go_wp2_with (first
          | (go_at_call 17; refine (has_any _ _ _ (by omega) (by omega) (by omega)).mono ?_; rintro e w' ⟨rfl, rfl⟩; rw [HB.out])
          | (at_builtin; refine wpList_append_own _ rfl _ _ 24 rfl w.heap.size 3 i0 (.int .i64 0) 1 8 Try.underlying24 hi hz0 hz1 hz2 rfl (by decide) _ _ _ rfl (hrow.alloc _) ⟨wr.heap.size, 0, none⟩ 1 1 [.int .i64 k] rfl rfl (cell_one_new _ _ _) (by simp [Value.oneCell']) (by unfold maxLen; omega) (by omega) (by simp; omega) ?_; intro v' w1 hown' hgrow _))
        have hB1 : Below w.heap.size w w1 := (hB.alloc hszW _).grown hgrow (by simp; omega) (fun j ej => (hrow.lt j ej).1)
        go_wp2
        go_roundw
        case rel => exact ⟨k + 1, by omega, by omega, by go_num, by rw [HS.out, List.length_append]; simpa [ints] using hown', hB1⟩
        case measure => simp [intOf]; omega
      | true =>
        rw [if_neg (by rw [hbit]; simp), List.append_nil] at hsucc
        have HS := Lib.hid hsucc
        have HB := Lib.hid (show bitI s.data.toList (k : Int) = true by rw [bitI_n, hbit])
        clear hsucc hbit
        go_wp2_with (go_at_call 17; refine (has_any _ _ _ (by omega) (by omega) (by omega)).mono ?_; rintro e w' ⟨rfl, rfl⟩; rw [HB.out])
        go_roundw
        case rel => exact ⟨k + 1, by omega, by omega, by go_num, by rw [HS.out]; exact hrow, hB⟩
        case measure => simp [intOf]; omega
    · obtain rfl : k = n := by omega
      have C := of_any _ (intsN (frees s.data.toList k)) (by rw [← intsN_is, length_toInts]; omega) wr (owns_ints hrow)
      rw [ofV_nats (fun m hm => by have := (mem_frees.1 hm).1; omega), show bs (ofL (intsN (frees s.data.toList k))) = T from HT.out] at C
      have HB := Lib.hid hB
      clear hB hrow hlen
      go_wp2_with fail
      refine C.mono ?_
      rintro e w1 ⟨rfl, hB1⟩
      have HB1 := Lib.hid (HB.out.trans (hB1.mono HB.out.size))
      clear hB1 C
      go_wp2
      go_ret
      exact ⟨rfl, HB1.out⟩

/-! ### The closures -/
theorem nums_lt {l : List UInt8} (hl : l.length ≤ 8192) {p x : Nat} (h : (nums l p).head? = some x) : x ≤ 65535 := by
  have hm : x ∈ nums l p := List.mem_of_mem_head? h
  have hb := (mem_nums.1 hm).2
  rcases Nat.lt_or_ge (x / 8) l.length with h | h
  · omega
  · rw [bit_ge h] at hb; cases hb
theorem nextS_le {l : List UInt8} (hl : l.length ≤ 8192) (p : Nat) : nextS l p ≤ 65535 := by
  unfold nextS
  cases h : (nums l p).head? with
  | some x => exact nums_lt hl h
  | none =>
    cases h0 : (nums l 0).head? with
    | some x => exact nums_lt hl h0
    | none => exact Nat.zero_le _
def stepP (sb bp : Nat) (l : List UInt8) (p : Nat) (w : World) (e : Ending) (w' : World) : Prop := e = .returned (.int .i64 (nextS l p : Nat)) ∧ ∃ w1, Below w.heap.size w w1 ∧ w' = w1.setCell ⟨bp, 0, none⟩ (.int .i64 ((nextS l p : Nat) + 1 : Int))
set_option maxRecDepth 100000 in
theorem step_any (sb bp : Nat) (l : List UInt8) (hl : l.length ≤ 8192) (p : Nat) (hp : p ≤ 70000) (w : World) (h1 : Boxed w sb 9 (.string (bs l))) (h2 : Boxed w bp 3 (.int .i64 p)) :
    Calls Try.prog 23 #[.pointer (some ⟨sb, 0, none⟩), .pointer (some ⟨bp, 0, none⟩)] w fun e w' => stepP sb bp l p w e w' := by
  have hle := nextS_le hl p
  have c1 := h1.cell
  have c2 := h2.cell
  have C1 := next_any (bs l) (p : Int) (by rw [bs_size]; omega) (by omega) (by omega) w
  have C2 := fun w => next_any (bs l) (0 : Int) (by rw [bs_size]; omega) (by omega) (by omega) w
  unfold stepP
  rw [bs_list] at C1 C2
  unfold nextV at C1 C2
  simp only [Int.toNat_natCast, Int.toNat_zero] at C1 C2
  unfold nextS at hle ⊢
  have H1 := Lib.hid h1
  have H2 := Lib.hid h2
  clear h1 h2
  cases ha : (nums l p).head? with
  | some x =>
    rw [ha] at C1 hle
    simp only [Option.getD_some] at hle ⊢
    clear C2 ha
    go_enter Try.func23, Try.ntmps23
    go_wp2_with fail
    refine C1.mono ?_
    rintro e w1 ⟨rfl, hB1⟩
    have HB1 := Lib.hid hB1
    have hb1 := H2.out.kept (grown_of_below hB1) (by simp)
    have d2 := hb1.cell
    have f2 := hb1.frozen
    clear hB1 C1 hb1
    go_wp2
    go_ret
    exact ⟨rfl, w1, HB1.out, rfl⟩
  | none =>
    rw [ha] at C1 hle
    simp only [Option.getD_none] at hle ⊢
    cases hb : (nums l 0).head? with
    | some x =>
      rw [hb] at C2 hle
      simp only [Option.getD_some] at hle ⊢
      clear ha hb
      go_enter Try.func23, Try.ntmps23
      go_wp2_with fail
      refine C1.mono ?_
      rintro e w1 ⟨rfl, hB1⟩
      have HB1 := Lib.hid hB1
      have hb1 := H2.out.kept (grown_of_below hB1) (by simp)
      have hs1 := H1.out.kept (grown_of_below hB1) (by simp)
      have d1 := hs1.cell
      have HP1 := Lib.hid hb1
      clear hB1 C1 hb1 hs1 c1 c2
      go_wp2_with fail
      refine (C2 _).mono ?_
      rintro e w2 ⟨rfl, hB2⟩
      have hb2 := HP1.out.kept (grown_of_below hB2) (by simp)
      have HB2 := Lib.hid (HB1.out.trans (hB2.mono HB1.out.size))
      have e2 := hb2.cell
      have f2 := hb2.frozen
      clear hB2 C2 hb2 d1
      go_wp2
      go_ret
      exact ⟨rfl, w2, HB2.out, rfl⟩
    | none =>
      rw [hb] at C2 hle
      simp only [Option.getD_none] at hle ⊢
      clear ha hb
      go_enter Try.func23, Try.ntmps23
      go_wp2_with fail
      refine C1.mono ?_
      rintro e w1 ⟨rfl, hB1⟩
      have HB1 := Lib.hid hB1
      have hb1 := H2.out.kept (grown_of_below hB1) (by simp)
      have hs1 := H1.out.kept (grown_of_below hB1) (by simp)
      have d1 := hs1.cell
      have HP1 := Lib.hid hb1
      clear hB1 C1 hb1 hs1 c1 c2
      go_wp2_with fail
      refine (C2 _).mono ?_
      rintro e w2 ⟨rfl, hB2⟩
      have hb2 := HP1.out.kept (grown_of_below hB2) (by simp)
      have HB2 := Lib.hid (HB1.out.trans (hB2.mono HB1.out.size))
      have e2 := hb2.cell
      have f2 := hb2.frozen
      clear hB2 C2 hb2 d1
      go_wp2
      go_ret
      exact ⟨rfl, w2, HB2.out, rfl⟩
theorem where_any (bp : Nat) (p : Nat) (w : World) (h2 : Boxed w bp 3 (.int .i64 p)) :
    Calls Try.prog 25 #[.pointer (some ⟨bp, 0, none⟩)] w fun e w' => e = .returned (.int .i64 p) ∧ w = w' := by
  have c2 := h2.cell
  go_enter Try.func25, Try.ntmps25
  go_wp2
  go_ret
  exact ⟨rfl, rfl⟩
end Go.Proofs.Ytknfakaklmpboaa

