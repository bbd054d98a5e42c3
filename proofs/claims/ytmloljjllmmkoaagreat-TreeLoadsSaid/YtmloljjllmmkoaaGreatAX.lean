/-
  AlcA / AlcB / AlcC / AlcR.
-/
import Derived.Test.YtmloljjllmmkoaaGreatSX
import Derived.Maps.AppendAt
import Derived.Deep.RegionHeld3
import Derived.Laws.EntriesVeiled
namespace Go.Proofs.YtmloljjllmmkoaaGreat
open Go.ChangeShapes Go.WideShapes Go.ChangeAt Go.RowKit Go.Shelf Go SM PL AL

theorem bitI_n (l : List UInt8) (k : Nat) : bitI l (k : Int) = bit l k := by simp [bitI]
theorem owns_keep {w w' : World} {base : Nat} {e : TypeId} {size : Nat} {v : Value} {n : Nat} {xs : List Value} (h : w.ownsRow base e size v n xs) (hk : ∀ k, v.ownBlock = some k → w'.heap[k]? = w.heap[k]?) : w'.ownsRow base e size v n xs := by
  refine ⟨h.1, ?_⟩
  rcases h.2 with h1 | ⟨g, cap, cur, rfl, h2, h3, h4⟩
  · exact .inl h1
  · exact .inr ⟨g, cap, cur, rfl, h2, (hk g rfl).trans h3, h4⟩
theorem owns_low {w : World} {base base' : Nat} {e : TypeId} {size : Nat} {v : Value} {n : Nat} {xs : List Value} (h : w.ownsRow base e size v n xs) (hb : base' ≤ base) : w.ownsRow base' e size v n xs := by
  refine ⟨h.1, ?_⟩
  rcases h.2 with h1 | ⟨g, cap, cur, h1, h2, h3⟩
  · exact .inl h1
  · exact .inr ⟨g, cap, cur, h1, Nat.le_trans hb h2, h3⟩
theorem owns_cells {w : World} {base : Nat} {e : TypeId} {size : Nat} {v : Value} {n : Nat} {xs : List Value} (h : w.ownsRow base e size v n xs) {k : Nat} (hk : v.ownBlock = some k) : ∃ cur, w.heap[k]? = some (.cells cur e (0, 0)) := by
  rcases h.2 with ⟨rfl, _⟩ | ⟨g, cap, cur, rfl, _, h3, _⟩
  · cases hk
  · obtain rfl : g = k := by simpa [Value.ownBlock] using hk
    exact ⟨cur, h3⟩
theorem intsN_is (l : List Nat) : toInts l = intsN l := rfl
theorem owns_ints {w : World} {base : Nat} {v : Value} {l : List Nat} (h : w.ownsRow base 3 1 v l.length (ints l)) : IntsAt w v (intsN l) := intsAt_of_owns h
/-- the set of a list of such numbers -/
theorem ofV_nats {l : List Nat} (h : ∀ m ∈ l, m ≤ 65535) : ofV (intsN l) = .tuple #[.string (bs (ofL (intsN l))), .int .i64 0] := by
  rw [ofV, if_pos (okI_nats h)]; rfl

/-! ### freeOf -/
set_option maxRecDepth 100000 in
set_option maxHeartbeats 2000000 in
theorem freeOf_any (s : ByteArray) (n : Nat) (hs : s.size ≤ 140737488355328) (h1 : 1 ≤ n) (h2 : n ≤ 4096) (w : World) :
    Calls Tryz.prog 69 #[.string s, .int .i64 n] w fun e w' => e = .returned (.string (bs (freeT s.data.toList n))) ∧ Below w.heap.size w w' := by
  obtain ⟨i0, hi, hz0, hz1, hz2⟩ := info_parts info3
  obtain ⟨T, hT⟩ : ∃ T, bs (freeT s.data.toList n) = T := ⟨_, rfl⟩
  rw [hT]
  have HT := Lib.hid hT
  clear hT
  go_enter Tryz.func69, Tryz.ntmps69
  go_wp2
  go_loopw [5, 6] (fun v i wr => ∃ k : Nat, 1 ≤ k ∧ k ≤ n ∧ i = .int .i64 k ∧ wr.ownsRow w.heap.size 3 1 v (frees s.data.toList k).length (ints (frees s.data.toList k)) ∧ Below w.heap.size w wr) (fun _ i _ => n - (intOf i).toNat)
  case atStart => exact ⟨1, Nat.le_refl _, h1, rfl, by rw [frees_one]; exact World.ownsRow_nil _ _ _ _, Below.refl _ _⟩
  case round =>
    obtain ⟨k, hk1, hk, rfl, hrow, hB⟩ := hrel
    have hlen := length_frees s.data.toList k
    by_cases hlt : k < n
    · have hszW : w.heap.size ≤ wr.heap.size := hB.size
      have hsucc := frees_succ s.data.toList k
      cases hbit : bit s.data.toList k with
      | false =>
        rw [if_pos ⟨hk1, hbit⟩] at hsucc
        have HS := Lib.hid hsucc
        have HB := Lib.hid (show bitI s.data.toList (k : Int) = false by rw [bitI_n, hbit])
        clear hsucc hbit
        go_wp2_with (first
          | (go_at_call 100; refine (has_any _ _ _ (by omega) (by omega) (by omega)).mono ?_; rintro e w' ⟨rfl, rfl⟩; rw [HB.out])
          | (at_builtin; refine wpList_append_own _ rfl _ _ 34 rfl w.heap.size 3 i0 (.int .i64 0) 1 8 Tryz.underlying34 hi hz0 hz1 hz2 rfl (by decide) _ _ _ rfl (hrow.alloc _) ⟨wr.heap.size, 0, none⟩ 1 1 [.int .i64 k] rfl rfl (cell_one_new _ _ _) (by simp [Value.oneCell']) (by unfold maxLen; omega) (by omega) (by simp; omega) ?_; intro v' w1 hown' hgrow _))
        have hB1 : Below w.heap.size w w1 := (hB.alloc hszW _).grown hgrow (by simp; omega) (fun j ej => (hrow.lt j ej).1)
        go_wp2
        go_roundw
        case rel => exact ⟨k + 1, by omega, by omega, by go_num, by rw [HS.out, List.length_append]; simpa [ints] using hown', hB1⟩
        case measure => simp [intOf]; omega
      | true =>
        rw [if_neg (by rw [hbit]; simp), List.append_nil] at hsucc
        have HS := Lib.hid hsucc
        have HB := Lib.hid (show bitI s.data.toList (k : Int) = true by rw [bitI_n, hbit])
        clear hsucc hbit
        go_wp2_with (go_at_call 100; refine (has_any _ _ _ (by omega) (by omega) (by omega)).mono ?_; rintro e w' ⟨rfl, rfl⟩; rw [HB.out])
        go_roundw
        case rel => exact ⟨k + 1, by omega, by omega, by go_num, by rw [HS.out]; exact hrow, hB⟩
        case measure => simp [intOf]; omega
    · obtain rfl : k = n := by omega
      have C := of_any _ (intsN (frees s.data.toList k)) (by rw [← intsN_is, length_toInts]; omega) wr (owns_ints hrow)
      rw [ofV_nats (fun m hm => by have := (mem_frees.1 hm).1; omega), show bs (ofL (intsN (frees s.data.toList k))) = T from HT.out] at C
      have HB := Lib.hid hB
      clear hB hrow hlen
      go_wp2_with fail
      refine C.mono ?_
      rintro e w1 ⟨rfl, hB1⟩
      have HB1 := Lib.hid (HB.out.trans (hB1.mono HB.out.size))
      clear hB1 C
      go_wp2
      go_ret
      exact ⟨rfl, HB1.out⟩

/-! ### The closures -/
theorem nums_lt {l : List UInt8} (hl : l.length ≤ 8192) {p x : Nat} (h : (nums l p).head? = some x) : x ≤ 65535 := by
  have hm : x ∈ nums l p := List.mem_of_mem_head? h
  have hb := (mem_nums.1 hm).2
  rcases Nat.lt_or_ge (x / 8) l.length with h | h
  · omega
  · rw [bit_ge h] at hb; cases hb
theorem nextS_le {l : List UInt8} (hl : l.length ≤ 8192) (p : Nat) : nextS l p ≤ 65535 := by
  unfold nextS
  cases h : (nums l p).head? with
  | some x => exact nums_lt hl h
  | none =>
    cases h0 : (nums l 0).head? with
    | some x => exact nums_lt hl h0
    | none => exact Nat.zero_le _
def stepP (_sb bp : Nat) (l : List UInt8) (p : Nat) (w : World) (e : Ending) (w' : World) : Prop := e = .returned (.int .i64 (nextS l p : Nat)) ∧ ∃ w1, Below w.heap.size w w1 ∧ w' = w1.setCell ⟨bp, 0, none⟩ (.int .i64 ((nextS l p : Nat) + 1 : Int))
set_option maxRecDepth 100000 in
theorem step_any (sb bp : Nat) (l : List UInt8) (hl : l.length ≤ 8192) (p : Nat) (hp : p ≤ 70000) (w : World) (h1 : Boxed w sb 9 (.string (bs l))) (h2 : Boxed w bp 3 (.int .i64 p)) :
    Calls Tryz.prog 103 #[.pointer (some ⟨sb, 0, none⟩), .pointer (some ⟨bp, 0, none⟩)] w fun e w' => stepP sb bp l p w e w' := by
  have hle := nextS_le hl p
  have c1 := h1.cell
  have c2 := h2.cell
  have C1 := next_any (bs l) (p : Int) (by rw [bs_size]; omega) (by omega) (by omega) w
  have C2 := fun w => next_any (bs l) (0 : Int) (by rw [bs_size]; omega) (by omega) (by omega) w
  unfold stepP
  rw [bs_list] at C1 C2
  unfold nextV at C1 C2
  simp only [Int.toNat_natCast, Int.toNat_zero] at C1 C2
  unfold nextS at hle ⊢
  have H1 := Lib.hid h1
  have H2 := Lib.hid h2
  clear h1 h2
  cases ha : (nums l p).head? with
  | some x =>
    rw [ha] at C1 hle
    simp only [Option.getD_some] at hle ⊢
    clear C2 ha
    go_enter Tryz.func103, Tryz.ntmps103
    go_wp2_with fail
    refine C1.mono ?_
    rintro e w1 ⟨rfl, hB1⟩
    have HB1 := Lib.hid hB1
    have hb1 := H2.out.kept (grown_of_below hB1) (by simp)
    have d2 := hb1.cell
    have f2 := hb1.frozen
    clear hB1 C1 hb1
    go_wp2
    go_ret
    exact ⟨rfl, w1, HB1.out, rfl⟩
  | none =>
    rw [ha] at C1 hle
    simp only [Option.getD_none] at hle ⊢
    cases hb : (nums l 0).head? with
    | some x =>
      rw [hb] at C2 hle
      simp only [Option.getD_some] at hle ⊢
      clear ha hb
      go_enter Tryz.func103, Tryz.ntmps103
      go_wp2_with fail
      refine C1.mono ?_
      rintro e w1 ⟨rfl, hB1⟩
      have HB1 := Lib.hid hB1
      have hb1 := H2.out.kept (grown_of_below hB1) (by simp)
      have hs1 := H1.out.kept (grown_of_below hB1) (by simp)
      have d1 := hs1.cell
      have HP1 := Lib.hid hb1
      clear hB1 C1 hb1 hs1 c1 c2
      go_wp2_with fail
      refine (C2 _).mono ?_
      rintro e w2 ⟨rfl, hB2⟩
      have hb2 := HP1.out.kept (grown_of_below hB2) (by simp)
      have HB2 := Lib.hid (HB1.out.trans (hB2.mono HB1.out.size))
      have e2 := hb2.cell
      have f2 := hb2.frozen
      clear hB2 C2 hb2 d1
      go_wp2
      go_ret
      exact ⟨rfl, w2, HB2.out, rfl⟩
    | none =>
      rw [hb] at C2 hle
      simp only [Option.getD_none] at hle ⊢
      clear ha hb
      go_enter Tryz.func103, Tryz.ntmps103
      go_wp2_with fail
      refine C1.mono ?_
      rintro e w1 ⟨rfl, hB1⟩
      have HB1 := Lib.hid hB1
      have hb1 := H2.out.kept (grown_of_below hB1) (by simp)
      have hs1 := H1.out.kept (grown_of_below hB1) (by simp)
      have d1 := hs1.cell
      have HP1 := Lib.hid hb1
      clear hB1 C1 hb1 hs1 c1 c2
      go_wp2_with fail
      refine (C2 _).mono ?_
      rintro e w2 ⟨rfl, hB2⟩
      have hb2 := HP1.out.kept (grown_of_below hB2) (by simp)
      have HB2 := Lib.hid (HB1.out.trans (hB2.mono HB1.out.size))
      have e2 := hb2.cell
      have f2 := hb2.frozen
      clear hB2 C2 hb2 d1
      go_wp2
      go_ret
      exact ⟨rfl, w2, HB2.out, rfl⟩
theorem where_any (bp : Nat) (p : Nat) (w : World) (h2 : Boxed w bp 3 (.int .i64 p)) :
    Calls Tryz.prog 105 #[.pointer (some ⟨bp, 0, none⟩)] w fun e w' => e = .returned (.int .i64 p) ∧ w = w' := by
  have c2 := h2.cell
  go_enter Tryz.func105, Tryz.ntmps105
  go_wp2
  go_ret
  exact ⟨rfl, rfl⟩
end Go.Proofs.YtmloljjllmmkoaaGreat

namespace Go.Proofs.YtmloljjllmmkoaaGreat
open Go.ChangeShapes Go.WideShapes Go.ChangeAt Go.RowKit Go.Shelf Go SM PL AL

def PoolO (sb bp l : Nat) (v : Value) : Obj := .cells #[.func (.func 103) #[] #[.pointer (some ⟨sb, 0, none⟩), .pointer (some ⟨bp, 0, none⟩)], .func (.func 105) #[] #[.pointer (some ⟨bp, 0, none⟩)], .int .i64 l, v] 140 (0, 0)
section
variable {p sb bp l : Nat} {v : Value} {w : World}
theorem PoolO.c0 (h : w.heap[p]? = some (PoolO sb bp l v)) : w.cell? ⟨p, 0, none⟩ = some (.func (.func 103) #[] #[.pointer (some ⟨sb, 0, none⟩), .pointer (some ⟨bp, 0, none⟩)]) := by simp [World.cell?, h, PoolO]
theorem PoolO.c1 (h : w.heap[p]? = some (PoolO sb bp l v)) : w.cell? ⟨p, 1, none⟩ = some (.func (.func 105) #[] #[.pointer (some ⟨bp, 0, none⟩)]) := by simp [World.cell?, h, PoolO]
theorem PoolO.c2 (h : w.heap[p]? = some (PoolO sb bp l v)) : w.cell? ⟨p, 2, none⟩ = some (.int .i64 l) := by simp [World.cell?, h, PoolO]
theorem PoolO.c3 (h : w.heap[p]? = some (PoolO sb bp l v)) : w.cell? ⟨p, 3, none⟩ = some v := by simp [World.cell?, h, PoolO]
theorem PoolO.fr (h : w.heap[p]? = some (PoolO sb bp l v)) (i : Nat) : w.frozen? ⟨p, i, none⟩ = false := by simp [World.frozen?, h, PoolO]
theorem PoolO.set2 (h : w.heap[p]? = some (PoolO sb bp l v)) (l' : Nat) : (w.setCell ⟨p, 2, none⟩ (.int .i64 l')).heap[p]? = some (PoolO sb bp l' v) := by rw [heap_set h]; rfl
theorem PoolO.set3 (h : w.heap[p]? = some (PoolO sb bp l v)) (v' : Value) : (w.setCell ⟨p, 3, none⟩ v').heap[p]? = some (PoolO sb bp l v') := by rw [heap_set h]; rfl
end
/-- a pool in memory: of the free ones of a set, k are taken -/
structure PoolIs (B p sb bp : Nat) (v : Value) (u : List UInt8) (n f k : Nat) (w : World) : Prop where
  obj : w.heap[p]? = some (PoolO sb bp ((ord u n f).length - k) v)
  set : Boxed w sb 9 (.string (bs (freeT u n)))
  place : Boxed w bp 3 (.int .i64 (placeAt (ord u n f) f k))
  row : w.ownsRow B 3 1 v ((ord u n f).take k).length (ints ((ord u n f).take k))
  apart : v.ownBlock ≠ some bp
  low : B ≤ p ∧ B ≤ sb ∧ B ≤ bp
  le : k ≤ (ord u n f).length
  lo : 8 ≤ n
  hi : n ≤ 4096
  f1 : 1 ≤ f
  f2 : f ≤ n
/-- its blocks -/
def PFoot (p sb bp : Nat) (v : Value) (j : Nat) : Prop := j = p ∨ j = sb ∨ j = bp ∨ v.ownBlock = some j
def PoolAt (B : Nat) (F : Nat → Prop) (p : Nat) (u : List UInt8) (n f k : Nat) (w : World) : Prop := ∃ sb bp v, PoolIs B p sb bp v u n f k w ∧ F = PFoot p sb bp v
section
variable {B p sb bp n f k : Nat} {v : Value} {u : List UInt8} {w w' : World} {F : Nat → Prop}
theorem PoolIs.lt (h : PoolIs B p sb bp v u n f k w) {j : Nat} (hj : PFoot p sb bp v j) : j < w.heap.size ∧ B ≤ j := by
  rcases hj with rfl | rfl | rfl | e
  · exact ⟨lt_of_heap h.obj, h.low.1⟩
  · exact ⟨h.set.lt, h.low.2.1⟩
  · exact ⟨h.place.lt, h.low.2.2⟩
  · exact ⟨(h.row.lt j e).2, (h.row.lt j e).1⟩
theorem PoolAt.lt (h : PoolAt B F p u n f k w) {j : Nat} (hj : F j) : j < w.heap.size ∧ B ≤ j := by
  obtain ⟨sb, bp, v, h1, rfl⟩ := h
  exact h1.lt hj
theorem PoolIs.stay {G : Nat → Prop} (h : PoolIs B p sb bp v u n f k w) (s : Stir G w w') (hn : ∀ j, PFoot p sb bp v j → ¬ G j) : PoolIs B p sb bp v u n f k w' :=
  ⟨s.keep h.obj (hn _ (.inl rfl)), s.keep h.set (hn _ (.inr (.inl rfl))), s.keep h.place (hn _ (.inr (.inr (.inl rfl)))), owns_keep h.row (fun j hj => s.block j (h.row.lt j hj).2 (hn j (.inr (.inr (.inr hj))))), h.apart, h.low, h.le, h.lo, h.hi, h.f1, h.f2⟩
theorem PoolAt.stay {G : Nat → Prop} (h : PoolAt B F p u n f k w) (s : Stir G w w') (hn : ∀ j, F j → ¬ G j) : PoolAt B F p u n f k w' := by
  obtain ⟨sb, bp, v, h1, rfl⟩ := h
  exact ⟨sb, bp, v, h1.stay s hn, rfl⟩
theorem PoolAt.later (h : PoolAt B F p u n f k w) (hB : Below w.heap.size w w') : PoolAt B F p u n f k w' := h.stay (Stir.of_below (F := fun _ => False) hB) (fun _ _ e => e)
theorem PoolIs.p_ne (h : PoolIs B p sb bp v u n f k w) : p ≠ bp ∧ v.ownBlock ≠ some p ∧ sb ≠ bp ∧ v.ownBlock ≠ some sb ∧ p ≠ sb := by
  refine ⟨ne_of_heap h.obj h.place (by simp [PoolO]), fun e => ?_, ne_of_heap h.set h.place (by simp), fun e => ?_, ne_of_heap h.obj h.set (by simp [PoolO])⟩
  · obtain ⟨cur, hc⟩ := owns_cells h.row e
    rw [h.obj] at hc; simp [PoolO] at hc
  · obtain ⟨cur, hc⟩ := owns_cells h.row e
    rw [h.set] at hc; simp at hc

theorem left_any (h : PoolAt B F p u n f k w) :
    Calls Tryz.prog 36 #[.pointer (some ⟨p, 0, none⟩)] w fun e w' => e = .returned (.int .i64 ((ord u n f).length - k : Nat)) ∧ w = w' := by
  obtain ⟨sb, bp, v, h1, rfl⟩ := h
  have c := PoolO.c2 h1.obj
  generalize (ord u n f).length - k = L at *
  go_enter Tryz.func36, Tryz.ntmps36
  go_wp2
  go_ret
  exact ⟨rfl, rfl⟩
theorem ord_small {m : Nat} (hn : n ≤ 4096) (h : m ∈ (ord u n f).take k) : m ≤ 65535 := by
  have := (mem_frees.1 (mem_ord.1 (List.mem_of_mem_take h))).1
  omega
theorem take_no (h : PoolAt B F p u n f k w) (hk : k = (ord u n f).length) :
    Calls Tryz.prog 127 #[.pointer (some ⟨p, 0, none⟩)] w fun e w' => e = .returned (.tuple #[.int .i64 0, .int .i64 101]) ∧ w = w' := by
  obtain ⟨sb, bp, v, h1, rfl⟩ := h
  have c := PoolO.c2 h1.obj
  rw [show (ord u n f).length - k = 0 by omega] at c
  clear h1 hk
  go_enter Tryz.func127, Tryz.ntmps127
  go_wp2
  go_ret2
  exact ⟨rfl, rfl⟩
set_option maxRecDepth 100000 in
set_option maxHeartbeats 2000000 in
theorem take_yes (h : PoolAt B F p u n f k w) (hk : k < (ord u n f).length) :
    Calls Tryz.prog 127 #[.pointer (some ⟨p, 0, none⟩)] w fun e w' => e = .returned (.tuple #[.int .i64 ((ord u n f)[k] : Nat), .int .i64 0]) ∧ ∃ F', PoolAt B F' p u n f (k + 1) w' ∧ Stir F w w' ∧ ∀ j, F' j → F j ∨ w.heap.size ≤ j := by
  obtain ⟨sb, bp, v, h1, rfl⟩ := h
  obtain ⟨a, cap, rfl⟩ : ∃ a cap, v = .slice a k cap := by
    have hlk : ((ord u n f).take k).length = k := by rw [List.length_take]; omega
    have hr := h1.row
    rw [hlk] at hr
    rcases hr.2 with ⟨rfl, h0⟩ | ⟨g, cap, cur, rfl, _⟩
    · exact ⟨none, 0, by rw [h0]⟩
    · exact ⟨_, _, rfl⟩
  obtain ⟨i0, hi, hz0, hz1, hz2⟩ := info_parts info3
  have hhi := h1.hi
  have hlen := length_freeT (u := u) (n := n) (by omega)
  have hpr := (placeAt_range (u := u) h1.f1 h1.f2 h1.le).2
  have C := step_any sb bp (freeT u n) hlen (placeAt (ord u n f) f k) (by omega) w h1.set h1.place
  unfold stepP at C
  obtain ⟨x, hx⟩ : ∃ x : Nat, (ord u n f)[k]'hk = x := ⟨_, rfl⟩
  have hnx := (next_ord (u := u) (by omega) hk).trans hx
  rw [hnx] at C
  have hin := ord_in hk
  rw [hx] at hin
  rw [hx]
  have hl1 := length_ord_lt u f (show 1 ≤ n by omega)
  obtain ⟨hp1, hp2, hp3, hp4, hp5⟩ := h1.p_ne
  have c0 := PoolO.c0 h1.obj
  have c2 := PoolO.c2 h1.obj
  have hlk : ((ord u n f).take k).length = k := by rw [List.length_take]; omega
  have hne0 : (((ord u n f).length - k : Nat) : Int) ≠ 0 := by omega
  have hdec : (((ord u n f).length - k : Nat) : Int) - 1 = (((ord u n f).length - (k + 1) : Nat) : Int) := by omega
  have HX := Lib.hid (show ints ((ord u n f).take (k + 1)) = ints ((ord u n f).take k) ++ [.int .i64 (x : Nat)] by
    rw [← hx]; rw [List.take_succ_eq_append_getElem hk]; unfold ints; rw [List.map_append]; rfl)
  have HPl := Lib.hid ((placeAt_succ (f := f) hk).trans (by rw [hx]))
  have HL1 := Lib.hid (show ((ord u n f).take (k + 1)).length = k + 1 by rw [List.length_take]; omega)
  have HLK := Lib.hid hlk
  have H1 := Lib.hid h1
  have hrow0 := h1.row
  rw [hlk] at hrow0
  have HR0 := Lib.hid hrow0
  have HLt := Lib.hid hk
  obtain ⟨L, hL⟩ : ∃ L, (ord u n f).length - k = L := ⟨_, rfl⟩
  obtain ⟨L', hL'⟩ : ∃ L', (ord u n f).length - (k + 1) = L' := ⟨_, rfl⟩
  have HL := Lib.hid hL
  have HL' := Lib.hid hL'
  rw [hL] at c2 hne0 hdec
  rw [hL'] at hdec
  have hk5 : k ≤ 4096 := by omega
  have hxl : (x : Int) ≤ 4096 := by omega
  have hLl : (L : Int) ≤ 5000 := by omega
  have hneb : ((L : Int) == 0) = false := by simpa using hne0
  clear hnx hx hL hL' hlk hrow0 h1 hpr hlen hl1 hin hk
  go_enter Tryz.func127, Tryz.ntmps127
  go_wp2_with fail
  refine C.mono ?_
  rintro e w2 ⟨rfl, w1, hB1, rfl⟩
  have hob1 := keeps_of hB1 H1.out.obj
  have hpl1 := H1.out.place.kept (grown_of_below hB1) (by simp)
  have hset1 := H1.out.set.kept (grown_of_below hB1) (by simp)
  have hrow1 : w1.ownsRow B 3 1 (.slice a k cap) k (ints ((ord u n f).take k)) := owns_keep HR0.out (fun j hj => hB1.block j (HR0.out.lt j hj).2)
  have hs1 := hB1.size
  obtain ⟨w2, hw2⟩ : ∃ w2, w1.setCell ⟨bp, 0, none⟩ (.int .i64 ((x : Int) + 1)) = w2 := ⟨_, rfl⟩
  have HST2 := Lib.hid (show Stir (PFoot p sb bp (.slice a k cap)) w w2 by rw [← hw2]; exact (Stir.of_below hB1).set (.inr (.inr (.inl rfl)) |> .inl) _)
  have hob2 : w2.heap[p]? = some (PoolO sb bp L (.slice a k cap)) := by rw [← hw2, ← HL.out]; exact heap_set_other hob1 hp1 _
  have hpl2 : Boxed w2 bp 3 (.int .i64 ((x : Int) + 1)) := by rw [← hw2]; exact hpl1.set _
  have hset2 : Boxed w2 sb 9 (.string (bs (freeT u n))) := by rw [← hw2]; exact hset1.other hp3 _
  have hrow2 : w2.ownsRow B 3 1 (.slice a k cap) k (ints ((ord u n f).take k)) := by
    rw [← hw2]
    exact owns_keep hrow1 (fun j hj => Below.heap_setCell _ _ _ _ (by rintro rfl; exact H1.out.apart hj))
  rw [hw2]
  clear hob1 hpl1 hset1 hrow1 hw2 C c0
  have d2 := PoolO.c2 hob2
  have g2 := PoolO.fr hob2 2
  have hob3 := PoolO.set2 hob2 L'
  have d3 := PoolO.c3 hob3
  have hszB : B ≤ w2.heap.size := Nat.le_trans H1.out.low.1 (Nat.le_of_lt (lt_of_heap hob2))
  have hrow3 : (w2.setCell ⟨p, 2, none⟩ (.int .i64 (L' : Int))).ownsRow B 3 1 (.slice a k cap) k (ints ((ord u n f).take k)) :=
    owns_keep hrow2 (fun j hj => Below.heap_setCell _ _ _ _ (by rintro rfl; exact hp2 hj))
  have hpl3 : Boxed (w2.setCell ⟨p, 2, none⟩ (.int .i64 (L' : Int))) bp 3 (.int .i64 ((x : Int) + 1)) := heap_set_other hpl2 (fun e => hp1 e.symm) _
  have hset3 : Boxed (w2.setCell ⟨p, 2, none⟩ (.int .i64 (L' : Int))) sb 9 (.string (bs (freeT u n))) := heap_set_other hset2 (fun e => hp5 e.symm) _
  have HST3 := Lib.hid (HST2.out.set (b := p) (i := 2) (.inl (.inl rfl)) (.int .i64 (L' : Int)))
  obtain ⟨w3, hw3⟩ : ∃ w3, w2.setCell ⟨p, 2, none⟩ (.int .i64 (L' : Int)) = w3 := ⟨_, rfl⟩
  rw [hw3] at hob3 d3 hrow3 hpl3 hset3 HST3
  have hszB3 : B ≤ w3.heap.size := by rw [← hw3]; simpa [World.setCell] using hszB
  have HR3 := Lib.hid hrow3
  have HO3 := Lib.hid hob3
  have HPl3 := Lib.hid hpl3
  have HSt3 := Lib.hid hset3
  clear hob2 hpl2 hset2 hrow2 hob3 hrow3 hpl3 hset3
  go_wp2_with (at_builtin; refine wpList_append_own_at _ rfl _ _ 34 rfl B 3 i0 (.int .i64 0) 1 8 Tryz.underlying34 hi hz0 hz1 hz2 rfl (by decide) (.slice a k cap) k _ rfl (HR3.out.alloc _) ⟨w3.heap.size, 0, none⟩ 1 1 [.int .i64 x] rfl rfl (cell_one_new _ _ _) (by simp [Value.oneCell']) (by unfold maxLen; omega) (by omega) (by rw [World.size_alloc]; omega) ?_; intro v' w4 hown' hgrow _ hat; obtain ⟨g', cap', rfl⟩ := ownsRow_succ hown'; have hob4 : w4.heap[p]? = some (PoolO sb bp L' (.slice a k cap)) := (hgrow.block p (lt_of_heap (heap_alloc_old HO3.out _)) (fun e => hp2 e.symm)).trans (heap_alloc_old HO3.out _); have e3 := PoolO.c3 hob4; have g3 := PoolO.fr hob4 3)
  have hlowg := (hown'.lt g' rfl).1
  have hpl4 := HPl3.out.alloc (.cells #[.int .i64 x] 3) |>.kept hgrow (fun e => H1.out.apart e.symm)
  have hset4 := HSt3.out.alloc (.cells #[.int .i64 x] 3) |>.kept hgrow (fun e => hp4 e.symm)
  have hgb : g' ≠ bp := fun e => by
    subst e
    rcases hat with h | h
    · exact H1.out.apart h.symm
    · have h5 : g' = (w3.alloc (.cells #[.int .i64 x] 3)).heap.size := by simpa [Value.ownBlock] using h
      have := (HPl3.out.alloc (.cells #[.int .i64 x] 3)).lt
      omega
  have hgp : g' ≠ p := fun e => by
    subst e
    obtain ⟨cur, hc⟩ := owns_cells hown' (k := g') rfl
    rw [hob4] at hc; simp [PoolO] at hc
  have hST4 : Stir (PFoot p sb bp (.slice a k cap)) w w4 := by
    have h5 : Stir (fun j => (Value.slice a k cap).ownBlock = some j) w3 w4 := by
      refine ⟨hgrow.os, hgrow.tape, hgrow.output, Nat.le_trans (by simp) hgrow.size, fun j hj hn => ?_⟩
      rw [hgrow.block j (by rw [World.size_alloc]; omega) (fun e => hn e.symm)]
      exact Below.heap_alloc w3 _ j hj
    exact HST3.out.trans h5 (fun j e => .inl (.inr (.inr (.inr e))))
  have HOut := Lib.hid (show PoolIs B p sb bp (.slice (some ⟨g', 0, none⟩) (k + 1) cap') u n f (k + 1) (w4.setCell ⟨p, 3, none⟩ (.slice (some ⟨g', 0, none⟩) (k + 1) cap')) from
    ⟨by rw [HL'.out]; exact PoolO.set3 hob4 _, heap_set_other hset4 (fun e => hp5 e.symm) _, by rw [HPl.out]; exact heap_set_other hpl4 (fun e => hp1 e.symm) _,
      by rw [HL1.out, HX.out]; exact owns_keep hown' (fun j hj => Below.heap_setCell _ _ _ _ (by rintro rfl; exact hgp (by simpa [Value.ownBlock] using hj))),
      by simpa [Value.ownBlock] using hgb, H1.out.low, HLt.out, H1.out.lo, H1.out.hi, H1.out.f1, H1.out.f2⟩)
  have HS5 := Lib.hid (hST4.set (b := p) (i := 3) (.inl (.inl rfl)) (.slice (some ⟨g', 0, none⟩) (k + 1) cap'))
  have HFo := Lib.hid (show ∀ j, PFoot p sb bp (.slice (some ⟨g', 0, none⟩) (k + 1) cap') j → PFoot p sb bp (.slice a k cap) j ∨ w.heap.size ≤ j from fun j hj => by
    rcases hj with e | e | e | e
    · exact .inl (.inl e)
    · exact .inl (.inr (.inl e))
    · exact .inl (.inr (.inr (.inl e)))
    · rcases hat with h | h
      · exact .inl (.inr (.inr (.inr (h.symm.trans e))))
      · right
        have h5 : j = (w3.alloc (.cells #[.int .i64 x] 3)).heap.size := by
          have := e.symm.trans h
          simpa using this
        have := HST3.out.size
        rw [World.size_alloc] at h5
        omega)
  clear hpl4 hset4 hown' hgrow hat hob4 hST4 hgb hgp hlowg
  go_wp2
  go_ret2
  exact ⟨rfl, _, ⟨sb, bp, _, HOut.out, rfl⟩, HS5.out, HFo.out⟩
end
end Go.Proofs.YtmloljjllmmkoaaGreat

namespace Go.Proofs.YtmloljjllmmkoaaGreat
open Go.ChangeShapes Go.WideShapes Go.ChangeAt Go.RowKit Go.Shelf Go SM PL AL

/-- what may not be asked -/
def badA (b f : Int) : Bool := decide (b < 8) || decide (4096 < b) || decide (f < 1) || decide (b < f)
theorem badA_no {b f : Int} (h : badA b f = false) : ∃ n g : Nat, b = (n : Int) ∧ f = (g : Int) ∧ 8 ≤ n ∧ n ≤ 4096 ∧ 1 ≤ g ∧ g ≤ n := by
  simp only [badA, Bool.or_eq_false_iff, decide_eq_false_iff_not] at h
  exact ⟨b.toNat, f.toNat, by omega, by omega, by omega, by omega, by omega, by omega⟩
theorem badA_nat {n g : Nat} (h1 : 8 ≤ n) (h2 : n ≤ 4096) (h3 : 1 ≤ g) (h4 : g ≤ n) : badA (n : Int) (g : Int) = false := by
  simp only [badA, Bool.or_eq_false_iff, decide_eq_false_iff_not]; omega
theorem badA_yes {b f : Int} (h : badA b f = true) : b < 8 ∨ (¬ b < 8 ∧ 4096 < b) ∨ (¬ b < 8 ∧ ¬ 4096 < b ∧ f < 1) ∨ (¬ b < 8 ∧ ¬ 4096 < b ∧ ¬ f < 1 ∧ b < f) := by
  simp only [badA, Bool.or_eq_true, decide_eq_true_eq] at h
  omega
theorem round_any (S : ByteArray) (p : Int) (w : World) :
    Calls Tryz.prog 71 #[.string S, .int .i64 p] w fun e w' => e = .returned (.tuple #[.func (.func 103) #[] #[.pointer (some ⟨w.heap.size, 0, none⟩), .pointer (some ⟨w.heap.size + 1, 0, none⟩)], .func (.func 105) #[] #[.pointer (some ⟨w.heap.size + 1, 0, none⟩)]]) ∧ w' = (w.alloc (.cells #[.string S] 9)).alloc (.cells #[.int .i64 p] 3) := by
  go_enter Tryz.func71, Tryz.ntmps71
  go_wp2
  go_ret2
  exact ⟨rfl, rfl⟩
theorem anew_no (s : ByteArray) (b f : Int) (h : badA b f = true) (w : World) :
    Calls Tryz.prog 34 #[.string s, .int .i64 b, .int .i64 f] w fun e w' => e = .returned (.tuple #[.pointer none, .int .i64 100]) ∧ w = w' := by
  rcases badA_yes h with h1 | ⟨h1, h2⟩ | ⟨h1, h2, h3⟩ | ⟨h1, h2, h3, h4⟩ <;> clear h
  all_goals (
    go_enter Tryz.func34, Tryz.ntmps34
    go_wp2
    go_ret2
    exact ⟨rfl, rfl⟩)
set_option maxRecDepth 100000 in
set_option maxHeartbeats 2000000 in
theorem anew_yes (s : ByteArray) (n f : Nat) (hs : s.size ≤ 140737488355328) (h1 : 8 ≤ n) (h2 : n ≤ 4096) (h3 : 1 ≤ f) (h4 : f ≤ n) (w : World) :
    Calls Tryz.prog 34 #[.string s, .int .i64 n, .int .i64 f] w fun e w' => ∃ p, e = .returned (.tuple #[.pointer (some ⟨p, 0, none⟩), .int .i64 0]) ∧ (∃ F, PoolAt w.heap.size F p s.data.toList n f 0 w') ∧ Below w.heap.size w w' := by
  have a1 : ¬ (n : Int) < 8 := by omega
  have a2 : ¬ (4096 : Int) < (n : Int) := by omega
  have a3 : ¬ (f : Int) < 1 := by omega
  have a4 : ¬ (n : Int) < (f : Int) := by omega
  have C1 := freeOf_any s n hs (by omega) h2 w
  have hl := length_freeT (u := s.data.toList) (n := n) (by omega)
  have C2 := fun w => count_any (bs (freeT s.data.toList n)) w (by rw [bs_size]; omega)
  rw [bs_list, cnt_freeT (by omega), ← length_ord _ _ f] at C2
  have HH := Lib.hid (And.intro (And.intro h1 h2) (And.intro h3 h4))
  have HL := Lib.hid (show (ord s.data.toList n f).length ≤ 4096 by have := length_frees s.data.toList n; rw [length_ord]; omega)
  obtain ⟨L, hL⟩ : ∃ L, (ord s.data.toList n f).length = L := ⟨_, rfl⟩
  rw [hL] at C2
  have HLL := Lib.hid hL
  obtain ⟨T, hT⟩ : ∃ T, bs (freeT s.data.toList n) = T := ⟨_, rfl⟩
  rw [hT] at C1 C2
  have HT := Lib.hid hT
  clear h1 h2 h3 h4 hl hL hT
  go_enter Tryz.func34, Tryz.ntmps34
  go_wp2_with fail
  refine C1.mono ?_
  rintro e w1 ⟨rfl, hB1⟩
  have HB1 := Lib.hid hB1
  have hs1 := hB1.size
  clear hB1 C1
  go_wp2_with fail
  refine (C2 _).mono ?_
  rintro e w2 ⟨rfl, rfl⟩
  have CR := fun w => round_any T (f : Int) w
  obtain ⟨w3, hw3⟩ : ∃ w3, ((w1.alloc (.cells #[.nilFunc, .nilFunc, .int .i64 (L : Int), .slice none 0 0] 140)).alloc (.cells #[.string T] 9)).alloc (.cells #[.int .i64 (f : Int)] 3) = w3 := ⟨_, rfl⟩
  have hp3 : w3.heap[w1.heap.size]? = some (.cells #[.nilFunc, .nilFunc, .int .i64 (L : Int), .slice none 0 0] 140 (0, 0)) := by
    rw [← hw3]; exact heap_alloc_old (heap_alloc_old (heap_alloc_new w1 _) _) _
  have hs3 : Boxed w3 (w1.heap.size + 1) 9 (.string T) := by
    rw [← hw3]
    have := Boxed.new (w1.alloc (.cells #[.nilFunc, .nilFunc, .int .i64 (L : Int), .slice none 0 0] 140)) 9 (.string T)
    rw [World.size_alloc] at this
    exact this.alloc _
  have hi3 : Boxed w3 (w1.heap.size + 1 + 1) 3 (.int .i64 (f : Int)) := by
    rw [← hw3]
    have := Boxed.new ((w1.alloc (.cells #[.nilFunc, .nilFunc, .int .i64 (L : Int), .slice none 0 0] 140)).alloc (.cells #[.string T] 9)) 3 (.int .i64 (f : Int))
    rw [World.size_alloc, World.size_alloc] at this
    exact this
  have HB3 := Lib.hid (show Below w.heap.size w w3 by rw [← hw3]; exact ((HB1.out.alloc (by omega) _).alloc (by simp; omega) _).alloc (by simp; omega) _)
  have c0 : w3.cell? ⟨w1.heap.size, 0, none⟩ = some .nilFunc := by simp [World.cell?, hp3]
  have g0 : w3.frozen? ⟨w1.heap.size, 0, none⟩ = false := by simp [World.frozen?, hp3]
  have hp4 := heap_set hp3 (i := 0) (.func (.func 103) #[] #[.pointer (some ⟨w1.heap.size + 1, 0, none⟩), .pointer (some ⟨w1.heap.size + 1 + 1, 0, none⟩)])
  have c1 : (w3.setCell ⟨w1.heap.size, 0, none⟩ (.func (.func 103) #[] #[.pointer (some ⟨w1.heap.size + 1, 0, none⟩), .pointer (some ⟨w1.heap.size + 1 + 1, 0, none⟩)])).cell? ⟨w1.heap.size, 1, none⟩ = some .nilFunc := by simp [World.cell?, hp4]
  have g1 : (w3.setCell ⟨w1.heap.size, 0, none⟩ (.func (.func 103) #[] #[.pointer (some ⟨w1.heap.size + 1, 0, none⟩), .pointer (some ⟨w1.heap.size + 1 + 1, 0, none⟩)])).frozen? ⟨w1.heap.size, 1, none⟩ = false := by simp [World.frozen?, hp4]
  have HOut := Lib.hid (show PoolIs w.heap.size w1.heap.size (w1.heap.size + 1) (w1.heap.size + 1 + 1) (.slice none 0 0) s.data.toList n f 0 ((w3.setCell ⟨w1.heap.size, 0, none⟩ (.func (.func 103) #[] #[.pointer (some ⟨w1.heap.size + 1, 0, none⟩), .pointer (some ⟨w1.heap.size + 1 + 1, 0, none⟩)])).setCell ⟨w1.heap.size, 1, none⟩ (.func (.func 105) #[] #[.pointer (some ⟨w1.heap.size + 1 + 1, 0, none⟩)])) from
    ⟨by rw [heap_set hp4, Nat.sub_zero, HLL.out]; rfl, by rw [HT.out]; exact heap_set_other (heap_set_other hs3 (by omega) _) (by omega) _, heap_set_other (heap_set_other hi3 (by omega) _) (by omega) _,
      World.ownsRow_nil _ _ _ _, by simp [Value.ownBlock], ⟨by omega, by omega, by omega⟩, Nat.zero_le _, HH.out.1.1, HH.out.1.2, HH.out.2.1, HH.out.2.2⟩)
  have HB5 := Lib.hid ((HB3.out.setCell (p := ⟨w1.heap.size, 0, none⟩) (by simpa using hs1) (.func (.func 103) #[] #[.pointer (some ⟨w1.heap.size + 1, 0, none⟩), .pointer (some ⟨w1.heap.size + 1 + 1, 0, none⟩)])).setCell (p := ⟨w1.heap.size, 1, none⟩) (by simpa using hs1) (.func (.func 105) #[] #[.pointer (some ⟨w1.heap.size + 1 + 1, 0, none⟩)]))
  clear C2 hp3 hs3 hi3 hp4
  go_wp2_with fail
  refine (CR _).mono ?_
  rintro e w4 ⟨rfl, rfl⟩
  simp only [World.size_alloc]
  rw [hw3]
  go_wp2
  go_ret2
  exact ⟨_, rfl, ⟨_, _, _, _, HOut.out, rfl⟩, HB5.out⟩

/-! ### Pick -/
theorem pool_row {B p n f k : Nat} {F : Nat → Prop} {u : List UInt8} {w : World} (h : PoolAt B F p u n f k w) : ∃ v, w.cell? ⟨p, 3, none⟩ = some v ∧ w.ownsRow B 3 1 v k (ints ((ord u n f).take k)) ∧ ∃ a cap, v = .slice a k cap := by
  obtain ⟨sb, bp, v, h1, rfl⟩ := h
  have hlk : ((ord u n f).take k).length = k := by rw [List.length_take]; have := h1.le; omega
  have hr := h1.row
  rw [hlk] at hr
  refine ⟨v, PoolO.c3 h1.obj, hr, ?_⟩
  rcases hr.2 with ⟨rfl, h0⟩ | ⟨g, cap, cur, rfl, _⟩
  · exact ⟨none, 0, by rw [h0]⟩
  · exact ⟨_, _, rfl⟩
/-- so many were picked -/
def PickP (u : List UInt8) (n f m : Nat) (w : World) (e : Ending) (w' : World) : Prop := ∃ a cap, e = .returned (.tuple #[.slice a m cap, .int .i64 (placeAt (ord u n f) f m), .int .i64 0]) ∧ w'.ownsRow w.heap.size 3 1 (.slice a m cap) m (ints ((ord u n f).take m)) ∧ Below w.heap.size w w'
end Go.Proofs.YtmloljjllmmkoaaGreat

namespace Go.Proofs.YtmloljjllmmkoaaGreat
open Go.ChangeShapes Go.WideShapes Go.ChangeAt Go.RowKit Go.Shelf Go SM PL AL

/-! ### Pick -/
theorem badP_yes {b f m : Int} (h : badA b f = true ∨ m < 0) : b < 8 ∨ (¬ b < 8 ∧ 4096 < b) ∨ (¬ b < 8 ∧ ¬ 4096 < b ∧ f < 1) ∨ (¬ b < 8 ∧ ¬ 4096 < b ∧ ¬ f < 1 ∧ b < f) ∨ (¬ b < 8 ∧ ¬ 4096 < b ∧ ¬ f < 1 ∧ ¬ b < f ∧ m < 0) := by
  rcases h with h | h
  · have := badA_yes h; omega
  · omega
/-- so many were picked by the reference -/
def RPickP (u : List UInt8) (n f m : Nat) (w : World) (e : Ending) (w' : World) : Prop := ∃ a cap, e = .returned (.tuple #[.slice a m cap, .int .i64 (placeAt (ord u n f) f m), .int .i64 0]) ∧ IntsAt w' (.slice a m cap) (intsN ((ord u n f).take m)) ∧ Below w.heap.size w w'
theorem length_intsN (l : List Nat) : (intsN l).length = l.length := length_toInts l
set_option maxRecDepth 100000 in
set_option maxHeartbeats 2000000 in
theorem same_any (v u : Value) (xs ys : List Int) (hx : xs.length ≤ 281474976710656) (hy : ys.length ≤ 281474976710656) (w : World) (h1 : IntsAt w v xs) (h2 : IntsAt w u ys) :
    Calls Tryz.prog 12 #[v, u] w fun e w' => e = .returned (.bool (decide (xs = ys))) ∧ Below w.heap.size w w' := by
  obtain ⟨a, ca, rfl, ha⟩ := h1.split
  obtain ⟨c, cc, rfl, hc⟩ := h2.split
  by_cases hl : xs.length = ys.length
  · by_cases h0 : xs = []
    · subst h0
      obtain rfl : ys = [] := List.eq_nil_of_length_eq_zero (by simpa using hl.symm)
      clear ha hc hl h1 h2
      go_enter Tryz.func12, Tryz.ntmps12
      go_wp2
      refine wp_loop_rounds 1 ?_
      rw [rounds_succ]
      go_wp2
      go_ret
      exact ⟨rfl, Below.refl _ _⟩
    · obtain ⟨b, off, rfl, hb, hbc⟩ := ha h0
      obtain ⟨b2, off2, rfl, hb2, hbc2⟩ := hc (fun e => h0 (List.eq_nil_of_length_eq_zero (by rw [hl, e]; rfl)))
      have HC := Lib.hid hbc
      have HC2 := Lib.hid hbc2
      have HL := Lib.hid hl
      rw [← hl]
      have hne : ((xs.length : Int) != (xs.length : Int)) = false := by simp
      clear hbc hbc2 hl h1 h2 ha hc h0
      go_enter Tryz.func12, Tryz.ntmps12
      go_wp2
      go_loopw [5] (fun i wr => ∃ k : Nat, k ≤ xs.length ∧ i = .int .i64 k ∧ Below w.heap.size w wr ∧ xs.take k = ys.take k) (fun i _ => xs.length - (intOf i).toNat)
      case atStart => exact ⟨0, Nat.zero_le _, rfl, Below.refl _ _, rfl⟩
      case round =>
        obtain ⟨k, hk, rfl, hB, htk⟩ := hrel
        have HT := Lib.hid htk
        clear htk
        by_cases hlt : k < xs.length
        · have hlt2 : k < ys.length := by rw [← HL.out]; exact hlt
          have hc1 : wr.cell? ⟨b, off + k, none⟩ = some (.int .i64 xs[k]) := (hB.cell (p := ⟨b, off + k, none⟩) hb).trans (HC.out k hlt)
          have hc2 : wr.cell? ⟨b2, off2 + k, none⟩ = some (.int .i64 ys[k]) := (hB.cell (p := ⟨b2, off2 + k, none⟩) hb2).trans (HC2.out k hlt2)
          have hki : (k : Int) < (xs.length : Int) := by omega
          by_cases he : xs[k] = ys[k]
          · have HN := Lib.hid (show xs.take (k + 1) = ys.take (k + 1) by rw [List.take_succ_eq_append_getElem hlt, List.take_succ_eq_append_getElem hlt2, HT.out, he])
            rw [← he] at hc2
            have hbe : (xs[k] != xs[k]) = false := by simp
            generalize xs[k] = x at *
            clear hlt2 he
            go_wp2
            go_quiet (fail)
            go_wp2
            go_roundw
            case rel => exact ⟨k + 1, by omega, by go_num, below_drewN hB _, HN.out⟩
            case measure => simp [intOf]; omega
          · have hbe : (xs[k] != ys[k]) = true := by simpa using he
            have HN := Lib.hid (show decide (xs = ys) = false by
              simp only [decide_eq_false_iff_not]; intro e; subst e; exact he rfl)
            generalize xs[k] = x at *
            generalize ys[k] = y at *
            clear hlt2 he
            go_wp2
            go_quiet (fail)
            go_wp2
            go_ret
            exact ⟨ret_bool (by rw [HN.out]), below_drewN hB _⟩
        · have HN := Lib.hid (show xs = ys by
            have h := HT.out
            rwa [List.take_of_length_le (by omega), List.take_of_length_le (by rw [← HL.out]; omega)] at h)
          go_wp2
          go_ret
          exact ⟨ret_bool (by rw [HN.out]; simp), hB⟩
  · have hne : ((xs.length : Int) != (ys.length : Int)) = true := by simp; omega
    have hxy : decide (xs = ys) = false := by simp; intro e; exact hl (by rw [e])
    rw [hxy]
    clear ha hc hl h1 h2 hxy
    go_enter Tryz.func12, Tryz.ntmps12
    go_wp2
    go_ret
    exact ⟨rfl, Below.refl _ _⟩

end Go.Proofs.YtmloljjllmmkoaaGreat

