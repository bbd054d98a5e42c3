/-
  The reference's Same; a cache that is alone; the calls whose answers the document fixes.
-/
import Derived.Test.YtipnbggbejkhkaaCacSE
import Derived.Test.YtipnbggbejkhkaaCacIE
import Derived.RegionTactic
import Derived.BigRegion
import Derived.Laws.OwnMore
namespace Go.Proofs.Ytipnbggbejkhkaa
open Go.RowKit Go

/-- a slice of numbers, at a world -/
def IntsAt (W : World) (v : Value) (zs : List Int) : Prop :=
  ∃ a cap, v = .slice a zs.length cap ∧ (zs ≠ [] → ∃ b off, a = some ⟨b, off, none⟩ ∧ b < W.heap.size ∧ ∀ j (h : j < zs.length), W.cell? ⟨b, off + j, none⟩ = some (.int .i64 zs[j]))
theorem IntsAt.later {W W' : World} {v : Value} {zs : List Int} (h : IntsAt W v zs) (hB : Below W.heap.size W W') : IntsAt W' v zs := by
  obtain ⟨a, cap, h1, h2⟩ := h
  refine ⟨a, cap, h1, fun hne => ?_⟩
  obtain ⟨b, off, e, hb, hc⟩ := h2 hne
  exact ⟨b, off, e, Nat.lt_of_lt_of_le hb hB.size, fun j hj => (World.cell?_of_block (w := W) (hB.block b hb)).trans (hc j hj)⟩
theorem IntsAt.of_row {W : World} {base : Nat} {v : Value} {zs : List Int} (h : W.ownsRow base 3 1 v zs.length (CI.keyVals zs)) : IntsAt W v zs := by
  rcases h.2 with ⟨e, h0⟩ | ⟨g, cap, cur, h1, h2, h3, h4, h5, h6, h7⟩
  · obtain rfl : zs = [] := List.eq_nil_of_length_eq_zero h0
    exact ⟨none, 0, e, fun e => absurd rfl e⟩
  · refine ⟨_, cap, h1, fun _ => ⟨g, 0, rfl, lt_of_heap h3, fun j hj => ?_⟩⟩
    subst h1
    rw [Nat.zero_add, h.cellAt j (by omega)]
    simp [CI.keyVals, hj]

set_option maxRecDepth 100000 in
set_option maxHeartbeats 2000000 in
/-- the same list twice -/
theorem same_self (v u : Value) (xs : List Int) (hx : xs.length ≤ 281474976710656) (w : World) (h1 : IntsAt w v xs) (h2 : IntsAt w u xs) :
    Calls Try.prog 18 #[v, u] w fun e w' => e = .returned (.bool true) ∧ Below w.heap.size w w' := by
  obtain ⟨a, ca, rfl, ha⟩ := h1
  obtain ⟨c, cc, rfl, hc⟩ := h2
  have HA := Lib.hid ha
  have HC := Lib.hid hc
  have hne : ((xs.length : Int) != (xs.length : Int)) = false := by simp
  clear ha hc
  go_enter Try.func18, Try.ntmps18
  go_wp2
  go_loopw [5] (fun i wr => ∃ k : Nat, k ≤ xs.length ∧ i = .int .i64 k ∧ Below w.heap.size w wr) (fun i _ => xs.length - (intOf i).toNat)
  case atStart => exact ⟨0, Nat.zero_le _, rfl, Below.refl _ _⟩
  case round =>
    obtain ⟨k, hk, rfl, hB⟩ := hrel
    by_cases hlt : k < xs.length
    · obtain ⟨b, off, rfl, hb, hbc⟩ := HA.out (by intro e; rw [e] at hlt; exact absurd hlt (by simp))
      obtain ⟨b2, off2, rfl, hb2, hbc2⟩ := HC.out (by intro e; rw [e] at hlt; exact absurd hlt (by simp))
      have hc1 : wr.cell? ⟨b, off + k, none⟩ = some (.int .i64 xs[k]) := (hB.cell (p := ⟨b, off + k, none⟩) hb).trans (hbc k hlt)
      have hc2 : wr.cell? ⟨b2, off2 + k, none⟩ = some (.int .i64 xs[k]) := (hB.cell (p := ⟨b2, off2 + k, none⟩) hb2).trans (hbc2 k hlt)
      have hki : (k : Int) < (xs.length : Int) := by omega
      have HB := Lib.hid hB
      generalize xs[k] = x at *
      clear hbc hbc2 hB
      go_wp2_with fail
      go_region
      all_goals (
        go_wp2_with fail
        go_roundw
        case rel => exact ⟨k + 1, by omega, by go_num, HB.out.drew⟩
        case measure => simp [intOf]; omega)
    · go_wp2
      go_ret
      exact ⟨rfl, hB⟩

/-- a cache that the call has made, and nothing else is asked of the world -/
def CNow (w0 : World) (c room : Nat) (L : List (Int × ByteArray)) (w : World) : Prop := (∃ F, CI.Cach w0.heap.size F c room L w) ∧ Below w0.heap.size w0 w
section
variable {w0 w : World} {c room : Nat} {L : List (Int × ByteArray)}
theorem CNow.left {F : Nat → Prop} {w' : World} {L' : List (Int × ByteArray)} (hB : Below w0.heap.size w0 w) (h : CI.Cach w0.heap.size F c room L w) (k : CI.Left w0.heap.size F c room L' w w') : CNow w0 c room L' w' := by
  obtain ⟨F', h1, h2, h3⟩ := k
  exact ⟨⟨F', h1⟩, hB.trans (h2.below (fun i hi => h.low hi) hB.size)⟩
theorem now_get_none (h : CNow w0 c room L w) {k : Int} (hk : CI.Ok k) (hg : getL L k = none) :
    Calls Try.prog 12 #[.pointer (some ⟨c, 0, none⟩), .int .i64 k] w fun e w' => e = .returned (.tuple #[.string ⟨#[]⟩, .bool false]) ∧ CNow w0 c room L w' := by
  obtain ⟨⟨F, h⟩, hB⟩ := h
  exact (CI.get_none h hk hg).mono fun _e _w' ⟨h1, h2⟩ => ⟨h1, CNow.left hB h h2⟩
theorem now_get_some (h : CNow w0 c room L w) {k : Int} (hk : CI.Ok k) {v : ByteArray} (hg : getL L k = some v) :
    Calls Try.prog 12 #[.pointer (some ⟨c, 0, none⟩), .int .i64 k] w fun e w' => e = .returned (.tuple #[.string v, .bool true]) ∧ CNow w0 c room ((k, v) :: dropL L k) w' := by
  obtain ⟨⟨F, h⟩, hB⟩ := h
  exact (CI.get_some h hk hg).mono fun _e _w' ⟨h1, h2⟩ => ⟨h1, CNow.left hB h h2⟩
theorem now_put (h : CNow w0 c room L w) {k : Int} (hk : CI.Ok k) (v : ByteArray) :
    Calls Try.prog 14 #[.pointer (some ⟨c, 0, none⟩), .int .i64 k, .string v] w fun e w' => e = .returned (CI.putV room L k v) ∧ CNow w0 c room (putL room L k v) w' := by
  obtain ⟨⟨F, h⟩, hB⟩ := h
  exact (CI.put_any h hk v).mono fun _e _w' ⟨h1, h2⟩ => ⟨h1, CNow.left hB h h2⟩
theorem now_drop (h : CNow w0 c room L w) {k : Int} (hk : CI.Ok k) :
    Calls Try.prog 16 #[.pointer (some ⟨c, 0, none⟩), .int .i64 k] w fun e w' => e = .returned (.bool (getL L k).isSome) ∧ CNow w0 c room (dropL L k) w' := by
  obtain ⟨⟨F, h⟩, hB⟩ := h
  exact (CI.drop_any h hk).mono fun _e _w' ⟨h1, h2⟩ => ⟨h1, CNow.left hB h h2⟩
theorem CNow.later {w' : World} (h : CNow w0 c room L w) (k : Below w.heap.size w w') : CNow w0 c room L w' := by
  obtain ⟨⟨F, h⟩, hB⟩ := h
  exact ⟨⟨F, h.later k⟩, hB.trans (k.mono hB.size)⟩
theorem now_keys (h : CNow w0 c room L w) :
    Calls Try.prog 11 #[.pointer (some ⟨c, 0, none⟩)] w fun e w' => ∃ v, e = .returned v ∧ IntsAt w' v (keysL L) ∧ CNow w0 c room L w' := by
  have h0 := h
  obtain ⟨⟨F, h⟩, hB⟩ := h
  exact (CI.keys_any h).mono fun _e _w' ⟨v, h1, h2, h3⟩ => ⟨v, h1, IntsAt.of_row h2, h0.later h3⟩
end

set_option maxRecDepth 100000 in
set_option maxHeartbeats 2000000 in
theorem fixed_any (w : World) : Calls Try.prog 10 #[] w fun e w' => e = .returned (.bool true) ∧ Below w.heap.size w w' := by
  go_enter Try.func10, Try.ntmps10
  go_wp2_with fail
  refine (CI.new_any 2 (by omega) (by omega) _).mono ?_
  rintro e w1 ⟨c, F, rfl, hc, hB⟩
  have h1 : CNow w c 2 [] w1 := ⟨⟨F, hc⟩, hB⟩
  clear hc hB
  go_wp2_with fail
  refine (CS.new_bad 0 (by omega) _).mono ?_
  rintro e w2 ⟨rfl, hB⟩
  have h2 := h1.later hB
  clear h1 hB
  go_wp2_with fail
  refine (now_put h2 (k := 1) (by unfold CI.Ok; omega) ⟨#[97]⟩).mono ?_
  rintro e w3 ⟨he, h3⟩
  rw [show CI.putV 2 [] 1 ⟨#[97]⟩ = .tuple #[.int .i64 0, .bool false] from rfl] at he
  rw [show putL 2 ([] : List (Int × ByteArray)) (1 : Int) (⟨#[97]⟩ : ByteArray) = [(1, ⟨#[97]⟩)] from rfl] at h3
  subst he
  clear h2
  go_wp2_with fail
  refine (now_put h3 (k := 2) (by unfold CI.Ok; omega) ⟨#[98]⟩).mono ?_
  rintro e w4 ⟨he, h4⟩
  rw [show CI.putV 2 [(1, ⟨#[97]⟩)] 2 ⟨#[98]⟩ = .tuple #[.int .i64 0, .bool false] from rfl] at he
  rw [show putL 2 ([(1, ⟨#[97]⟩)] : List (Int × ByteArray)) (2 : Int) (⟨#[98]⟩ : ByteArray) = [(2, ⟨#[98]⟩), (1, ⟨#[97]⟩)] from rfl] at h4
  subst he
  clear h3
  go_wp2_with fail
  refine (now_get_some h4 (k := 1) (v := ⟨#[97]⟩) (by unfold CI.Ok; omega) rfl).mono ?_
  rintro e w5 ⟨rfl, h5⟩
  rw [show ((1 : Int), (⟨#[97]⟩ : ByteArray)) :: dropL ([(2, ⟨#[98]⟩), (1, ⟨#[97]⟩)] : List (Int × ByteArray)) 1 = [(1, ⟨#[97]⟩), (2, ⟨#[98]⟩)] from rfl] at h5
  clear h4
  go_wp2_with fail
  refine (now_put h5 (k := 3) (by unfold CI.Ok; omega) ⟨#[99]⟩).mono ?_
  rintro e w6 ⟨he, h6⟩
  rw [show CI.putV 2 [(1, ⟨#[97]⟩), (2, ⟨#[98]⟩)] 3 ⟨#[99]⟩ = .tuple #[.int .i64 2, .bool true] from rfl] at he
  rw [show putL 2 ([(1, ⟨#[97]⟩), (2, ⟨#[98]⟩)] : List (Int × ByteArray)) (3 : Int) (⟨#[99]⟩ : ByteArray) = [(3, ⟨#[99]⟩), (1, ⟨#[97]⟩)] from rfl] at h6
  subst he
  clear h5
  go_wp2_with fail
  refine (now_get_none h6 (k := 2) (by unfold CI.Ok; omega) rfl).mono ?_
  rintro e w7 ⟨rfl, h7⟩
  clear h6
  go_wp2_with fail
  refine (now_keys h7).mono ?_
  rintro e w8 ⟨v, rfl, hv, h8⟩
  rw [show keysL ([(3, ⟨#[99]⟩), (1, ⟨#[97]⟩)] : List (Int × ByteArray)) = [3, 1] from rfl] at hv
  clear h7
  have HV := Lib.hid hv
  clear hv
  go_wp2_with fail
  have hB9 := (Below.refl w8.heap.size w8).alloc (Nat.le_refl _) (.cells #[.int .i64 3, .int .i64 1] 3)
  have hI : IntsAt (w8.alloc (.cells #[.int .i64 3, .int .i64 1] 3)) (.slice (some ⟨w8.heap.size, 0, none⟩) 2 2) [3, 1] :=
    IntsAt.of_row (base := w8.heap.size) (World.ownsRow_lit w8 #[.int .i64 3, .int .i64 1] 2 (Nat.le_refl _) (by decide) rfl)
  refine (same_self v _ [3, 1] (by simp) _ (HV.out.later hB9) hI).mono ?_
  rintro e w9 ⟨rfl, hB⟩
  have h9 := (h8.later hB9).later hB
  clear h8 hB9 hI hB
  go_wp2_with fail
  refine (now_drop h9 (k := 3) (by unfold CI.Ok; omega)).mono ?_
  rintro e w10 ⟨he, h10⟩
  rw [show (getL ([(3, ⟨#[99]⟩), (1, ⟨#[97]⟩)] : List (Int × ByteArray)) (3 : Int)).isSome = true from rfl] at he
  rw [show dropL ([(3, ⟨#[99]⟩), (1, ⟨#[97]⟩)] : List (Int × ByteArray)) (3 : Int) = [(1, ⟨#[97]⟩)] from rfl] at h10
  subst he
  clear h9
  go_wp2_with fail
  refine (now_drop h10 (k := 3) (by unfold CI.Ok; omega)).mono ?_
  rintro e w11 ⟨he, h11⟩
  rw [show (getL ([(1, ⟨#[97]⟩)] : List (Int × ByteArray)) (3 : Int)).isSome = false from rfl] at he
  subst he
  clear h10
  go_wp2_with fail
  go_ret
  exact ⟨rfl, h11.2⟩
end Go.Proofs.Ytipnbggbejkhkaa
