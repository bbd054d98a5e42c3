/-
  A reader: Nums.
-/
import Derived.Test.YtmcmhmcihbhmhaaDoorWirF
import Derived.Test.YtmcmhmcihbhmhaaDoorWirG
namespace Go.Proofs.YtmcmhmcihbhmhaaDoor
open Go.RowKit Go

theorem info3 : (Tryd.prog.info? 3).map (fun i => (i.zero, i.size, i.bytes)) = some (some (.int .i64 0), 1, 8) := by kernel_rfl
def ints (l : List Nat) : List Value := l.map fun n : Nat => Value.int .i64 n
def toInts (l : List Nat) : List Int := l.map fun n : Nat => (n : Int)
theorem ints_snoc (l : List Nat) (n : Nat) : ints (l ++ [n]) = ints l ++ [.int .i64 n] := by simp [ints]
theorem intsAt_of_owns {W : World} {base : Nat} {v : Value} {l : List Nat} (h : W.ownsRow base 3 1 v l.length (ints l)) : IntsAt W v (toInts l) := by
  by_cases hv : v = .slice none 0 0
  · have hl : l.length = 0 := by
      rcases h.2 with ⟨_, e⟩ | ⟨g, cap, cur, h1, _⟩
      · exact e
      · rw [hv] at h1; cases h1
    obtain rfl : l = [] := List.eq_nil_of_length_eq_zero hl
    exact IntsAt.empty hv
  · obtain ⟨g, cap, rfl, _, hg, _, _, hc⟩ := row_cells h hv
    refine IntsAt.at g 0 cap (by simp [toInts]) hg fun j hj => ?_
    have hj' : j < l.length := by simpa [toInts] using hj
    rw [Nat.zero_add, hc j (.int .i64 (l[j] : Nat)) (by simp [ints, hj'])]
    simp [toInts]
theorem owns_moved {W W' : World} {base : Nat} {e : TypeId} {v : Value} {n b : Nat} {o : Obj} {xs : List Value} (h : W.ownsRow base e 1 v n xs) (hM : Moved b o W W') (hb : b < base) : W'.ownsRow base e 1 v n xs := by
  refine ⟨h.1, ?_⟩
  rcases h.2 with h1 | ⟨g, cap, cur, h1, h2, h3, h4⟩
  · exact .inl h1
  · exact .inr ⟨g, cap, cur, h1, h2, (hM.block g (Array.getElem?_eq_some_iff.1 h3).1 (by omega)).trans h3, h4⟩
theorem owns_below {W W' : World} {base : Nat} {e : TypeId} {v : Value} {n : Nat} {xs : List Value} (h : W.ownsRow base e 1 v n xs) (hB : Below W.heap.size W W') : W'.ownsRow base e 1 v n xs := by
  refine ⟨h.1, ?_⟩
  rcases h.2 with h1 | ⟨g, cap, cur, h1, h2, h3, h4⟩
  · exact .inl h1
  · exact .inr ⟨g, cap, cur, h1, h2, (hB.block g (Array.getElem?_eq_some_iff.1 h3).1).trans h3, h4⟩
theorem Moved.andB {b : Nat} {o : Obj} {w v u : World} (h : Moved b o w v) (hb : b < w.heap.size) (k : Below w.heap.size v u) : Moved b o w u :=
  ⟨k.os.trans h.os, k.tape.trans h.tape, k.output.trans h.output, Nat.le_trans h.size k.size, (k.block b hb).trans h.here, fun i hi hn => (k.block i hi).trans (h.block i hi hn)⟩

theorem numsR_rest_many : ∀ (k : Nat) (r : Rd) (m : Int) (acc : List Nat), (manyR k r m acc).2.rest.length ≤ r.rest.length
  | 0, r, m, acc => Nat.le_refl _
  | k + 1, r, m, acc => by
    rw [manyR]
    split
    · exact Nat.le_trans (numsR_rest_many k _ m _) (numR_rest r m)
    · exact numR_rest r m
theorem numsR_rest (r : Rd) (many m : Int) : (numsR r many m).2.rest.length ≤ r.rest.length := Nat.le_trans (numsR_rest_many _ _ _ _) (numR_rest _ _)

set_option maxRecDepth 100000 in
set_option maxHeartbeats 4000000 in
theorem qnums_any (b : Nat) (hb0 : b ≠ 0) (r : Rd) (many most : Int) (hs : r.rest.length ≤ 281474976710656) (w : World) (hg : GE w) (hb : w.heap[b]? = some (RO r)) :
    Calls Tryd.prog 23 #[.pointer (some ⟨b, 0, none⟩), .int .i64 many, .int .i64 most] w fun v w' => (∃ l, v = .returned (.tuple #[l, .int .i64 (numsR r many most).2.err]) ∧ IntsAt w' l (toInts (numsR r many most).1)) ∧ Moved b (RO (numsR r many most).2) w w' := by
  have hlow := low_walk many
  have hbl := lt_of_heap hb
  have HT := Lib.hid (show numsR r many most = manyR (numR r (low many)).1 (numR r (low many)).2 most [] from rfl)
  have C := rnum_any b r (low many) hs
  have hn := numR_low r many
  have hr := numR_rest r (low many)
  obtain ⟨i0, hi, hz0, hz1, hz2⟩ := info_parts info3
  generalize low many = m at *
  generalize numR r m = p at *
  obtain ⟨N, r1⟩ := p
  have hr1 : r1.rest.length ≤ 281474976710656 := Nat.le_trans hr hs
  have hN : N ≤ 65536 := hn
  clear hn hr
  go_enter Tryd.func23, Tryd.ntmps23
  go_wp2_with fail
  refine (C _ hb).mono ?_
  rintro e w1 ⟨rfl, hM1⟩
  have hM1' : Moved b (RO r1) w w1 := hM1
  clear hM1 C
  go_wp2_with fail
  go_loopw [8, 13] (fun v i wr => ∃ (k : Nat) (acc : List Nat) (rk : Rd), k ≤ N ∧ i = .int .i64 k ∧ acc.length = k ∧ rk.rest.length ≤ 281474976710656 ∧ numsR r many most = manyR (N - k) rk most acc ∧ wr.ownsRow w.heap.size 3 1 v acc.length (ints acc) ∧ Moved b (RO rk) w wr) (fun _ i _ => N - (intOf i).toNat)
  case atStart => exact ⟨0, [], r1, Nat.zero_le _, rfl, rfl, hr1, HT.out, World.ownsRow_nil _ _ _ _, hM1'⟩
  case round =>
    clear hM1' HT hlow hr1
    obtain ⟨k, acc, rk, hk, rfl, hacc, hrk, heq, hrow, hM⟩ := hrel
    have HE := Lib.hid heq
    have HM := Lib.hid hM
    have HR := Lib.hid hrow
    clear heq hM hrow
    by_cases hlt : k < N
    · have hk1 : (k : Int) < (N : Int) := by omega
      have C := rnum_any b rk most hrk wr HM.out.here
      have hrk2 := numR_rest rk most
      have HS := Lib.hid (show manyR (N - k) rk most acc = if (numR rk most).2.err = 0 then manyR (N - (k + 1)) (numR rk most).2 most (acc ++ [(numR rk most).1]) else ([], (numR rk most).2) by
        rw [show N - k = (N - (k + 1)) + 1 by omega, manyR])
      generalize numR rk most = q at *
      obtain ⟨x, rq⟩ := q
      have hrq : rq.rest.length ≤ 281474976710656 := Nat.le_trans hrk2 hrk
      go_wp2_with fail
      refine C.mono ?_
      rintro e w2 ⟨rfl, hM2⟩
      have hM2' : Moved b (RO rq) wr w2 := hM2
      have hrow2 := owns_moved HR.out hM2' hbl
      have hM3 : Moved b (RO rq) w w2 := HM.out.trans hM2'
      have hsz := hM3.size
      have HM3 := Lib.hid hM3
      rw [hacc] at hrow2
      clear hM2 hM2' hM3 HR C HM
      by_cases herr : rq.err = 0
      · have HS2 := Lib.hid (show numsR r many most = manyR (N - (k + 1)) rq most (acc ++ [x]) by rw [HE.out, HS.out]; exact if_pos herr)
        clear HS HE
        go_wp2_with (at_builtin; refine wpList_append_own _ rfl _ _ 22 rfl w.heap.size 3 i0 (.int .i64 0) 1 8 Tryd.underlying22 hi hz0 hz1 hz2 rfl (by decide) _ _ _ rfl (hrow2.alloc _) ⟨w2.heap.size, 0, none⟩ 1 1 [.int .i64 x] rfl rfl (cell_one_new _ _ _) (by simp [Value.oneCell']) (by unfold maxLen; omega) (by omega) (by simp; omega) ?_; intro v' w3 hown' hgrow _; have hB3 : Below w.heap.size w2 w3 := ((Below.refl _ w2).alloc hsz _).grown hgrow (by simp; omega) (fun j ej => (hrow2.lt j ej).1); have hM4 := HM3.out.andB hbl hB3; have c1 := RO.c1 hM4.here; rw [herr, errV_zero] at c1; have HM4 := Lib.hid hM4; have HO := Lib.hid hown'; clear hM4 hown' hgrow hB3)
        go_roundw
        case rel => exact ⟨k + 1, acc ++ [x], rq, by omega, by go_num, by simp [hacc], hrq, HS2.out, by rw [List.length_append, hacc, ints_snoc]; exact HO.out, HM4.out⟩
        case measure => simp [intOf]; omega
      · have HS2 := Lib.hid (show numsR r many most = ([], rq) by rw [HE.out, HS.out]; exact if_neg herr)
        clear HS HE
        go_wp2_with (at_builtin; refine wpList_append_own _ rfl _ _ 22 rfl w.heap.size 3 i0 (.int .i64 0) 1 8 Tryd.underlying22 hi hz0 hz1 hz2 rfl (by decide) _ _ _ rfl (hrow2.alloc _) ⟨w2.heap.size, 0, none⟩ 1 1 [.int .i64 x] rfl rfl (cell_one_new _ _ _) (by simp [Value.oneCell']) (by unfold maxLen; omega) (by omega) (by simp; omega) ?_; intro v' w3 hown' hgrow _; have hB3 : Below w.heap.size w2 w3 := ((Below.refl _ w2).alloc hsz _).grown hgrow (by simp; omega) (fun j ej => (hrow2.lt j ej).1); have hM4 := HM3.out.andB hbl hB3; have c1 := RO.c1 hM4.here; have hg4 := hg.moved hM4 hb0; rw [errV_ne herr] at c1; have HM4 := Lib.hid hM4; clear hM4 hown' hgrow hB3)
        refine (errno_flt _ _ hg4).mono ?_
        rintro e w4 ⟨rfl, hB4⟩
        go_wp2_with fail
        go_ret2
        rw [HS2.out]
        exact ⟨⟨_, rfl, IntsAt.empty rfl⟩, HM4.out.and hB4⟩
    · obtain rfl : k = N := by omega
      have HS2 := Lib.hid (show numsR r many most = (acc, rk) by rw [HE.out, Nat.sub_self]; rfl)
      have c1 := RO.c1 HM.out.here
      have hg1 := hg.moved HM.out hb0
      have C := errno_any rk.err wr hg1
      clear HE
      go_wp2_with fail
      refine C.mono ?_
      rintro e w4 ⟨rfl, hB4⟩
      go_wp2_with fail
      go_ret2
      rw [HS2.out]
      exact ⟨⟨_, rfl, (intsAt_of_owns HR.out).later hB4⟩, HM.out.and hB4⟩
end Go.Proofs.YtmcmhmcihbhmhaaDoor
