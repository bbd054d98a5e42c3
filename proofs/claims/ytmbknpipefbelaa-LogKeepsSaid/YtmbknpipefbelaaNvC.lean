/-
  A log's bytes as records: split.
-/
import Derived.Test.YtmbknpipefbelaaNvB
namespace Go.Proofs.Ytmbknpipefbelaa
open Go.RowKit Go Go.Maps SM

theorem readRecs_fuel : ∀ (f1 f2 : Nat) (l : List UInt8), l.length < f1 → l.length < f2 → readRecs f1 l = readRecs f2 l
  | 0, _, _, h, _ => by omega
  | _, 0, _, _, h => by omega
  | f1 + 1, f2 + 1, l, h1, h2 => by
    rw [readRecs, readRecs]
    by_cases h0 : l.length = 0
    · rw [if_pos h0, if_pos h0]
    · rw [if_neg h0, if_neg h0, readRecs_fuel f1 f2 (l.drop (2 + valN (l.take 2))) (by rw [List.length_drop]; omega) (by rw [List.length_drop]; omega)]
/-- what bytes are, as records -/
def recsOf (l : List UInt8) : Option (List ByteArray) := readRecs (l.length + 1) l
theorem recsOf_nil : recsOf [] = some [] := rfl
theorem recsOf_bad {l : List UInt8} (h : l.length ≠ 0) (h2 : l.length < 2 ∨ 1300 < valN (l.take 2) ∨ l.length - 2 < valN (l.take 2)) : recsOf l = none := by
  rw [recsOf, readRecs, if_neg h, if_pos h2]
theorem recsOf_more {l : List UInt8} (h : l.length ≠ 0) (h2 : ¬ (l.length < 2 ∨ 1300 < valN (l.take 2) ∨ l.length - 2 < valN (l.take 2))) :
    recsOf l = (recsOf (l.drop (2 + valN (l.take 2)))).map fun r => bsL ((l.drop 2).take (valN (l.take 2))) :: r := by
  rw [recsOf, readRecs, if_neg h, if_neg h2, readRecs_fuel l.length ((l.drop (2 + valN (l.take 2))).length + 1) _ (by rw [List.length_drop]; omega) (by omega)]
  rfl
theorem recsOf_recB {l : List ByteArray} (h : ∀ r ∈ l, r.size ≤ 1300) : recsOf (recB l) = some l := by
  have hb : ∀ l : List ByteArray, l.length ≤ (recB l).length := fun l => by
    induction l with
    | nil => simp
    | cons r l ih => rw [recB_cons, List.length_append, List.length_append, length_leN, List.length_cons]; omega
  exact read_recB l _ (by have := hb l; omega) h
theorem recsOf_is {b : List UInt8} {l : List ByteArray} (h : recsOf b = some l) : recB l = b ∧ ∀ r ∈ l, r.size ≤ 1300 := recB_read _ _ _ h

theorem infoStr' : (Try.prog.info? 9).map (fun i => (i.zero, i.size, i.bytes)) = some (some (.string ⟨#[]⟩), 1, 16) := by kernel_rfl
theorem strVals_snoc (l : List ByteArray) (x : ByteArray) : strVals (l ++ [x]) = strVals l ++ [.string x] := by simp [strVals]
theorem Rest.conv {v : Value} {L : List UInt8} {w : World} (h : Rest v L w) : (convert 43 9 v).run Try.prog w = .ok (.string (bsL L)) w := by
  obtain ⟨a, cap, rfl, h2, h3, h4⟩ := h
  by_cases hl : L = []
  · subst hl
    cases a with
    | none => exact run_convert_bytes_nil w 43 5 Try.underlying43 Try.underlying5 _ _ 9 Try.underlying9
    | some a => exact run_convert_bytes_back w 43 9 5 a cap [] Try.underlying43 Try.underlying5 Try.underlying9 (fun j hj => by simp at hj)
  · obtain ⟨g, off, _, _, rfl, hg, hc⟩ := h4 hl
    exact run_convert_bytes_back w 43 9 5 ⟨g, off, none⟩ cap L Try.underlying43 Try.underlying5 Try.underlying9 (fun j hj => by
      rw [Addr.add_lit, hc j hj])
theorem Rest.shape {v : Value} {L : List UInt8} {w : World} (h : Rest v L w) : ∃ a n c, v = .slice a n c ∧ n = L.length := by
  obtain ⟨a, c, e, _⟩ := h
  exact ⟨a, _, c, e, rfl⟩
/-- what split answers -/
def SplitV (base : Nat) (b : List UInt8) (v : Value) (W : World) : Prop :=
  match recsOf b with
  | none => v = .tuple #[.slice none 0 0, .bool false]
  | some l => ∃ u, v = .tuple #[u, .bool true] ∧ W.ownsRow base 9 1 u l.length (strVals l)

set_option maxRecDepth 100000 in
set_option maxHeartbeats 4000000 in
theorem split_any {v : Value} {L : List UInt8} {w : World} (h : Rest v L w) (hL : L.length ≤ 1048576) :
    Calls Try.prog 43 #[v] w fun e w' => ∃ r, e = .returned r ∧ SplitV w.heap.size L r w' ∧ Below w.heap.size w w' := by
  obtain ⟨i0, hi, hz0, hz1, hz2⟩ := info_parts infoStr'
  obtain ⟨a, cap, rfl, -⟩ := id h
  have C1 := taker_any h
  clear h
  go_enter Try.func43, Try.ntmps43
  go_wp2_with fail
  refine C1.mono ?_
  rintro e w1 ⟨rfl, hx1, hr1, hB1⟩
  have C2 := take_any (n := 2) hx1 hr1 (by omega)
  go_wp2_with fail
  refine C2.mono ?_
  rintro e w2 ⟨u2, v2, rfl, hu2, hr2, hx2, hs2⟩
  obtain ⟨a2, n2, c2, rfl, -⟩ := hu2.shape
  have HB2 := Lib.hid (hB1.trans (hs2.below (B := w.heap.size) (fun k e => by omega) hB1.size))
  clear hx1 hr1 hB1 C1 C2 hs2
  go_wp2
  go_loopg [2, 5] L.length (fun g rv lv wr => ∃ (acc : List ByteArray) (R : List UInt8) (v' : Value), g = R.length ∧ Hid (recsOf L = (recsOf R).map (acc ++ ·)) ∧ acc.length + R.length ≤ L.length ∧ Rest lv (R.take 2) wr ∧ Rest v' (R.drop 2) wr ∧ wr.heap[w.heap.size]? = some (boxO v') ∧ wr.ownsRow w.heap.size 9 1 rv acc.length (strVals acc) ∧ Below w.heap.size w wr)
  case atStart => exact ⟨[], L, v2, rfl, Lib.hid (by cases recsOf L <;> simp), by simp, hu2, hr2, hx2, World.ownsRow_nil _ _ _ _, HB2.out⟩
  case round =>
    clear hu2 hr2 hx2 HB2
    obtain ⟨acc, R, v', rfl, HQ, hsz, hu, hr, hx, hrow, hB⟩ := hrel
    obtain ⟨a5, n5, c5, rfl, hn5⟩ := hu.shape
    obtain ⟨ar, cr, rfl⟩ := row_shape hrow
    have hn5' : n5 = min 2 R.length := by rw [hn5, List.length_take]
    clear hn5
    have HB := Lib.hid hB
    by_cases h0 : R.length = 0
    · have e0 : n5 = 0 := by omega
      obtain rfl : R = [] := List.eq_nil_of_length_eq_zero h0
      have HR := Lib.hid (show recsOf L = some acc by rw [HQ.out, recsOf_nil]; simp)
      have HO := Lib.hid hrow
      subst e0
      clear hu hr hx hrow hB hn5' HQ
      go_wp2
      go_ret2
      refine ⟨_, rfl, ?_, HB.out⟩
      unfold SplitV
      rw [HR.out]
      exact ⟨_, rfl, HO.out⟩
    · have hp : 0 < (n5 : Int) := by omega
      have C3 := value_any hu (by rw [List.length_take]; omega)
      have hV := leN_le (R.take 2) 2 (by rw [List.length_take]; omega)
      have HV := Lib.hid (show valN (R.take 2) = valN (R.take 2) from rfl)
      have HBad := Lib.hid (fun h2 => recsOf_bad (l := R) h0 h2)
      have HMore := Lib.hid (fun h2 => recsOf_more (l := R) h0 h2)
      generalize valN (R.take 2) = n at C3 hV HBad HMore
      have C4 := take_any (n := n) hx hr (by omega)
      have HBO := Lib.hid hB
      have HO := Lib.hid hrow
      have HX := Lib.hid hx
      have hnn : (n : Int) ≤ 70000 := by omega
      have HN5 := Lib.hid hn5'
      clear hu hr hx hrow hB HV hV hn5'
      go_wp2_with fail
      refine C3.mono ?_
      rintro e w' ⟨rfl, rfl⟩
      go_wp2_with fail
      refine C4.mono ?_
      rintro e w4 ⟨u4, v4, rfl, hu4, hr4, hx4, hs4⟩
      obtain ⟨a4, n4, c4, rfl, hn4⟩ := hu4.shape
      have hn4' := Lib.hid (show n4 = min n (R.length - 2) by rw [hn4, List.length_take, List.length_drop])
      have HB4 := Lib.hid (HB.out.trans (hs4.below (B := w.heap.size) (fun k e => by omega) HB.out.size))
      have HO4 := Lib.hid (owns_stay HO.out hs4 (fun k hk e => by
        obtain ⟨C, hC⟩ := owns_block HO.out hk
        rw [e, HX.out] at hC
        simp [boxO] at hC))
      clear hn4 C3 C4
      have hbad : R.length < 2 ∨ (¬ R.length < 2 ∧ 1300 < n) ∨ (¬ R.length < 2 ∧ ¬ 1300 < n ∧ R.length - 2 < n) ∨ ¬ (R.length < 2 ∨ 1300 < n ∨ R.length - 2 < n) := by omega
      rcases hbad with h2 | h2 | h2 | h2
      · have HR := Lib.hid (show recsOf L = none by rw [HQ.out, HBad.out (by omega)]; rfl)
        have e5 : (n5 : Int) < 2 := by have := HN5.out; omega
        clear h2 hu4 hr4 hx4 hs4
        go_wp2
        go_ret2
        refine ⟨_, rfl, ?_, HB4.out⟩
        unfold SplitV
        rw [HR.out]
        rfl
      · have HR := Lib.hid (show recsOf L = none by rw [HQ.out, HBad.out (by omega)]; rfl)
        have e5 : ¬ (n5 : Int) < 2 := by have := HN5.out; omega
        have e6 : (1300 : Int) < (n : Int) := by omega
        clear h2 hu4 hr4 hx4 hs4
        go_wp2
        go_ret2
        refine ⟨_, rfl, ?_, HB4.out⟩
        unfold SplitV
        rw [HR.out]
        rfl
      · have HR := Lib.hid (show recsOf L = none by rw [HQ.out, HBad.out (by omega)]; rfl)
        have e5 : ¬ (n5 : Int) < 2 := by have := HN5.out; omega
        have e6 : ¬ (1300 : Int) < (n : Int) := by omega
        have e7 : (n4 : Int) < (n : Int) := by have := hn4'.out; omega
        clear h2 hu4 hr4 hx4 hs4
        go_wp2
        go_ret2
        refine ⟨_, rfl, ?_, HB4.out⟩
        unfold SplitV
        rw [HR.out]
        rfl
      · have hm := HMore.out h2
        have e5 : ¬ (n5 : Int) < 2 := by have := HN5.out; omega
        have e6 : ¬ (1300 : Int) < (n : Int) := by omega
        have e7 : ¬ (n4 : Int) < (n : Int) := by have := hn4'.out; omega
        have hcv := hu4.conv
        have HR := Lib.hid (show recsOf L = (recsOf ((R.drop 2).drop n)).map ((acc ++ [bsL ((R.drop 2).take n)]) ++ ·) by
          rw [HQ.out, hm, List.drop_drop]
          cases recsOf (R.drop (2 + n)) <;> simp)
        generalize bsL ((R.drop 2).take n) = X at hcv HR
        have hlen : ((R.drop 2).drop n).length + 2 + n = R.length := by rw [List.length_drop, List.length_drop]; omega
        have HL := Lib.hid hlen
        have HX4 := Lib.hid hx4
        have HR4 := Lib.hid hr4
        have HH := Lib.hid h2
        have hac : acc.length ≤ 1048576 := by omega
        have hszW : w.heap.size ≤ w4.heap.size := HB4.out.size
        clear hm hu4 hr4 hx4 hs4 hlen h2 HQ HBad HMore
        go_wp2_with (at_builtin; refine wpList_append_own _ rfl _ _ 29 rfl w.heap.size 9 i0 (.string ⟨#[]⟩) 1 16 Try.underlying29 hi hz0 hz1 hz2 rfl (by decide) _ _ _ rfl (HO4.out.alloc _) ⟨w4.heap.size, 0, none⟩ 1 1 [.string X] rfl rfl (cell_one_new _ _ _) (by simp [Value.oneCell']) (by unfold maxLen; omega) (by omega) (by simp; omega) ?_; intro v' w5 hown' hgrow _)
        have hk5 : ∀ (k : Nat) (o : Obj), w4.heap[k]? = some o → (∀ C, o ≠ Obj.cells C 9 (0, 0)) → w5.heap[k]? = some o := fun k o hk hne =>
          (hgrow.block k (by have := lt_of_heap hk; simp; omega) (fun e => by
            obtain ⟨C, hC⟩ := owns_block HO4.out e.symm
            rw [hk] at hC
            exact hne C (Option.some.inj hC))).trans (heap_alloc_old hk _)
        have hx5 := hk5 _ _ HX4.out (fun C e => by simp [boxO] at e)
        have hr5 := HR4.out.same (w' := w5) (fun g C f hg => (hk5 g _ hg (fun C' e => by simp at e)).trans hg.symm)
        have hB5 : Below w.heap.size w4 w5 := ((Below.refl _ w4).alloc hszW _).grown hgrow (by simp; omega) (fun j ej => (HO4.out.lt j ej).1)
        have HO5 := Lib.hid hown'
        have HB5 := Lib.hid (HB4.out.trans hB5)
        have C5 := take_any (n := 2) hx5 hr5 (by omega)
        have HX5 := Lib.hid hx5
        clear hown' hgrow hk5 hx5 hr5 hB5 hcv
        refine C5.mono ?_
        rintro e w6 ⟨u6, v6, rfl, hu6, hr6, hx6, hs6⟩
        obtain ⟨a6, n6, c6, rfl, -⟩ := hu6.shape
        have HU6 := Lib.hid hu6
        have HR6 := Lib.hid hr6
        have HX6 := Lib.hid hx6
        have HB6 := Lib.hid (HB5.out.trans (hs6.below (B := w.heap.size) (fun k e => by omega) HB5.out.size))
        have HO6 := Lib.hid (owns_stay HO5.out hs6 (fun k hk e => by
          obtain ⟨C, hC⟩ := owns_block HO5.out hk
          rw [e, HX5.out] at hC
          simp [boxO] at hC))
        clear hu6 hr6 hx6 hs6 C5
        go_wp2
        go_roundg ((R.drop 2).drop n).length
        case measure => have := HL.out; omega
        case rel => exact ⟨acc ++ [X], (R.drop 2).drop n, v6, rfl, HR.out, by have := HL.out; rw [List.length_append]; simp only [List.length_cons, List.length_nil]; omega, HU6.out, HR6.out, HX6.out, by rw [List.length_append, strVals_snoc]; exact HO6.out, HB6.out⟩
end Go.Proofs.Ytmbknpipefbelaa
