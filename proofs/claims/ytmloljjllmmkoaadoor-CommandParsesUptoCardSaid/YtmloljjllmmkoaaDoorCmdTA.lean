/-
  What layer 13 calls of the library: strconv.Itoa and Atoi, strings.CutPrefix, SplitN at one byte, Join with a blank.
-/
import Derived.Test.YtmloljjllmmkoaaDoorCmdMath
import Derived.Test.YtmloljjllmmkoaaDoorCmdKL
import Derived.Test.YtmloljjllmmkoaaDoorCmdLx
import Derived.Test.YtmloljjllmmkoaaDoorCmdLc
import Derived.Test.YtmloljjllmmkoaaDoorTabIx
import Derived.Test.YtmloljjllmmkoaaDoorTabJn
import Derived.Lib.AppendIntMem
import Derived.Lib.SplitLaws
import Derived.Laws.Strings3
import Derived.Deep.OwnRows
import Derived.Lib.SmallJoins
namespace Go.Proofs.YtmloljjllmmkoaaDoor
open Go.RowKit Go

theorem info9 : (Tryd.prog.info? 9).map (fun i => (i.zero, i.size, i.bytes)) = some (some (.string ⟨#[]⟩), 1, 16) := by kernel_rfl

/-! ### Numbers -/
theorem itoa_any (n : Int) (h : IntOk n) (w : World) (hg : GE w) :
    Calls Tryd.prog 44 #[.int .i64 n] w fun e w' => e = .returned (.string (bs (Lib.itoa n))) ∧ Below w.heap.size w w' :=
  (Any.strconv_Itoa Tryd.laysM171 n h.1 h.2 w hg.pow).mono fun _ _ ⟨he, k, os, hw⟩ => ⟨he, hw ▸ Lib.below_grow _ w (Nat.le_refl _) k os⟩
/-- the number of a word that spells one -/
theorem atoi_any (s : ByteArray) (hs : s.size ≤ 281474976710656) (w : World) (hg : GE w) :
    Calls Tryd.prog 59 #[.string s] w fun e w' => ∃ n err, e = .returned (.tuple #[.int .i64 n, err]) ∧ IntOk n ∧ (∀ v, Lib.atoiAll s.data.toList = .ok v → n = v) ∧ Below w.heap.size w w' := by
  rcases h : Lib.atoiAll s.data.toList with v | _ | _
  · refine (Any.strconv_Atoi_ok Tryd.laysC172 s (by omega) v h w).mono ?_
    rintro e w' ⟨rfl, hw⟩
    refine ⟨v, _, rfl, Lib.atoiAll_bounds h, fun u hu => Lib.NumEnd.ok.inj hu, ?_⟩
    rcases hw with rfl | ⟨t, rfl⟩
    · exact Below.refl _ _
    · exact Lib.bytesWorld_below w _ t
  · obtain ⟨te, pe, hv⟩ := hg.syn
    refine (Any.strconv_Atoi_syntax Tryd.laysC172 s hs h _ w hv (.inr ⟨te, pe, rfl⟩)).mono ?_
    rintro e w' ⟨N, rfl, _, _, hB⟩
    exact ⟨0, _, rfl, ⟨by omega, by omega⟩, (fun u hu => by cases hu), hB⟩
  · obtain ⟨te, pe, hv⟩ := hg.rng
    refine (Any.strconv_Atoi_range Tryd.laysC172 s hs h _ w hv (.inr ⟨te, pe, rfl⟩)).mono ?_
    rintro e w' ⟨N, rfl, _, _, hB⟩
    refine ⟨Lib.atoiSat s.data.toList, _, rfl, ?_, (fun u hu => by cases hu), hB⟩
    unfold Lib.atoiSat IntOk
    split <;> omega

/-! ### Texts cut at a byte -/
theorem index_not {c : UInt8} {s : ByteArray} (h : Lib.indexByte s.data.toList c = -1) : NoB c s := fun hm => by
  obtain ⟨k, hk⟩ := List.mem_iff_getElem?.1 hm
  exact Lib.indexByte_none h k hk
/-- what stands ahead of a byte's first place, and behind it -/
theorem index_at {c : UInt8} {s : ByteArray} {i : Nat} (h : Lib.indexByte s.data.toList c = i) : i < s.size ∧ NoB c (s.extract 0 i) ∧ s.data.toList = (s.extract 0 i).data.toList ++ c :: (s.extract (i + 1) s.size).data.toList := by
  obtain ⟨h1, h2⟩ := Lib.indexByte_some h
  have hs : s.data.toList.length = s.size := Array.length_toList (xs := s.data)
  obtain ⟨hl, he⟩ := List.getElem?_eq_some_iff.1 h1
  have e1 : (s.extract 0 i).data.toList = s.data.toList.take i := Lib.extract_from_zero s i
  have e2 : (s.extract (i + 1) s.size).data.toList = s.data.toList.drop (i + 1) := Lib.extract_to_end s (i + 1)
  refine ⟨by omega, fun hm => ?_, ?_⟩
  · rw [e1] at hm
    obtain ⟨k, hk⟩ := List.mem_iff_getElem?.1 hm
    rw [List.getElem?_take] at hk
    split at hk
    · exact h2 k (by assumption) hk
    · cases hk
  · rw [e1, e2, ← he, ← List.drop_eq_getElem_cons hl, List.take_append_drop]
theorem index_cases (c : UInt8) (s : ByteArray) : Lib.indexByte s.data.toList c = -1 ∨ ∃ i : Nat, Lib.indexByte s.data.toList c = i := by
  have := Lib.indexByte_ge s.data.toList c
  rcases Int.lt_or_le (Lib.indexByte s.data.toList c) 0 with h | h
  · exact .inl (by omega)
  · exact .inr ⟨(Lib.indexByte s.data.toList c).toNat, by omega⟩
theorem index_any (s : ByteArray) (c : UInt8) (w : World) :
    Calls Tryd.prog 42 #[.string s, .string ⟨#[c]⟩] w fun e w' => e = .returned (.int .i64 (Lib.indexByte s.data.toList c)) ∧ w = w' :=
  (Any.strings_Index_one Tryd.lays143 s c w).mono fun _ _ ⟨h1, h2⟩ => ⟨h1, h2.symm⟩
/-- how the loop stands: what has been cut off, and the rest -/
structure Cutting (c : UInt8) (n : Nat) (s : ByteArray) (done : List ByteArray) (rest : ByteArray) : Prop where
  len : done.length + 1 ≤ n
  no : ∀ p ∈ done, NoB c p
  join : joinB c (done ++ [rest]) = s.data.toList
  size : rest.size ≤ s.size
theorem Cutting.start (c : UInt8) {n : Nat} (hn : 1 ≤ n) (s : ByteArray) : Cutting c n s [] s := ⟨by simpa using hn, by simp, rfl, Nat.le_refl _⟩
theorem Cutting.next {c : UInt8} {n : Nat} {s rest : ByteArray} {done : List ByteArray} {i : Nat} (h : Cutting c n s done rest) (hn : done.length + 1 < n) (hi : Lib.indexByte rest.data.toList c = i) :
    Cutting c n s (done ++ [rest.extract 0 i]) (rest.extract (i + 1) rest.size) := by
  obtain ⟨h1, h2, h3⟩ := index_at hi
  refine ⟨by simp; omega, fun p hp => ?_, ?_, ?_⟩
  · rcases List.mem_append.1 hp with hp | hp
    · exact h.no p hp
    · rw [List.mem_singleton.1 hp]; exact h2
  · rw [← h.join, joinB_snoc (by simp)]
    by_cases hd : done = []
    · subst hd
      show (rest.extract 0 i).data.toList ++ _ = rest.data.toList
      exact h3.symm
    · rw [joinB_snoc hd, joinB_snoc hd, h3]
      simp
  · have := h.size
    rw [ByteArray.size_extract]
    omega
theorem Cutting.last {c : UInt8} {n : Nat} {s rest : ByteArray} {done : List ByteArray} (h : Cutting c n s done rest) (hs : done.length + 1 < n → NoB c rest) : CutN c n s (done ++ [rest]) := by
  refine ⟨by simp, by simpa using h.len, h.join, fun p hp => h.no p (by simpa using hp), fun hl p hp => ?_⟩
  rcases List.mem_append.1 hp with hp | hp
  · exact h.no p hp
  · rw [List.mem_singleton.1 hp]; exact hs (by simpa using hl)
theorem Cutting.full {c : UInt8} {n : Nat} {s rest : ByteArray} {done : List ByteArray} (h : Cutting c n s done rest) (hd : s.size ≤ done.length) : NoB c rest := by
  have h1 := joinB_len_snoc c rest done
  rw [h.join] at h1
  have hs : s.data.toList.length = s.size := Array.length_toList (xs := s.data)
  have hr : rest.data.toList.length = rest.size := Array.length_toList (xs := rest.data)
  have : rest.data.toList = [] := List.eq_nil_of_length_eq_zero (by omega)
  unfold NoB
  rw [this]
  simp
set_option maxRecDepth 100000 in
set_option maxHeartbeats 4000000 in
theorem genSplit_any (s : ByteArray) (c : UInt8) (n : Nat) (hn : 1 ≤ n) (hn1 : n ≤ 100) (hs : s.size ≤ 281474976710656) (w : World) :
    Calls Tryd.prog 31 #[.string s, .string ⟨#[c]⟩, .int .i64 0, .int .i64 n] w fun e w' =>
      ∃ ps, CutN c n s ps ∧ ∃ N, ps.length ≤ N ∧ N ≤ n ∧ e = .returned (.slice (some ⟨w.heap.size, 0, none⟩) ps.length N) ∧ w' = w.alloc (.cells (Lib.cellsOf ps N) 9) := by
  obtain ⟨N, hN⟩ : ∃ N : Nat, (N : Int) = min (n : Int) ((s.size : Int) + 1) := ⟨min n (s.size + 1), by omega⟩
  have hN1 : 1 ≤ N := by omega
  have hNn : N ≤ n := by omega
  have HN := Lib.hid (show N < n → N = s.size + 1 by omega)
  have eN : min (n : Int) ((s.size : Int) + 1) = (N : Int) := hN.symm
  clear hN
  have hmk := run_make_row' (P := Tryd.prog) 22 9 (.string ⟨#[]⟩) 16 Tryd.underlying22 info9 rfl .i64 .i64 N (by omega) (by omega)
  have hne : ((n : Int) == 0) = false := beq_eq_false_iff_ne.2 (by omega)
  have hse : (⟨#[c]⟩ : ByteArray).toList.isEmpty = false := by rw [ByteArray.toList_eq]; rfl
  have h1s : ((⟨#[c]⟩ : ByteArray).size : Int) = 1 := rfl
  have hneg : ¬ ((n : Int) < 0) := by omega
  have CI := fun x w => index_any x c w
  go_enter Tryd.func31, Tryd.ntmps31
  go_wp2
  clear hmk
  go_loopw [0, 10] (fun a i wr => ∃ (done : List ByteArray) (rest : ByteArray), a = .string rest ∧ i = .int .i64 done.length ∧ done.length + 1 ≤ N ∧ wr = w.alloc (.cells (Lib.cellsOf done N) 9) ∧ Hid (Cutting c n s done rest)) (fun _ i _ => N - (intOf i).toNat)
  case atStart => exact ⟨[], s, rfl, rfl, hN1, by rw [Lib.cellsOf_nil]; rfl, Lib.hid (Cutting.start c hn s)⟩
  case round =>
    obtain ⟨done, rest, rfl, rfl, hd, rfl, HC⟩ := hrel
    have hnext : (Lib.cellsOf done N)[done.length]? = some (.string ByteArray.empty) := Lib.cellsOf_next (by omega)
    have HS := Lib.hid (Lib.cellsOf_set (done := done) (N := N) (by omega) rest)
    have hrs := HC.out.size
    by_cases hlt : done.length + 1 < N
    · have hltz : ((done.length : Nat) : Int) < (N : Int) - 1 := by omega
      rcases index_cases c rest with hix | ⟨i, hix⟩
      · have HE := Lib.hid (HC.out.last (fun _ => index_not hix))
        have CI1 := CI rest
        rw [hix] at CI1
        go_wp2_with (refine (CI1 _).mono ?_; rintro e w' ⟨rfl, rfl⟩)
        go_ret
        exact ⟨done ++ [rest], HE.out, N, by simp; omega, hNn, by simp, by rw [← HS.out]⟩
      · have HE := Lib.hid (HC.out.next (by omega) hix)
        have hi := (index_at hix).1
        have HS2 := Lib.hid (Lib.cellsOf_set (done := done) (N := N) (by omega) (rest.extract 0 i))
        have CI1 := CI rest
        rw [hix] at CI1
        have c0 : ¬ ((i : Int) < 0) := by omega
        have c1 : (0 : Int) ≤ (i : Int) + 0 := by omega
        have c2 : ((i : Int) + 0 : Int) ≤ (rest.size : Int) := by omega
        have c3 : (0 : Int) ≤ (i : Int) + 1 := by omega
        have c4 : ((i : Int) + 1 : Int) ≤ (rest.size : Int) := by omega
        go_wp2_with (refine (CI1 _).mono ?_; rintro e w' ⟨rfl, rfl⟩)
        go_roundw
        case rel => exact ⟨done ++ [rest.extract 0 i], rest.extract (i + 1) rest.size, rfl, by simp, by simp; omega, by rw [← HS2.out], HE⟩
        case measure => simp [intOf]; omega
    · have hltz : ¬ (((done.length : Nat) : Int) < (N : Int) - 1) := by omega
      have HE := Lib.hid (HC.out.last (fun h => HC.out.full (by have := HN.out (by omega); omega)))
      go_wp2
      go_ret
      exact ⟨done ++ [rest], HE.out, N, by simp; omega, hNn, by simp, by rw [← HS.out]⟩
theorem splitN_any (s : ByteArray) (c : UInt8) (n : Nat) (hn : 1 ≤ n) (hn1 : n ≤ 100) (hs : s.size ≤ 281474976710656) (w : World) :
    Calls Tryd.prog 19 #[.string s, .string ⟨#[c]⟩, .int .i64 n] w fun e w' =>
      ∃ ps, CutN c n s ps ∧ ∃ N, ps.length ≤ N ∧ N ≤ n ∧ e = .returned (.slice (some ⟨w.heap.size, 0, none⟩) ps.length N) ∧ w' = w.alloc (.cells (Lib.cellsOf ps N) 9) := by
  have C := genSplit_any s c n hn hn1 hs w
  go_enter Tryd.func19, Tryd.ntmps19
  go_wp2_with fail
  refine C.mono ?_
  rintro e w' ⟨ps, h1, N, h2, h3, rfl, rfl⟩
  go_wp2
  go_ret
  exact ⟨ps, h1, N, h2, h3, rfl, rfl⟩

/-! ### What stands behind a byte, if it is the first one -/
theorem cut_yes {s : ByteArray} {c : UInt8} {r : ByteArray} (h : s.data.toList = c :: r.data.toList) : Lib.hasPrefix s.data.toList [c] = true ∧ Lib.trimPrefix s.data.toList [c] = r.data.toList := by
  have h1 : Lib.hasPrefix s.data.toList [c] = true := by rw [h]; simp [Lib.hasPrefix]
  refine ⟨h1, ?_⟩
  unfold Lib.trimPrefix
  rw [h1, h]
  rfl
theorem cut_no {s : ByteArray} {c : UInt8} (h : ∀ r : ByteArray, s.data.toList ≠ c :: r.data.toList) : Lib.hasPrefix s.data.toList [c] = false ∧ Lib.trimPrefix s.data.toList [c] = s.data.toList := by
  have h1 : Lib.hasPrefix s.data.toList [c] = false := by
    cases hl : s.data.toList with
    | nil => rfl
    | cons d t =>
      have hd : d ≠ c := by
        rintro rfl
        exact h (bs t) (by rw [hl, bs_list])
      show ((c == d) && [].isPrefixOf t) = false
      rw [beq_eq_false_iff_ne.2 (Ne.symm hd)]
      rfl
  refine ⟨h1, ?_⟩
  unfold Lib.trimPrefix
  rw [h1]
  rfl
theorem cutPrefix_any (s : ByteArray) (c : UInt8) (w : World) :
    Calls Tryd.prog 18 #[.string s, .string ⟨#[c]⟩] w fun e w' => e = .returned (.tuple #[.string (bs (Lib.trimPrefix s.data.toList [c])), .bool (Lib.hasPrefix s.data.toList [c])]) ∧ w = w' :=
  (Any.strings_CutPrefix Tryd.lays103 s ⟨#[c]⟩ w).mono fun _ _ ⟨h1, h2⟩ => ⟨h1, h2.symm⟩

/-! ### Words put together -/
theorem joinB_join : ∀ (ps : List ByteArray), Lib.join (ps.map (·.data.toList)) [32] = joinB 32 ps
  | [] => rfl
  | [p] => by simp [Lib.join, joinB]
  | p :: q :: r => by
    have ih := joinB_join (q :: r)
    show _ = p.data.toList ++ 32 :: joinB 32 (q :: r)
    rw [← ih]
    simp [Lib.join_cons, Lib.joinTail]
def strVs (l : List ByteArray) : List Value := l.map fun k => .string k
theorem strVs_len (l : List ByteArray) : (strVs l).length = l.length := by simp [strVs]
theorem strVs_snoc (l : List ByteArray) (x : ByteArray) : strVs (l ++ [x]) = strVs l ++ [.string x] := by simp [strVs]
theorem join_any (v : Value) (xs : List ByteArray) (w : World) (base : Nat) (h : w.ownsRow base 9 1 v xs.length (strVs xs)) (hx : xs ≠ []) (hn : xs.length ≤ 1000) (hlen : (joinB 32 xs).length ≤ 140737488355328) :
    Calls Tryd.prog 35 #[v, .string ⟨#[32]⟩] w fun e w' => e = .returned (.string (bs (joinB 32 xs))) ∧ Below w.heap.size w w' := by
  have e : Lib.join (xs.map (·.data.toList)) (⟨#[32]⟩ : ByteArray).data.toList = joinB 32 xs := joinB_join xs
  rcases h.2 with ⟨rfl, h0⟩ | ⟨g, cap, cur, rfl, h2, h3, h4, h5, h6, h7⟩
  · exact absurd (List.eq_nil_of_length_eq_zero h0) hx
  · refine (Any.strings_Join Tryd.lays156 Tryd.extra156 g 0 cap xs ⟨#[32]⟩ w (fun j x hj => ?_) (lt_of_heap h3) (by omega) h4 (by rw [e]; exact hlen)).mono ?_
    · obtain ⟨hj1, rfl⟩ := List.getElem?_eq_some_iff.1 hj
      rw [Nat.zero_add, h.cellAt j (by omega)]
      simp [strVs, hj1]
    · rintro ev w' ⟨rfl, hB⟩
      exact ⟨by rw [e]; rfl, hB⟩
end Go.Proofs.YtmloljjllmmkoaaDoor

