/-
  A disk: the power goes; Read, Sync, Crash, Revive, Arm.
-/
import Derived.Test.YtmbknpipefbelaaDskBA
import Derived.Test.YtmbknpipefbelaaDskBK
namespace Go.Proofs.Ytmbknpipefbelaa
open Go.RowKit Go Go.Maps SM

section
variable {b g cap m : Nat} {B : ByteArray} {a : Int} {s : DS} {cur : Array Value} {D : DataW Unit} {w : World}

set_option maxRecDepth 100000 in
theorem fall_at (h : DAt b g cap m B a s cur D w) (hk : s.Ok) (hf : s.loose.length ≤ 1099511627776) {keep : ByteArray} (hkp : keep.size ≤ 140737488355328) :
    Calls Try.prog 37 #[.pointer (some ⟨b, 0, none⟩), .string keep] w fun e w' => e = .returned (.tuple #[]) ∧ (∃ cur' D', DAt b g cap m B 0 (s.goes keep) cur' D' w') ∧ Stir (Foot b g m) w w' := by
  have hB : Below w.heap.size w (w.alloc (.cells #[.string keep] 9)) := (Below.refl _ w).alloc (Nat.le_refl _) _
  have C := settle_keep (h.below hB) hk hf hkp (x := w.heap.size) (heap_alloc_new w _)
  have HB := Lib.hid hB
  clear hB h
  go_enter Try.func37, Try.ntmps37
  go_wp2_with fail
  refine C.mono ?_
  rintro e w1 ⟨rfl, ⟨cur1, D1, h1⟩, hs⟩
  have S1 : Stir (Foot b g m) w w1 := (Stir.of_below HB.out).trans hs (fun i hi => .inl (.inr hi))
  have f6 := DObj.fr h1.obj 6
  have c6 := DObj.c6 h1.obj
  have h2 : DAt b g cap m B a { s.settledBy (keepsAt keep) with dead := true } cur1 D1 (w1.setCell ⟨b, 6, none⟩ (.bool true)) :=
    DAt.cell (s' := { s.settledBy (keepsAt keep) with dead := true }) (a' := a) (B' := B) h1 6 _ rfl rfl h1.size h1.bads (by rw [heap_set h1.obj]; simp [DObj])
  have C2 := disarm_at h2
  have S2 := Lib.hid (S1.set (b := b) (i := 6) (.inl (.inl rfl)) (.bool true))
  clear h1 h2 hs S1 C HB
  go_wp2_with fail
  refine C2.mono ?_
  rintro e w3 ⟨rfl, h3, s3⟩
  have S3 := Lib.hid (S2.out.trans s3 (fun i hi => .inl (.inl hi)))
  have H3 := Lib.hid h3
  clear h3 s3
  go_wp2
  go_end0
  exact ⟨rfl, ⟨_, _, H3.out⟩, S3.out⟩

/-! ### Read -/
theorem DAt.look_ok (h : DAt b g cap m B a s cur D w) {n : Int} (hn : I64 n) :
    (Instr.lookup 66 (.map (some m)) (.int .i64 n) true).run Try.prog w = .ok (.tuple #[match seek n s.loose 0 with
      | some z => .agg #[.int .i64 z.1, .string z.2]
      | none => .agg #[.int .i64 0, .string none0], .bool (seek n s.loose 0).isSome]) w := by
  obtain ⟨v, ps, hrun, hv⟩ := h.loose.own.look_ok lawM Try.underlying66 (zeroM w) wrElem_zero (key_of hn)
  rw [hrun, h.loose.reads.has n]
  rw [h.loose.reads n] at hv
  cases hs : seek n s.loose 0 with
  | none =>
    rw [hs] at hv
    have := wrElem_is (z := (0, none0)) hv
    subst this
    rfl
  | some z =>
    rw [hs] at hv
    have := wrElem_is hv
    subst this
    rfl
theorem DAt.alloc (h : DAt b g cap m B a s cur D w) (o : Obj) : DAt b g cap m B a s cur D (w.alloc o) := h.below ((Below.refl _ w).alloc (Nat.le_refl _) o)

set_option maxRecDepth 100000 in
theorem read_at (h : DAt b g cap m B a s cur D w) (hk : s.Ok) (n : Int) (hn : I64 n) :
    Calls Try.prog 39 #[.pointer (some ⟨b, 0, none⟩), .int .i64 n] w fun e w' => e = .returned (.tuple #[.string (s.readS n), .int .i64 (s.readE n)]) ∧ Below w.heap.size w w' := by
  have C1 := find_at h hk n hn
  have C2 := isBad_at h n hn
  have hl := h.look_ok hn
  have c1 := DObj.c1 h.obj
  have hmay : s.may n = 0 → 0 ≤ n ∧ n < s.stay.length := fun e => (DS.may_ok e).2
  have HH := Lib.hid h
  unfold DS.readS DS.readE
  by_cases hm : s.may n = 0
  · rw [hm] at C1
    obtain ⟨h0, h1⟩ := hmay hm
    cases hb : s.bad n with
    | true =>
      rw [hb] at C2
      simp only [hm, ne_eq, not_true, if_false, if_true]
      clear h hl hm hmay c1
      go_enter Try.func39, Try.ntmps39
      go_wp2_with fail
      refine C1.mono ?_
      rintro e w' ⟨rfl, rfl⟩
      go_wp2_with fail
      refine C2.mono ?_
      rintro e w' ⟨rfl, rfl⟩
      go_wp2
      go_ret2
      exact ⟨rfl, Below.refl _ _⟩
    | false =>
      rw [hb] at C2
      simp only [hm, ne_eq, not_true, if_false, DS.look]
      cases hs : seek n s.loose 0 with
      | some z =>
        rw [hs] at hl
        simp only [Option.isSome] at hl
        obtain ⟨p, x⟩ := z
        have hB : Below w.heap.size w (w.alloc (.cells #[.int .i64 p, .string x] 93)) := (Below.refl _ w).alloc (Nat.le_refl _) _
        have HB := Lib.hid hB
        clear h hm hmay hB hs
        go_enter Try.func39, Try.ntmps39
        go_wp2_with fail
        refine C1.mono ?_
        rintro e w' ⟨rfl, rfl⟩
        go_wp2_with fail
        refine C2.mono ?_
        rintro e w' ⟨rfl, rfl⟩
        go_wp2
        go_ret2
        exact ⟨rfl, HB.out⟩
      | none =>
        rw [hs] at hl
        simp only [Option.isSome] at hl
        obtain ⟨k, rfl⟩ := Int.eq_ofNat_of_zero_le h0
        have hB : Below w.heap.size w (w.alloc (.cells #[.int .i64 0, .string none0] 93)) := (Below.refl _ w).alloc (Nat.le_refl _) _
        have HB := Lib.hid hB
        have h2 := h.alloc (.cells #[.int .i64 0, .string none0] 93)
        have hk1 : k < s.stay.length := by omega
        have C3 := sector_at h2 hk k hk1
        have hcv := h2.row.conv (o := 64 * k) (n := 64) (c := cap - 64 * k) (by rw [length_flat hk.sz]; omega)
        rw [flat_at hk.sz k hk1] at hcv
        have e1 : s.stay.getD (k : Int).toNat none0 = s.stay[k] := by simp [hk1]
        rw [e1]
        generalize s.stay[k] = x at hcv ⊢
        have e2 : (⟨x.data.toList.toArray⟩ : ByteArray) = x := ByteArray.ext (by simp)
        rw [e2] at hcv
        clear h hm hmay hB hs h2 e1 e2 h0 h1
        go_enter Try.func39, Try.ntmps39
        go_wp2_with fail
        refine C1.mono ?_
        rintro e w' ⟨rfl, rfl⟩
        go_wp2_with fail
        refine C2.mono ?_
        rintro e w' ⟨rfl, rfl⟩
        go_wp2_with fail
        refine C3.mono ?_
        rintro e w' ⟨rfl, rfl⟩
        go_wp2
        go_ret2
        exact ⟨rfl, HB.out⟩
  · simp only [hm, ne_eq, not_false_eq_true, if_true, if_false]
    have hne : (s.may n == 0) = false := beq_eq_false_iff_ne.2 hm
    generalize s.may n = E at C1 hm hne ⊢
    clear h hl hmay c1 C2 hm
    go_enter Try.func39, Try.ntmps39
    go_wp2_with fail
    refine C1.mono ?_
    rintro e w' ⟨rfl, rfl⟩
    go_wp2
    go_ret2
    exact ⟨rfl, Below.refl _ _⟩
end
end Go.Proofs.Ytmbknpipefbelaa
