/-
  A log: Records, Format, load, Open.
-/
import Derived.Test.YtmbknpipefbelaaNvH
namespace Go.Proofs.Ytmbknpipefbelaa
open Go.RowKit Go Go.Maps SM

theorem step_append_text {P : Program} (w : World) {ops : Array Oper} {o : Oper} {a : Act} {K : Act → World → Prop} {Q : Exit → Act → World → Prop} {E : Prop} (hgd : o.guard = none) (sl x : Operand) (t u : TypeId)
    (ho : o.op = .call { callee := .builtin .append, args := #[sl, x], argTypes := #[t, u] })
    (base : Nat) (e : TypeId) (i : TypeInfo) (ht : P.underlying t = some (.slice e)) (hu : P.underlying u = some .string) (hi : P.info? e = some i) (hz : i.zero = some (.int .u8 0))
    (hsize : i.size = 1) (hby : i.bytes = 1)
    (v : Value) (n : Nat) (xs : List Value) (hs : a.eval sl = v) (hown : w.ownsRow base e 1 v n xs) (s : ByteArray) (hx : a.eval x = .string s)
    (h63 : n + s.size ≤ maxLen) (hbytes : n + s.size ≤ 140737488355328) (hbase : base ≤ w.heap.size)
    (h : ∀ v' w', w'.ownsRow base e 1 v' (n + s.size) (xs ++ Lib.strCells s) → w.grownBy w' v.ownBlock → (v'.ownBlock = v.ownBlock ∨ v'.ownBlock = some w.heap.size) → K (a.put o.dst v') w') :
    if Region.wanted o (yielded ops a.tmps) = true then Oper.wp P o a w K Q else E := by
  have hw : Region.wanted o (yielded ops a.tmps) = true := by simp [Region.wanted, hgd]
  rw [if_pos hw]
  obtain ⟨v', w', hr, h2, h3, h4, _⟩ := run_append_text (P := P) w base t u o.type e i ht hu hi hz hsize hby v n xs hown s h63 hbytes hbase
  unfold Oper.wp execOp
  simp only [ho, resolve, invoke, builtin, Sem.run_bind, Sem.run_pure, Result.andThen_ok, List.map_toArray, List.map_cons, List.map_nil, hs, hx, hr]
  exact h v' w' h2 h3 h4

section
variable {base l b g m gen : Nat} {v : Value} {x : LS} {s : DS} {w w' : World}
/-! ### Records -/
theorem records_any (h : LIs base l b g m v x w) :
    Calls Try.prog 16 #[.pointer (some ⟨l, 0, none⟩)] w fun e w' => ∃ u, e = .returned u ∧ w'.ownsRow w.heap.size 9 1 u x.recs.length (strVals x.recs) ∧ Below w.heap.size w w' := by
  have c2 := LObj.c2 h.1.obj
  have C := split_any (rest_of_row h.1.row) (by have := h.1.len; omega)
  have HR := Lib.hid (recsOf_recB h.2)
  obtain ⟨a, c, rfl⟩ := row_shape h.1.row
  clear h
  go_enter Try.func16, Try.ntmps16
  go_wp2_with fail
  refine C.mono ?_
  rintro e w1 ⟨r, rfl, hs, hB⟩
  unfold SplitV at hs
  rw [HR.out] at hs
  obtain ⟨u, rfl, ho⟩ := hs
  have HO := Lib.hid ho
  have HB := Lib.hid hB
  obtain ⟨a2, c2', rfl⟩ := row_shape ho
  clear ho hB C
  go_wp2
  go_ret
  exact ⟨_, rfl, HO.out, HB.out⟩

/-! ### Format -/
def formE (s : DS) (n : Int) : Int := if s.stay.length < 5 ∨ n < 0 ∨ 1099511627776 < n then 70 else (heads n.toNat 0 s).1
def formD (s : DS) (n : Int) : DS := if s.stay.length < 5 ∨ n < 0 ∨ 1099511627776 < n then s else (heads n.toNat 0 s).2
/-- a new log, or none -/
def NewLog (base b g m : Nat) (a : Value) (E : Int) (x : LS) (w w' : World) : Prop := (E = 0 ∧ ∃ l v, a = .pointer (some ⟨l, 0, none⟩) ∧ w.heap.size ≤ l ∧ LIs base l b g m v x w') ∨ (E ≠ 0 ∧ a = .pointer none)
set_option maxRecDepth 100000 in
theorem format_any (h : DiskAt b g m s w) (hm : s.made < 900000000) (n : Int) (hn : I64 n) :
    Calls Try.prog 30 #[.pointer (some ⟨b, 0, none⟩), .int .i64 n] w fun e w' => ∃ a, e = .returned (.tuple #[a, .int .i64 (formE s n)]) ∧ NewLog w.heap.size b g m a (formE s n) ⟨n.toNat, [], false, formD s n⟩ w w' ∧ DiskAt b g m (formD s n) w' ∧ Stir (Foot b g m) w w' := by
  have C1 := sectors_any h
  have HD := Lib.hid h
  obtain ⟨E, hE⟩ : ∃ E, formE s n = E := ⟨_, rfl⟩
  obtain ⟨D, hD⟩ : ∃ D, formD s n = D := ⟨_, rfl⟩
  rw [hE, hD]
  have hle := h.1.le
  by_cases hbad : s.stay.length < 5 ∨ n < 0 ∨ 1099511627776 < n
  · obtain rfl : 70 = E := by rw [← hE, formE, if_pos hbad]
    obtain rfl : s = D := by rw [← hD, formD, if_pos hbad]
    generalize s.stay.length = N at C1 hbad hle
    clear h hE hD
    have h3 : N < 5 ∨ (¬ N < 5 ∧ n < 0) ∨ (¬ N < 5 ∧ ¬ n < 0 ∧ 1099511627776 < n) := by omega
    clear hbad
    rcases h3 with h3 | ⟨h3, h4⟩ | ⟨h3, h4, h5⟩
    all_goals (
      go_enter Try.func30, Try.ntmps30
      go_wp2_with fail
      refine C1.mono ?_
      rintro e w' ⟨rfl, rfl⟩
      go_wp2
      go_ret2
      exact ⟨_, rfl, .inr ⟨by decide, rfl⟩, HD.out, Stir.refl _ _⟩)
  · have h3 : ¬ (s.stay.length : Int) < 5 ∧ ¬ n < 0 ∧ ¬ 1099511627776 < n := by omega
    obtain ⟨h3, h4, h5⟩ := h3
    have hE' : E = (heads n.toNat 0 s).1 := by rw [← hE, formE, if_neg hbad]
    have hD' : D = (heads n.toNat 0 s).2 := by rw [← hD, formD, if_neg hbad]
    have hlk := (len_heads n.toNat 0 s).1
    obtain ⟨N, hN⟩ : ∃ N : Nat, n = (N : Int) := ⟨n.toNat, by omega⟩
    subst hN
    rw [Int.toNat_natCast] at hE' hD' hlk
    have C2 := fun w (h : DiskAt b g m s w) => say_any (gen := N) (used := 0) h (by omega) (by omega) (by omega)
    rw [← hE', ← hD'] at C2
    have hNle : N ≤ 1099511627776 := by omega
    generalize s.stay.length = M at C1 h3 hle
    clear h hE hD hE' hD' hbad hlk
    by_cases hE0 : E = 0
    · subst hE0
      go_enter Try.func30, Try.ntmps30
      go_wp2_with fail
      refine C1.mono ?_
      rintro e w' ⟨rfl, rfl⟩
      go_wp2_with fail
      refine (C2 _ HD.out).mono ?_
      rintro e w2 ⟨rfl, h2, s2⟩
      have hB3 : Below w2.heap.size w2 (w2.alloc (LObj b N (.slice none 0 0) false)) := (Below.refl _ w2).alloc (Nat.le_refl _) _
      have hl3 : LIs w.heap.size w2.heap.size b g m (.slice none 0 0) ⟨N, [], false, D⟩ (w2.alloc (LObj b N (.slice none 0 0) false)) :=
        ⟨⟨heap_alloc_new _ _, World.ownsRow_nil _ _ _ _, h2.below hB3, by simp [Value.ownBlock], Nat.zero_le _, hNle⟩, by simp⟩
      have HL3 := Lib.hid hl3
      have S3 := Lib.hid (s2.and_below hB3)
      have HZ := Lib.hid s2.size
      clear h2 s2 hB3 hl3 C1 C2
      go_wp2
      go_ret2
      exact ⟨_, rfl, .inl ⟨rfl, _, _, rfl, HZ.out, HL3.out⟩, HL3.out.1.disk, S3.out⟩
    · have hEb : (E != 0) = true := by simpa using hE0
      have HE0 := Lib.hid hE0
      clear hE0
      go_enter Try.func30, Try.ntmps30
      go_wp2_with fail
      refine C1.mono ?_
      rintro e w' ⟨rfl, rfl⟩
      go_wp2_with fail
      refine (C2 _ HD.out).mono ?_
      rintro e w2 ⟨rfl, h2, s2⟩
      have H2 := Lib.hid h2
      have S2 := Lib.hid s2
      clear h2 s2 C1 C2
      go_wp2
      go_ret2
      exact ⟨_, rfl, .inr ⟨HE0.out, rfl⟩, H2.out, S2.out⟩
end
end Go.Proofs.Ytmbknpipefbelaa
