/-
  A map's planes as a value; Diff, Clone, Used, Free.
-/
import Derived.Test.YteboacjniokfpaaDoorPlnA
import Derived.Deep.RegionHeld3
namespace Go.Proofs.YteboacjniokfpaaDoor
open Go.ChangeShapes Go.WideShapes Go.ChangeAt Go.RowKit Go SM PL

def planesL (f : Nat → List UInt8) : List Value := (List.range 8).map fun p => Value.string (bs (f p))
def aggV (f : Nat → List UInt8) : Value := .agg #[.string (bs (f 0)), .string (bs (f 1)), .string (bs (f 2)), .string (bs (f 3)), .string (bs (f 4)), .string (bs (f 5)), .string (bs (f 6)), .string (bs (f 7))]
section
variable {q n : Nat} {f : Nat → List UInt8} {w w' : World}
theorem planes_range (h : w.heap[q]? = some (MapO n f)) : w.rangeAt q 1 (planesL f) := fun j v hv => by
  have hj : j < 8 := by have := (List.getElem?_eq_some_iff.1 hv).1; simpa [planesL] using this
  have : v = .string (bs (f j)) := by
    obtain ⟨h1, h2⟩ := List.getElem?_eq_some_iff.1 hv
    rw [← h2]; simp [planesL]
  rw [this]
  exact MapO.cp h hj
theorem MapO.eight (h : w.heap[q]? = some (MapO n f)) : w.cell? ⟨q, 1, none⟩ = some (.string (bs (f 0))) ∧ w.cell? ⟨q, 2, none⟩ = some (.string (bs (f 1))) ∧ w.cell? ⟨q, 3, none⟩ = some (.string (bs (f 2))) ∧ w.cell? ⟨q, 4, none⟩ = some (.string (bs (f 3))) ∧
    w.cell? ⟨q, 5, none⟩ = some (.string (bs (f 4))) ∧ w.cell? ⟨q, 6, none⟩ = some (.string (bs (f 5))) ∧ w.cell? ⟨q, 7, none⟩ = some (.string (bs (f 6))) ∧ w.cell? ⟨q, 8, none⟩ = some (.string (bs (f 7))) :=
  ⟨MapO.cp h (p := 0) (by omega), MapO.cp h (p := 1) (by omega), MapO.cp h (p := 2) (by omega), MapO.cp h (p := 3) (by omega), MapO.cp h (p := 4) (by omega), MapO.cp h (p := 5) (by omega), MapO.cp h (p := 6) (by omega), MapO.cp h (p := 7) (by omega)⟩
theorem load_planes (h : w.heap[q]? = some (MapO n f)) : (Instr.loadAt 54 (.pointer (some ⟨q, 1, none⟩))).run Tryd.prog w = .ok (aggV f) w :=
  run_loadAt_mid w q 1 54 (planesL f) _ (planes_range h) Tryd.underlying54 rfl (by kernel_rfl)
theorem index_lit (W : World) (a b c d e f g h : Value) :
    (Instr.index 54 (.agg #[a, b, c, d, e, f, g, h]) (.int .i64 0)).run Tryd.prog W = .ok a W ∧ (Instr.index 54 (.agg #[a, b, c, d, e, f, g, h]) (.int .i64 1)).run Tryd.prog W = .ok b W ∧
    (Instr.index 54 (.agg #[a, b, c, d, e, f, g, h]) (.int .i64 2)).run Tryd.prog W = .ok c W ∧ (Instr.index 54 (.agg #[a, b, c, d, e, f, g, h]) (.int .i64 3)).run Tryd.prog W = .ok d W ∧
    (Instr.index 54 (.agg #[a, b, c, d, e, f, g, h]) (.int .i64 4)).run Tryd.prog W = .ok e W ∧ (Instr.index 54 (.agg #[a, b, c, d, e, f, g, h]) (.int .i64 5)).run Tryd.prog W = .ok f W ∧
    (Instr.index 54 (.agg #[a, b, c, d, e, f, g, h]) (.int .i64 6)).run Tryd.prog W = .ok g W ∧ (Instr.index 54 (.agg #[a, b, c, d, e, f, g, h]) (.int .i64 7)).run Tryd.prog W = .ok h W :=
  ⟨by kernel_rfl, by kernel_rfl, by kernel_rfl, by kernel_rfl, by kernel_rfl, by kernel_rfl, by kernel_rfl, by kernel_rfl⟩
theorem index_planes (f : Nat → List UInt8) {p : Nat} (hp : p < 8) (W : World) : (Instr.index 54 (aggV f) (.int .i64 p)).run Tryd.prog W = .ok (.string (bs (f p))) W := by
  obtain ⟨h0, h1, h2, h3, h4, h5, h6, h7⟩ := index_lit W (.string (bs (f 0))) (.string (bs (f 1))) (.string (bs (f 2))) (.string (bs (f 3))) (.string (bs (f 4))) (.string (bs (f 5))) (.string (bs (f 6))) (.string (bs (f 7)))
  match p, hp with
  | 0, _ => exact h0
  | 1, _ => exact h1
  | 2, _ => exact h2
  | 3, _ => exact h3
  | 4, _ => exact h4
  | 5, _ => exact h5
  | 6, _ => exact h6
  | 7, _ => exact h7
theorem build_lit (W : World) (i a b c d e f g h : Value) (n : Int) (hi : i = .int .i64 n) : (Instr.build 56 #[(0, i), (1, .agg #[a, b, c, d, e, f, g, h])]).run Tryd.prog W = .ok (.agg #[i, a, b, c, d, e, f, g, h]) W := by
  subst hi; kernel_rfl
theorem build_planes (n : Nat) (f : Nat → List UInt8) (W : World) : (Instr.build 56 #[(0, .int .i64 n), (1, aggV f)]).run Tryd.prog W = .ok (.agg (mapCells n f).toArray) W :=
  build_lit W (.int .i64 n) (.string (bs (f 0))) (.string (bs (f 1))) (.string (bs (f 2))) (.string (bs (f 3))) (.string (bs (f 4))) (.string (bs (f 5))) (.string (bs (f 6))) (.string (bs (f 7))) n rfl
theorem box_lit (W : World) (i a b c d e f g h : Value) : (Instr.box 56 (.agg #[i, a, b, c, d, e, f, g, h])).run Tryd.prog W = .ok (.pointer (some ⟨W.heap.size, 0, none⟩)) (W.alloc (.cells #[i, a, b, c, d, e, f, g, h] 56 (0, 0))) := by kernel_rfl
theorem box_planes (n : Nat) (f : Nat → List UInt8) (W : World) : (Instr.box 56 (.agg (mapCells n f).toArray)).run Tryd.prog W = .ok (.pointer (some ⟨W.heap.size, 0, none⟩)) (W.alloc (MapO n f)) :=
  box_lit W (.int .i64 n) (.string (bs (f 0))) (.string (bs (f 1))) (.string (bs (f 2))) (.string (bs (f 3))) (.string (bs (f 4))) (.string (bs (f 5))) (.string (bs (f 6))) (.string (bs (f 7)))
end

theorem subB_bs (a b : List UInt8) : subB (bs a) (bs b) = bs (mk bsub a b) := by unfold subB; rw [bs_list, bs_list]
theorem orB_bs (a b : List UInt8) : orB (bs a) (bs b) = bs (mk bor a b) := by unfold orB; rw [bs_list, bs_list]
theorem andB_bs (a b : List UInt8) : andB (bs a) (bs b) = bs (mk band a b) := by unfold andB; rw [bs_list, bs_list]
theorem cntB_bs (a : List UInt8) : cntB (bs a) = cnt a := by unfold cntB; rw [bs_list]

def diffV (f : Nat → List UInt8) (p t : Int) : Value := if isP p && isP t then .tuple #[.string (bs (mk bsub (f t.toNat) (f p.toNat))), .string (bs (mk bsub (f p.toNat) (f t.toNat))), .int .i64 0] else .tuple #[.string ⟨#[]⟩, .string ⟨#[]⟩, .int .i64 91]
set_option maxRecDepth 100000 in
theorem diff_any (q n : Nat) (f : Nat → List UInt8) (p t : Int) (h1 : -9223372036854775808 ≤ p) (h2 : p ≤ 9223372036854775807) (h3 : -9223372036854775808 ≤ t) (h4 : t ≤ 9223372036854775807) (w : World) (h : MapAt q n f w) :
    Calls Tryd.prog 22 #[.pointer (some ⟨q, 0, none⟩), .int .i64 p, .int .i64 t] w fun e w' => e = .returned (diffV f p t) ∧ Below w.heap.size w w' := by
  have C1 := mhas_any (.pointer (some ⟨q, 0, none⟩)) p h1 h2 w
  have C2 := mhas_any (.pointer (some ⟨q, 0, none⟩)) t h3 h4 w
  unfold diffV
  cases hp : isP p with
  | false =>
    rw [hp] at C1
    simp only [Bool.false_and, Bool.false_eq_true, if_false]
    go_enter Tryd.func22, Tryd.ntmps22
    go_wp2_with fail
    refine C1.mono ?_
    rintro e w1 ⟨rfl, rfl⟩
    go_wp2
    go_ret3
    exact ⟨rfl, Below.refl _ _⟩
  | true =>
    obtain ⟨k, rfl, hk⟩ := isP_yes hp
    rw [hp] at C1
    cases ht : isP t with
    | false =>
      rw [ht] at C2
      simp only [Bool.and_false, Bool.false_eq_true, if_false]
      go_enter Tryd.func22, Tryd.ntmps22
      go_wp2_with fail
      refine C1.mono ?_
      rintro e w1 ⟨rfl, rfl⟩
      go_wp2_with fail
      refine C2.mono ?_
      rintro e w1 ⟨rfl, rfl⟩
      go_wp2
      go_ret3
      exact ⟨rfl, Below.refl _ _⟩
    | true =>
      obtain ⟨j, rfl, hj⟩ := isP_yes ht
      rw [ht] at C2
      simp only [Bool.and_self, if_true, Int.toNat_natCast]
      have hk1 : (0 : Int) ≤ (k : Int) := by omega
      have hk2 : (k : Int) < 8 := by omega
      have hj1 : (0 : Int) ≤ (j : Int) := by omega
      have hj2 : (j : Int) < 8 := by omega
      have c := MapO.cp h.obj hk
      have d := MapO.cp h.obj hj
      have s1 := h.ok.len hk
      have s2 := h.ok.len hj
      have S1 := fun W => sub_b (bs (f j)) (bs (f k)) W (by rw [bs_size]; omega) (by rw [bs_size]; omega)
      have S2 := fun W => sub_b (bs (f k)) (bs (f j)) W (by rw [bs_size]; omega) (by rw [bs_size]; omega)
      rw [subB_bs] at S1 S2
      clear h s1 s2
      generalize mk bsub (f k) (f j) = X at *
      generalize mk bsub (f j) (f k) = Y at *
      generalize bs (f k) = A at *
      generalize bs (f j) = B at *
      generalize bs X = X at *
      generalize bs Y = Y at *
      go_enter Tryd.func22, Tryd.ntmps22
      go_wp2_with fail
      refine C1.mono ?_
      rintro e w1 ⟨rfl, rfl⟩
      go_wp2_with fail
      refine C2.mono ?_
      rintro e w1 ⟨rfl, rfl⟩
      go_wp2_with fail
      go_quiet (fail)
      go_wp2_with fail
      refine (S1 _).mono ?_
      rintro e w2 ⟨rfl, hB2⟩
      have HB2 := Lib.hid hB2
      clear hB2
      go_wp2_with fail
      refine (S2 _).mono ?_
      rintro e w3 ⟨rfl, hB3⟩
      have HB3 := Lib.hid hB3
      clear hB3
      go_wp2
      go_ret3
      exact ⟨rfl, (below_drewN (Below.refl _ _) _).trans (HB2.out.trans (HB3.out.mono HB2.out.size))⟩

theorem mclone_any (q n : Nat) (f : Nat → List UInt8) (w : World) (h : MapAt q n f w) :
    Calls Tryd.prog 24 #[.pointer (some ⟨q, 0, none⟩)] w fun e w' => ∃ q', e = .returned (.pointer (some ⟨q', 0, none⟩)) ∧ MapAt q' n f w' ∧ w.heap.size ≤ q' ∧ Below w.heap.size w w' := by
  have c := MapO.c0 h.obj
  obtain ⟨d1, d2, d3, d4, d5, d6, d7, d8⟩ := MapO.eight h.obj
  have hok := h.ok
  clear h
  have HM := Lib.hid (heap_alloc_new w (MapO n f))
  go_enter Tryd.func24, Tryd.ntmps24
  go_wp2_with fail
  go_region
  all_goals (
    go_wp2
    go_ret
    exact ⟨w.heap.size, rfl, ⟨HM.out, hok⟩, Nat.le_refl _, ((Below.refl _ w).alloc (Nat.le_refl _) _).drew⟩)

/-! ### Used, Free -/
set_option maxRecDepth 100000 in
theorem used_any (q n : Nat) (f : Nat → List UInt8) (w : World) (h : MapAt q n f w) :
    Calls Tryd.prog 27 #[.pointer (some ⟨q, 0, none⟩)] w fun e w' => e = .returned (.string (bs (used f))) ∧ Below w.heap.size w w' := by
  obtain ⟨d1, d2, d3, d4, d5, d6, d7, d8⟩ := MapO.eight h.obj
  have X : ∀ p : Nat, p < 8 → ∀ W, _ := fun p hp W => index_planes f (p := p) hp W
  unfold aggV at X
  have hok := Lib.hid h.ok
  clear h
  go_enter Tryd.func27, Tryd.ntmps27
  go_wp2
  generalize bs (f 0) = s0 at *
  generalize bs (f 1) = s1 at *
  generalize bs (f 2) = s2 at *
  generalize bs (f 3) = s3 at *
  generalize bs (f 4) = s4 at *
  generalize bs (f 5) = s5 at *
  generalize bs (f 6) = s6 at *
  generalize bs (f 7) = s7 at *
  clear d1 d2 d3 d4 d5 d6 d7 d8
  go_loopw [3, 10] (fun u i wr => ∃ k : Nat, k ≤ 8 ∧ i = .int .i64 k ∧ u = .string (bs (usedN f k)) ∧ Below w.heap.size w wr) (fun _ i _ => 8 - (intOf i).toNat)
  case atStart => exact ⟨0, by omega, rfl, rfl, Below.refl _ _⟩
  case round =>
    obtain ⟨k, hk, rfl, rfl, hB⟩ := hrel
    by_cases hlt : k < 8
    · have hki : (k : Int) < 8 := by omega
      have x := X k hlt
      have l1 := len_usedN hok.out (k := k) hk
      have l2 := hok.out.len hlt
      have C := fun W => or_b (bs (usedN f k)) (bs (f k)) W (by rw [bs_size]; omega) (by rw [bs_size]; omega)
      rw [orB_bs, ← usedN_succ] at C
      have HB := Lib.hid hB
      clear X l1 l2 hB
      generalize bs (usedN f k) = U at *
      generalize bs (f k) = S at *
      obtain ⟨V, hV⟩ : ∃ V, bs (usedN f (k + 1)) = V := ⟨_, rfl⟩
      rw [hV] at C
      have HV := Lib.hid hV
      clear hV
      go_wp2_with fail
      refine (C _).mono ?_
      rintro e w2 ⟨rfl, hB2⟩
      have HB2 := Lib.hid (HB.out.trans (hB2.mono HB.out.size))
      clear hB2
      go_wp2
      go_roundw
      case rel => exact ⟨k + 1, by omega, by go_num, by rw [HV.out], HB2.out⟩
      case measure => simp [intOf]; omega
    · obtain rfl : k = 8 := by omega
      go_wp2
      go_ret
      exact ⟨rfl, hB⟩
theorem free_any (q n : Nat) (f : Nat → List UInt8) (w : World) (h : MapAt q n f w) :
    Calls Tryd.prog 29 #[.pointer (some ⟨q, 0, none⟩)] w fun e w' => e = .returned (.int .i64 (freeK f n n : Nat)) ∧ Below w.heap.size w w' := by
  have c0 := MapO.c0 h.obj
  have hf := free_eq h.ok
  have hl := len_usedN h.ok (Nat.le_refl 8)
  have hc := cnt_le (used f)
  have hi := h.ok.hi
  have C1 : ∀ W, MapAt q n f W → _ := fun W k => used_any q n f W k
  have C2 := fun W => cnt_b (bs (used f)) W (by rw [bs_size]; show (usedN f 8).length ≤ _; omega)
  rw [cntB_bs] at C2
  have hE : (n : Int) - 1 - (cnt (used f) : Int) = ((freeK f n n : Nat) : Int) := by omega
  generalize cnt (used f) = z at *
  generalize bs (used f) = U at *
  generalize freeK f n n = F at *
  have HH := Lib.hid h
  have k0 := wrapI ((n : Int) - 1) (by omega) (by omega)
  have k1 := wrapI ((n : Int) - 1 - (z : Int)) (by omega) (by omega)
  have HD : ∀ k : Nat, MapAt q n f (w.drewN k) := fun k => ⟨h.obj, h.ok⟩
  have HE := Lib.hid hE
  clear h hf hl hc hE
  go_enter Tryd.func29, Tryd.ntmps29
  go_wp2_with fail
  go_region_held3 (fun w' => w'.cell? ⟨q, 0, none⟩ = some (.int .i64 n)) (first | exact c0 | exact d0)
    (first | (go_at_call 27; refine (C1 _ HH.out.drew).mono ?_; rintro e w2 ⟨rfl, hB2⟩; have H2 := HH.out.drew.below hB2; have d0 := MapO.c0 H2.obj) | (go_at_call 34; refine (C2 _).mono ?_; rintro e w3 ⟨rfl, rfl⟩))
  all_goals (
    go_wp2
    go_ret
    exact ⟨by rw [← HE.out]; rfl, (Below.refl _ w).drew.trans hB2⟩)
end Go.Proofs.YteboacjniokfpaaDoor

