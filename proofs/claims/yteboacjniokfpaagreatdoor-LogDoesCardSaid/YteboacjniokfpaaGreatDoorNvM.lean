/-
  A law's logs: laid; the same texts.
-/
import Derived.Test.YteboacjniokfpaaGreatDoorNvL
import Derived.Test.YteboacjniokfpaaGreatDoorMC
namespace Go.Proofs.YteboacjniokfpaaGreatDoor
open Go.RowKit Go Go.Maps SM

theorem results_tmp5 {fn : Func} {t u v x y : Tmp} (h : fn.results = #[.tmp t, .tmp u, .tmp v, .tmp x, .tmp y]) (tmps : Array Value) (P : Program) (w : World) :
    (results fn tmps).run P w = .ok (.tuple #[tmps.getD t undef, tmps.getD u undef, tmps.getD v undef, tmps.getD x undef, tmps.getD y undef]) w := by
  simp [results, h]
theorem ref_new {w w' : World} {r n : Nat} (h : RNew w r n w') : ∃ v0, RefAt r w.heap.size (fresh (blank n)) [] v0 (.slice none 0 0) (.slice none 0 0) ⟨#[]⟩ w' ∧ w.heap.size ≤ r ∧ Below w.heap.size w w' := by
  obtain ⟨hl, a, c, e1, e2, e3⟩ := h
  have hln : (blank n).length = n := by simp [blank]
  refine ⟨.slice a n c, ⟨e1, ?_, World.ownsRow_nil _ _ _ _, World.ownsRow_nil _ _ _ _, fun k => by simp [fresh], Nat.zero_le _, fun h => absurd rfl h, Nat.zero_le _, hl⟩, hl, e3⟩
  show w'.ownsRow w.heap.size 9 1 (.slice a n c) (blank n).length (strVals (blank n))
  rw [hln]
  exact e2
section
variable {base b g m r q : Nat} {s : DS} {zs : List Int} {v v0 v1 v2 : Value} {kp : ByteArray} {x : LS} {l : Nat} {w w' : World}
theorem RefAt.lower {base' : Nat} (h : RefAt r base s zs v0 v1 v2 kp w) (hb : base' ≤ base) : RefAt r base' s zs v0 v1 v2 kp w :=
  ⟨h.obj, h.st.mono hb, h.lo.mono hb, h.ba.mono hb, h.bads, h.few, h.keep, h.kple, Nat.le_trans hb h.low⟩
theorem LIs.lower {base' : Nat} (h : LIs base l b g m v x w) (hb : base' ≤ base) : LIs base' l b g m v x w := ⟨⟨h.1.obj, h.1.row.mono hb, h.1.disk, h.1.far, h.1.le, h.1.gle⟩, h.2⟩
/-- the reference's disk does something -/
theorem LIs.ref {base2 : Nat} (h : LIs base l b g m v x w) (hr : RefAt r base2 s zs v0 v1 v2 kp w) (k : Stir (RF r v0) w w') : LIs base l b g m v x w' :=
  h.stay k (fun i hi e => by
    rcases e with rfl | e
    · exact h.1.not_cells hr.obj (by decide) (by decide) (by decide) hi
    · obtain ⟨C, hC⟩ := owns_block hr.st e
      exact h.1.not_cells hC (by decide) (by decide) (by decide) hi)

/-- what a law begins with: the two disks, the two logs -/
structure Laid (w : World) (b g m r : Nat) (n : Nat) (gen : Int) (a a2 : Value) (w' : World) : Prop where
  one : 1 ≤ n
  le : n ≤ 100
  log : (formE (fresh (blank n)) gen = 0 ∧ (∃ l v, a = .pointer (some ⟨l, 0, none⟩) ∧ w.heap.size ≤ l ∧ LIs w.heap.size l b g m v ⟨gen.toNat, [], false, formD (fresh (blank n)) gen⟩ w') ∧ ∃ q, a2 = .pointer (some ⟨q, 0, none⟩) ∧ w.heap.size ≤ q ∧ w'.heap[q]? = some (RLO r gen.toNat (.slice none 0 0) false)) ∨ (formE (fresh (blank n)) gen ≠ 0 ∧ a = .pointer none ∧ a2 = .pointer none)
  disk : DiskAt b g m (formD (fresh (blank n)) gen) w'
  ref : ∃ zs v0 v1 v2 kp, zs.length ≤ 0 ∧ RefAt r w.heap.size (formD (fresh (blank n)) gen) zs v0 v1 v2 kp w'
  over : Over w.heap.size b g m
  low : w.heap.size ≤ r
  below : Below w.heap.size w w'
set_option maxRecDepth 100000 in
set_option maxHeartbeats 2000000 in
theorem laid_log (z gen : Int) (_hz : I64 z) (hg : I64 gen) (w : World) :
    Calls Tryz.prog 6 #[.int .i64 z, .int .i64 gen] w fun e w' => ∃ b g m r n a a2, e = .returned (.tuple #[.pointer (some ⟨b, 0, none⟩), a, .pointer (some ⟨r, 0, none⟩), a2, .bool true]) ∧ Laid w b g m r n gen a a2 w' ∧ (n : Int) = max 1 (min z 100) := by
  obtain ⟨P, Q, ⟨a1, a2, a3⟩, ⟨b1, b2, b3⟩, h5, h6⟩ := clamp z 1 100 (by omega)
  have hcl : Q = max 1 (min z 100) := by omega
  obtain ⟨n, rfl⟩ : ∃ n : Nat, Q = (n : Int) := ⟨Q.toNat, by omega⟩
  have hn1 : 1 ≤ n := by omega
  have hn2 : n ≤ 100 := by omega
  have C1 := fun w => new_yes n hn1 (by omega) w
  have C2 := fun w => rnew_yes n hn1 (by omega) w
  have C3 := fun b g m w (h : DiskAt b g m (fresh (blank n)) w) => format_any h (by show 0 < 900000000; omega) gen hg
  have hok := blank_ok hn1 (by omega)
  have C4 := fun r zs base v0 v1 v2 kp w (h : RefAt r base (fresh (blank n)) zs v0 v1 v2 kp w) => rformat_any h hok (by show 0 < 900000000; omega) gen hg
  obtain ⟨E, hE⟩ : ∃ E, formE (fresh (blank n)) gen = E := ⟨_, rfl⟩
  obtain ⟨D, hD⟩ : ∃ D, formD (fresh (blank n)) gen = D := ⟨_, rfl⟩
  rw [hE, hD] at C3 C4
  have HE := Lib.hid hE
  have HD := Lib.hid hD
  have HN := Lib.hid (And.intro hn1 hn2)
  have HCl := Lib.hid hcl
  clear hE hD hok hcl
  have RN := fun (w w' : World) (r : Nat) (h : RNew w r n w') => ref_new h
  generalize hs0 : fresh (blank n) = s0 at C1 C3 C4 RN
  have HS0 := Lib.hid hs0
  clear hs0
  go_enter Tryz.func6, Tryz.ntmps6
  go_wp2_with fail
  refine (C1 _).mono ?_
  rintro e w1 ⟨b, g, m, rfl, h1, ho, hB1⟩
  have H1 := Lib.hid h1
  have HO := Lib.hid (show Over w.heap.size b g m from ho)
  have HB1 := Lib.hid hB1
  clear h1 ho hB1 C1
  go_wp2_with fail
  refine (C2 _).mono ?_
  rintro e w2 ⟨r, rfl, hr⟩
  obtain ⟨v0, hr2, hlr, hB2⟩ := RN _ _ _ hr
  have HR2 := Lib.hid hr2
  have H2 := Lib.hid (H1.out.below hB2)
  have HB2 := Lib.hid (HB1.out.trans (hB2.mono HB1.out.size))
  have HLr := Lib.hid (Nat.le_trans HB1.out.size hlr)
  have HZ1 := Lib.hid HB1.out.size
  clear hr hr2 hlr hB2 C2
  go_wp2_with fail
  refine (C3 _ _ _ _ H2.out).mono ?_
  rintro e w3 ⟨a, rfl, hl3, h3, s3⟩
  have HL3 := Lib.hid hl3
  have H3 := Lib.hid h3
  have HR3 := Lib.hid (HR2.out.disk H2.out s3)
  have HB3 := Lib.hid (step_below HB2.out s3 HO.out HB2.out.size)
  clear hl3 h3 s3 C3
  have hap : ∃ p, a = .pointer p := by
    rcases HL3.out with ⟨_, l, v, e, _⟩ | ⟨_, e⟩ <;> exact ⟨_, e⟩
  obtain ⟨p, rfl⟩ := hap
  go_wp2_with fail
  refine (C4 _ _ _ _ _ _ _ _ HR3.out).mono ?_
  rintro e w4 ⟨a2, rfl, hl4, hr4, s4⟩
  have HL4 := Lib.hid hl4
  have HR4 := Lib.hid hr4
  have S4 := Lib.hid s4
  have H4 := Lib.hid (H3.out.stay s4 (fun i hi e => by
    rcases e with rfl | e
    · exact H3.out.not_cells HR3.out.obj (by decide) (by decide) hi
    · obtain ⟨C, hC⟩ := owns_block HR3.out.st e
      exact H3.out.not_cells hC (by decide) (by decide) hi))
  have HB4 := Lib.hid (HB3.out.trans (s4.below (B := w.heap.size) (fun k e => by
    rcases e with rfl | e
    · exact HLr.out
    · exact Nat.le_trans HZ1.out (HR3.out.st.lt k e).1) HB3.out.size))
  clear hl4 hr4 s4 C4
  have hap : ∃ p, a2 = .pointer p := by
    rcases HL4.out with ⟨_, q, e, _⟩ | ⟨_, e⟩ <;> exact ⟨_, e⟩
  obtain ⟨p2, rfl⟩ := hap
  have HFin := Lib.hid (show Laid w b g m r n gen (.pointer p) (.pointer p2) w4 from by
    refine ⟨HN.out.1, HN.out.2, ?_, by rw [HD.out]; exact H4.out, ?_, HO.out, HLr.out, HB4.out⟩
    · rw [HE.out, HD.out]
      rcases HL3.out with ⟨e, l, v, e1, e2, e3⟩ | ⟨e, e1⟩
      · left
        rcases HL4.out with ⟨_, q, f1, f2, f3⟩ | ⟨f, _⟩
        · exact ⟨e, ⟨l, v, e1, Nat.le_trans HB2.out.size e2, (e3.ref HR3.out S4.out).lower HB2.out.size⟩, q, f1, Nat.le_trans HB3.out.size f2, f3⟩
        · exact absurd e f
      · right
        rcases HL4.out with ⟨f, _⟩ | ⟨_, f1⟩
        · exact absurd f e
        · exact ⟨e, e1, f1⟩
    · rw [HD.out]
      obtain ⟨v1', kp', h⟩ := HR4.out
      exact ⟨_, _, _, _, _, Nat.le_refl _, h.lower HZ1.out⟩)
  have hpp : (p = none ∧ p2 = none) ∨ (∃ l q, p = some ⟨l, 0, none⟩ ∧ p2 = some ⟨q, 0, none⟩) := by
    rcases HFin.out.log with ⟨_, ⟨l, v, e1, _⟩, q, e2, _⟩ | ⟨_, e1, e2⟩
    · right; injection e1 with e1; injection e2 with e2; exact ⟨l, q, e1, e2⟩
    · left; injection e1 with e1; injection e2 with e2; exact ⟨e1, e2⟩
  rcases hpp with ⟨rfl, rfl⟩ | ⟨l, q, rfl, rfl⟩
  · go_wp2
    (try simp only [Exit.inBlock, Exit.then])
    refine bodyPost_ret (results_tmp5 rfl _ _ _) rfl ?_
    exact ⟨b, g, m, r, n, _, _, rfl, HFin.out, HCl.out⟩
  · go_wp2
    (try simp only [Exit.inBlock, Exit.then])
    refine bodyPost_ret (results_tmp5 rfl _ _ _) rfl ?_
    exact ⟨b, g, m, r, n, _, _, rfl, HFin.out, HCl.out⟩

/-! ### the same texts -/
/-- a slice of texts at a world -/
def TextsAt (W : World) (v : Value) (l : List ByteArray) : Prop :=
  ∃ a cap, v = .slice a l.length cap ∧ (l ≠ [] → ∃ b off, a = some ⟨b, off, none⟩ ∧ ∀ j (h : j < l.length), W.cell? ⟨b, off + j, none⟩ = some (.string l[j]))
theorem texts_of_row {W : World} {base : Nat} {v : Value} {l : List ByteArray} (h : W.ownsRow base 9 1 v l.length (strVals l)) : TextsAt W v l := by
  rcases h.2 with ⟨rfl, h0⟩ | ⟨g, cap, cur, rfl, _, hg, h4, h5, h6, h7⟩
  · exact ⟨none, 0, by rw [h0], fun hne => absurd (List.eq_nil_of_length_eq_zero h0) hne⟩
  · refine ⟨_, cap, rfl, fun _ => ⟨g, 0, rfl, fun i hi => ?_⟩⟩
    have := h.cellAt (g := g) (cap := cap) i (by omega)
    rw [Nat.zero_add, this]
    simp [strVals, hi]
theorem lt_of_cell {W : World} {a : Addr} {v : Value} (h : W.cell? a = some v) : a.block < W.heap.size := by
  rcases Nat.lt_or_ge a.block W.heap.size with h' | h'
  · exact h'
  · simp [World.cell?, Array.getElem?_eq_none h'] at h
theorem text_ne {a b : ByteArray} (h : a ≠ b) : (a.toList == b.toList) = false ∧ (a.toList != b.toList) = true := texts_ne h
set_option maxRecDepth 100000 in
set_option maxHeartbeats 1000000 in
theorem rsame_any {x y : Value} {A B : List ByteArray} {w : World} (hx : TextsAt w x A) (hy : TextsAt w y B) (hA : A.length ≤ 9223372036854775806) (hB : B.length ≤ 9223372036854775807) :
    Calls Tryz.prog 33 #[x, y] w fun e w' => e = .returned (.bool (decide (A = B))) ∧ Below w.heap.size w w' := by
  obtain ⟨a, ca, rfl, ha⟩ := hx
  obtain ⟨b, cb, rfl, hb⟩ := hy
  by_cases hl : A.length = B.length
  · have HA := Lib.hid ha
    have HB := Lib.hid hb
    have HL := Lib.hid hl
    have hlb : ((A.length : Int) != (B.length : Int)) = false := by rw [hl]; simp
    clear ha hb hl
    go_enter Tryz.func33, Tryz.ntmps33
    go_wp2
    go_loopw [5] (fun i wr => ∃ j : Nat, j ≤ A.length ∧ i = .int .i64 j ∧ Hid (A.take j = B.take j) ∧ Below w.heap.size w wr) (fun i _ => A.length - (intOf i).toNat)
    case atStart => exact ⟨0, Nat.zero_le _, rfl, Lib.hid (by simp), Below.refl _ _⟩
    case round =>
      obtain ⟨j, hj, rfl, HT, hBw⟩ := hrel
      have HBw := Lib.hid hBw
      by_cases hlt : j < A.length
      · have hlt2 : j < B.length := by rw [← HL.out]; exact hlt
        obtain ⟨ba, oa, rfl, hca⟩ := HA.out (by rintro rfl; simp at hlt)
        obtain ⟨bb, ob, rfl, hcb⟩ := HB.out (by rintro rfl; simp at hlt2)
        have hc1 : wr.cell? ⟨ba, oa + j, none⟩ = some (.string A[j]) := (hBw.cell (p := ⟨ba, oa + j, none⟩) (lt_of_cell (hca j hlt))).trans (hca j hlt)
        have hc2 : wr.cell? ⟨bb, ob + j, none⟩ = some (.string B[j]) := (hBw.cell (p := ⟨bb, ob + j, none⟩) (lt_of_cell (hcb j hlt2))).trans (hcb j hlt2)
        have hji : (j : Int) < (A.length : Int) := by omega
        have hjb : (j : Int) < (B.length : Int) := by omega
        have HTn := Lib.hid (fun (e : A[j] = B[j]) => show A.take (j + 1) = B.take (j + 1) by rw [List.take_succ_eq_append_getElem hlt, List.take_succ_eq_append_getElem hlt2, HT.out, e])
        have HNe := Lib.hid (fun (e : A[j] ≠ B[j]) => show A ≠ B from fun e2 => e (by subst e2; rfl))
        generalize A[j] = X at *
        generalize B[j] = Y at *
        clear hca hcb hBw
        by_cases hXY : X = Y
        · subst hXY
          have HTn' := Lib.hid (HTn.out rfl)
          have hE : (X.toList == X.toList) = true := by simp
          have hE2 : (X.toList != X.toList) = false := by simp
          clear HTn HNe
          go_wp2
          go_quiet (fail)
          go_wp2
          go_roundw
          case rel => exact ⟨j + 1, by omega, by go_num, HTn', below_drewN HBw.out _⟩
          case measure => simp [intOf]; omega
        · obtain ⟨hE, hE2⟩ := texts_ne hXY
          have HX := Lib.hid (show decide (A = B) = false from decide_eq_false (HNe.out hXY))
          clear HTn HNe hXY
          go_wp2
          go_quiet (fail)
          go_wp2
          go_ret
          exact ⟨by rw [HX.out]; rfl, below_drewN HBw.out _⟩
      · have HX := Lib.hid (show decide (A = B) = true from decide_eq_true (by
          have h := HT.out
          have hj1 : j = A.length := by omega
          rw [hj1, List.take_length, HL.out, List.take_length] at h
          exact h))
        have hji : ¬ (j : Int) < (A.length : Int) := by omega
        clear hBw
        go_wp2
        go_ret
        exact ⟨by rw [HX.out]; rfl, HBw.out⟩
  · have hlb : ((A.length : Int) != (B.length : Int)) = true := by
      rw [bne_iff_ne]; omega
    have HX := Lib.hid (show decide (A = B) = false from decide_eq_false (fun e => hl (by rw [e])))
    rw [HX.out]
    clear ha hb hl
    go_enter Tryz.func33, Tryz.ntmps33
    go_wp2
    go_ret
    exact ⟨rfl, Below.refl _ _⟩
end
end Go.Proofs.YteboacjniokfpaaGreatDoor

