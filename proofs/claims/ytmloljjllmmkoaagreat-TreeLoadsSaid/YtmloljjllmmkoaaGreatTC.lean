/-
  TreA / TreB / TreC / TreD.
-/
import Derived.Test.YtmloljjllmmkoaaGreatTA
import Derived.Test.YtmloljjllmmkoaaGreatAX
import Derived.Test.YtmloljjllmmkoaaGreatBS
import Derived.Deep.AppendLies
import Derived.Deep.RegionHeld3
import Derived.Deep.RegionLaw
import Derived.Laws.OwnMore
namespace Go.Proofs.YtmloljjllmmkoaaGreat
open Go.RowKit Go Go.Maps SM TR

theorem sp_is : sp 0 = 240 ∧ sp 1 = 14400 ∧ sp 2 = 864000 ∧ sp 3 = 51840000 := by decide
theorem sp_le {l : Nat} (h : l ≤ 3) : sp l ≤ 51840000 := by
  obtain rfl | rfl | rfl | rfl : l = 0 ∨ l = 1 ∨ l = 2 ∨ l = 3 := by omega
  all_goals decide
set_option maxRecDepth 100000 in
theorem span_any (l : Nat) (hl : l ≤ 3) (w : World) :
    Calls Tryz.prog 75 #[.int .i64 l] w fun e w' => e = .returned (.int .i64 (sp l)) ∧ w = w' := by
  go_enter Tryz.func75, Tryz.ntmps75
  go_wp2
  go_loopw [3, 5] (fun b i wr => ∃ k : Nat, k ≤ l ∧ i = .int .i64 k ∧ b = .int .i64 (sp k) ∧ w = wr) (fun _ i _ => l - (intOf i).toNat)
  case atStart => exact ⟨0, Nat.zero_le _, rfl, rfl, rfl⟩
  case round =>
    obtain ⟨k, hk, rfl, rfl, rfl⟩ := hrel
    by_cases hlt : k < l
    · have hki : (k : Int) < (l : Int) := by omega
      have HS := Lib.hid (show sp (k + 1) = 60 * sp k from sp_succ k)
      have hle := sp_le (l := k) (by omega)
      generalize sp k = E at *
      go_wp2
      go_roundw
      case rel => exact ⟨k + 1, by omega, by go_num, by rw [HS.out]; go_num, trivial⟩
      case measure => simp [intOf]; omega
    · obtain rfl : k = l := by omega
      have hki : ¬ (k : Int) < (k : Int) := by omega
      go_wp2
      go_ret
      exact ⟨rfl, rfl⟩
theorem parts_any (n E : Nat) (hn : n ≤ 140737488355328) (h1 : 1 ≤ E) (hE : E ≤ 51840000) (w : World) :
    Calls Tryz.prog 74 #[.int .i64 n, .int .i64 E] w fun e w' => e = .returned (.int .i64 (pcs n E)) ∧ w = w' := by
  have h1i : (1 : Int) ≤ (E : Int) := by omega
  have hne : (E : Int) ≠ 0 := by omega
  have HQ2 := Lib.hid (show ((n : Int) + (E : Int) - 1) / (E : Int) = (pcs n E : Nat) by
    unfold pcs
    rw [show (n : Int) + (E : Int) - 1 = ((n + E - 1 : Nat) : Int) by omega, Int.natCast_ediv])
  go_enter Tryz.func74, Tryz.ntmps74
  go_wp2
  go_ret
  exact ⟨by show Ending.returned (.int .i64 (((n : Int) + (E : Int) - 1) / (E : Int))) = _; rw [HQ2.out], rfl⟩
theorem rows_at {k n : Nat} (hn : n ≤ 16384) (h0 : n ≠ 0) (hk : k ≤ 2) (h1 : ∀ j, j < k → sp j < n) (h2 : n ≤ sp k) : (rowsL n).length = k + 1 := by
  rw [rows_levels h0 hn]
  obtain ⟨s0, s1, s2, s3⟩ := sp_is
  obtain rfl | rfl | rfl : k = 0 ∨ k = 1 ∨ k = 2 := by omega
  · rw [s0] at h2
    rw [if_neg (by omega), if_neg (by omega)]
  · rw [s1] at h2
    have := h1 0 (by omega)
    rw [s0] at this
    rw [if_neg (by omega), if_pos (by omega)]
  · have := h1 1 (by omega)
    rw [s1] at this
    rw [if_pos (by omega)]
set_option maxRecDepth 100000 in
theorem rows_any (n : Nat) (hn : n ≤ 16384) (w : World) :
    Calls Tryz.prog 68 #[.int .i64 n] w fun e w' => e = .returned (.int .i64 (rowsL n).length) ∧ w = w' := by
  by_cases h0 : n = 0
  · subst h0
    have HL := Lib.hid (show (rowsL 0).length = 0 by rw [rowsL_nil.2 rfl]; rfl)
    go_enter Tryz.func68, Tryz.ntmps68
    go_wp2
    go_ret
    exact ⟨by rw [HL.out]; rfl, rfl⟩
  · have hnb : ((n : Int) == 0) = false := by simp; omega
    have H0 := Lib.hid h0
    clear h0
    have hni : (n : Int) ≤ 16384 := by omega
    go_enter Tryz.func68, Tryz.ntmps68
    go_wp2
    go_loopw [3] (fun b wr => ∃ k : Nat, k ≤ 2 ∧ b = .int .i64 k ∧ Hid (∀ j, j < k → sp j < n) ∧ w = wr) (fun b _ => 2 - (intOf b).toNat)
    case atStart => exact ⟨0, by omega, rfl, Lib.hid (fun j hj => by omega), rfl⟩
    case round =>
      obtain ⟨k, hk, rfl, HF, rfl⟩ := hrel
      have C := fun w => span_any k (by omega) w
      have HK := Lib.hid (show k = 2 → n ≤ sp k from fun e => by rw [e, sp_is.2.2.1]; omega)
      have hsp := sp_le (l := k) (by omega)
      by_cases hlt : sp k < n
      · have hki : ((sp k : Nat) : Int) < (n : Int) := by omega
        have HN := Lib.hid (show ∀ j, j < k + 1 → sp j < n from fun j hj => by
          by_cases e : j = k
          · rw [e]; exact hlt
          · exact HF.out j (by omega))
        have hk2 : k < 2 := by
          by_cases e : k = 2
          · have := HK.out e; omega
          · omega
        clear hlt
        generalize sp k = E at *
        go_wp2_with fail
        refine (C _).mono ?_
        rintro e w' ⟨rfl, rfl⟩
        go_wp2
        go_roundw
        case rel => exact ⟨k + 1, by omega, by go_num, HN, trivial⟩
        case measure => simp [intOf]; omega
      · have hki : ¬ ((sp k : Nat) : Int) < (n : Int) := by omega
        have HL := Lib.hid (show (rowsL n).length = k + 1 from rows_at hn H0.out hk HF.out (by omega))
        clear hlt HK
        generalize sp k = E at *
        go_wp2_with fail
        refine (C _).mono ?_
        rintro e w' ⟨rfl, rfl⟩
        go_wp2
        go_ret
        exact ⟨by rw [HL.out]; go_num, rfl⟩
theorem rows_get {n k : Nat} (hn : n ≤ 16384) (h : k < (rowsL n).length) : (rowsL n)[k] = pcs n (sp k) := by
  have h0 : n ≠ 0 := fun e => by subst e; rw [rowsL_nil.2 rfl] at h; simp at h
  obtain ⟨s0, s1, s2, s3⟩ := sp_is
  have hr := rows_is h0 hn
  have hl := rows_levels h0 hn
  by_cases h1 : n ≤ 240
  · rw [if_pos h1] at hr
    rw [if_neg (by omega), if_neg (by omega)] at hl
    obtain rfl : k = 0 := by omega
    simp only [hr, s0, List.getElem_cons_zero, pcs]
    omega
  · by_cases h2 : n ≤ 14400
    · rw [if_neg h1, if_pos h2] at hr
      rw [if_neg (by omega), if_pos (by omega)] at hl
      obtain rfl | rfl : k = 0 ∨ k = 1 := by omega
      · simp only [hr, s0, List.getElem_cons_zero, pcs, cuts]
        omega
      · simp only [hr, s1, List.getElem_cons_succ, List.getElem_cons_zero, pcs]
        omega
    · rw [if_neg h1, if_neg h2] at hr
      rw [if_pos (by omega)] at hl
      obtain rfl | rfl | rfl : k = 0 ∨ k = 1 ∨ k = 2 := by omega
      · simp only [hr, s0, List.getElem_cons_zero, pcs, cuts]
        omega
      · simp only [hr, s1, List.getElem_cons_succ, List.getElem_cons_zero, pcs]
        omega
      · simp only [hr, s2, List.getElem_cons_succ, List.getElem_cons_zero, pcs]
        omega
/-- what Shape answers -/
def shapeV (z : Int) : Value := if z < 0 ∨ 16384 < z then .tuple #[.int .i64 0, .int .i64 111] else .tuple #[.int .i64 (rowsL z.toNat).sum, .int .i64 0]
set_option maxRecDepth 100000 in
theorem shape_any (z : Int) (w : World) :
    Calls Tryz.prog 37 #[.int .i64 z] w fun e w' => e = .returned (shapeV z) ∧ w = w' := by
  unfold shapeV
  by_cases h1 : z < 0
  · rw [if_pos (.inl h1)]
    go_enter Tryz.func37, Tryz.ntmps37
    go_wp2
    go_ret2
    exact ⟨rfl, rfl⟩
  · by_cases h2 : 16384 < z
    · rw [if_pos (.inr h2)]
      go_enter Tryz.func37, Tryz.ntmps37
      go_wp2
      go_ret2
      exact ⟨rfl, rfl⟩
    · rw [if_neg (by omega)]
      obtain ⟨n, rfl⟩ : ∃ n : Nat, z = (n : Int) := ⟨z.toNat, by omega⟩
      rw [Int.toNat_natCast]
      have hn : n ≤ 16384 := by omega
      have C1 := fun w => rows_any n hn w
      obtain ⟨R, hR⟩ : ∃ R, rowsL n = R := ⟨_, rfl⟩
      have hlen : R.length ≤ 3 := by rw [← hR]; exact (rows_sum hn).2.2
      have hsum : R.sum ≤ 72 := by rw [← hR]; exact (rows_sum hn).1
      have HG := Lib.hid (show ∀ k (h : k < R.length), R[k] = pcs n (sp k) from fun k h => by subst hR; exact rows_get hn h)
      rw [hR] at C1 ⊢
      clear hR
      obtain ⟨m, hm⟩ : ∃ m, R.length = m := ⟨_, rfl⟩
      rw [hm] at C1 hlen
      have HM := Lib.hid hm
      obtain ⟨T, hT⟩ : ∃ T, R.sum = T := ⟨_, rfl⟩
      rw [hT] at hsum ⊢
      have HT0 := Lib.hid hT
      have HSum := Lib.hid hsum
      clear hm hsum hT
      go_enter Tryz.func37, Tryz.ntmps37
      go_wp2_with fail
      refine (C1 _).mono ?_
      rintro e w' ⟨rfl, rfl⟩
      go_wp2
      go_loopw [4, 14] (fun b i wr => ∃ k : Nat, k ≤ m ∧ i = .int .i64 k ∧ b = .int .i64 ((R.take k).sum : Nat) ∧ w = wr) (fun _ i _ => m - (intOf i).toNat)
      case atStart => exact ⟨0, Nat.zero_le _, rfl, rfl, rfl⟩
      case round =>
        obtain ⟨k, hk, rfl, rfl, rfl⟩ := hrel
        by_cases hlt : k < m
        · have hki : (k : Int) < (m : Int) := by omega
          have hkR : k < R.length := by rw [HM.out]; exact hlt
          have HS := Lib.hid (show (R.take (k + 1)).sum = (R.take k).sum + pcs n (sp k) by rw [List.take_succ_eq_append_getElem hkR, List.sum_append, HG.out k hkR]; simp)
          have hle : (R.take (k + 1)).sum ≤ 72 := by
            have h3 : (R.take (k + 1)).sum ≤ R.sum := by
              conv => rhs; rw [← List.take_append_drop (k + 1) R, List.sum_append]
              omega
            have := HSum.out
            have := HT0.out
            omega
          rw [HS.out] at hle
          have C2 := fun w => span_any k (by omega) w
          have C3 := fun w => parts_any n (sp k) (by omega) (sp_pos k) (sp_le (by omega)) w
          generalize (R.take k).sum = S at *
          generalize pcs n (sp k) = Q at *
          generalize sp k = E at *
          go_wp2_with fail
          refine (C2 _).mono ?_
          rintro e w' ⟨rfl, rfl⟩
          go_wp2_with fail
          refine (C3 _).mono ?_
          rintro e w' ⟨rfl, rfl⟩
          go_wp2
          go_roundw
          case rel => exact ⟨k + 1, by omega, by go_num, by rw [HS.out]; go_num, trivial⟩
          case measure => simp [intOf]; omega
        · obtain rfl : k = m := by omega
          have hki : ¬ (k : Int) < (k : Int) := by omega
          have HT := Lib.hid (show (R.take k).sum = T from by rw [List.take_of_length_le (by rw [HM.out]; omega)]; exact HT0.out)
          rw [HT.out]
          go_wp2
          go_ret2
          exact ⟨rfl, rfl⟩
end Go.Proofs.YtmloljjllmmkoaaGreat

namespace Go.Proofs.YtmloljjllmmkoaaGreat
open Go.RowKit Go Go.Maps SM TR

/-- a Builder stays -/
theorem isB_below {B b : Nat} {bs : List Value} {w w' : World} (h : Lib.IsBuilder 125 5 B b bs w) (hB : Below w.heap.size w w') : Lib.IsBuilder 125 5 B b bs w' := by
  have hkeep : ∀ p, Lib.BuilderAt 125 5 B b p bs w → Lib.BuilderAt 125 5 B b p bs w' := fun p hp => by
    obtain ⟨a1, u, a2, a3, a4⟩ := hp
    exact ⟨a1, u, keeps_of hB a2, owns_below a3 hB, a4⟩
  rcases h with h | h
  · exact .inl (hkeep _ h)
  · exact .inr (hkeep _ h)
theorem isB_more {B b : Nat} {l : List UInt8} {y : ByteArray} {w : World} (h : Lib.BuilderAt 125 5 B b (.pointer (some ⟨b, 0, none⟩)) (Lib.byteCells l ++ Lib.strCells y) w) : Lib.IsBuilder 125 5 B b (Lib.byteCells (l ++ y.data.toList)) w := by
  rw [Lib.strCells_eq] at h
  have e : Lib.byteCells (l ++ y.data.toList) = Lib.byteCells l ++ Lib.byteCells y.data.toList := by simp [Lib.byteCells]
  rw [e]
  exact .inr h
set_option maxRecDepth 100000 in
set_option maxHeartbeats 2000000 in
theorem pointersTo_any {B : Nat} {v : Value} {L : List Nat} {w : World} (hrow : w.ownsRow B 3 1 v L.length (ints L)) (hne : L ≠ []) (hL : L.length ≤ 100000) (hb : ∀ x ∈ L, x < 4294967296) :
    Calls Tryz.prog 73 #[v] w fun e w' => e = .returned (.string (bsL (ptrs L))) ∧ Below w.heap.size w w' := by
  have hl0 : L.length ≠ 0 := fun e => hne (List.eq_nil_of_length_eq_zero e)
  obtain ⟨g, cap, rfl, _, hg, _, _, hc⟩ := row_cells' hrow (fun e => by
    rcases hrow.2 with ⟨_, h0⟩ | ⟨g, cap, cur, h1, _⟩
    · exact hl0 h0
    · rw [e] at h1; cases h1)
  obtain ⟨n, hn⟩ : ∃ n, L.length = n := ⟨_, rfl⟩
  rw [hn] at hL ⊢
  obtain ⟨w0, hw0⟩ : ∃ w0, w.alloc (.cells #[.pointer none, .slice none 0 0] 125) = w0 := ⟨_, rfl⟩
  have HB0 := Lib.hid (show Below w.heap.size w w0 by rw [← hw0]; exact (Below.refl _ w).alloc (Nat.le_refl _) _)
  have HI0 := Lib.hid (show Lib.IsBuilder 125 5 w.heap.size w.heap.size (Lib.byteCells []) w0 by rw [← hw0]; exact Lib.fresh_isBuilder _ _ w)
  have HN := Lib.hid hn
  have HC := Lib.hid (show ∀ i (h : i < L.length), w.cell? ⟨g, i, none⟩ = some (.int .i64 (L[i] : Nat)) from fun i h => hc i _ (by simp [ints, h]))
  have HLt := Lib.hid hg
  have HBd := Lib.hid hb
  have HNe := Lib.hid hne
  clear hrow hc hg hb hne hn hl0
  go_enter Tryz.func73, Tryz.ntmps73
  go_wp2
  go_loopw [8] (fun i wr => ∃ j : Nat, j ≤ n ∧ i = .int .i64 j ∧ Hid (Lib.IsBuilder 125 5 w.heap.size w.heap.size (Lib.byteCells (ptrs (L.take j))) wr) ∧ Hid (Below w.heap.size w wr)) (fun i _ => n - (intOf i).toNat)
  case atStart => exact ⟨0, Nat.zero_le _, rfl, HI0, HB0⟩
  case round =>
    clear HB0 HI0 hw0
    obtain ⟨j, hj, rfl, HI, HB⟩ := hrel
    by_cases hlt : j < n
    · have hji : (j : Int) < (n : Int) := by omega
      have hjL : j < L.length := by rw [HN.out]; exact hlt
      have hcj := (HB.out.cell (p := ⟨g, j, none⟩) HLt.out).trans (HC.out j hjL)
      have hx := HBd.out _ (List.getElem_mem hjL)
      have HP := Lib.hid (show ptrs (L.take (j + 1)) = ptrs (L.take j) ++ leN L[j] 4 by
        rw [List.take_succ_eq_append_getElem hjL, ptrs_app]
        simp [ptrs])
      have hlp : (ptrs (L.take j)).length = 4 * j := by rw [length_ptrs, List.length_take]; omega
      obtain ⟨x, hxe⟩ : ∃ x, L[j] = x := ⟨_, rfl⟩
      rw [hxe] at hcj hx HP
      have C1 := fun w => number_any x 4 (by omega) (by omega) w
      have HZ := Lib.hid (show (bsL (leN x 4)).size = 4 by rw [size_bsL, length_leN])
      have HD := Lib.hid (show (bsL (leN x 4)).data.toList = leN x 4 from data_bsL _)
      have HLp := Lib.hid hlp
      generalize bsL (leN x 4) = Y at *
      clear hxe hlp
      go_wp2_with fail
      refine (C1 _).mono ?_
      rintro e w2 ⟨rfl, hB2⟩
      have HB2 := Lib.hid (HB.out.trans (hB2.mono HB.out.size))
      have C3 := bwrite_any w.heap.size w.heap.size (Lib.byteCells (ptrs (L.take j))) Y w2 (isB_below HI.out hB2) (by rw [Lib.byteCells_length, HLp.out, HZ.out]; omega) HB2.out.size
      clear hB2 C1
      go_wp2_with fail
      refine C3.mono ?_
      rintro e w3 ⟨rfl, hb3, hB3⟩
      have HB3 := Lib.hid (HB2.out.trans hB3)
      have HI3 := Lib.hid (isB_more hb3)
      clear hb3 hB3 C3
      go_wp2
      go_roundw
      case rel => exact ⟨j + 1, by omega, by go_num, Lib.hid (by rw [HP.out, ← HD.out]; exact HI3.out), HB3⟩
      case measure => simp [intOf]; omega
    · obtain rfl : j = n := by omega
      have hji : ¬ (j : Int) < (j : Int) := by omega
      have HT := Lib.hid (show L.take j = L from List.take_of_length_le (by rw [HN.out]; omega))
      have C4 := bstring_any w.heap.size w.heap.size (ptrs L) wr (by have := HI.out; rwa [HT.out] at this) (fun e => by
        have := congrArg List.length e
        rw [length_ptrs] at this
        exact HNe.out (List.eq_nil_of_length_eq_zero (by simp only [List.length_nil] at this; omega)))
      go_wp2_with fail
      refine C4.mono ?_
      rintro e w2 ⟨rfl, hB2⟩
      have HB2 := Lib.hid (HB.out.trans hB2)
      clear hB2
      go_wp2
      go_ret
      exact ⟨rfl, HB2.out⟩

/-! ### carried -/
def srcV (l : Nat) : Value := .iface 25 (.pointer (some ⟨l, 0, none⟩))
/-- what a block that is read tells, if it has so many bytes -/
def seenV (x : VS) (v : Int) (n : Nat) : Value :=
  if (x.read v).1 ≠ 0 then .tuple #[.string none0, .int .i64 (x.read v).1] else if (x.read v).2.1.size ≠ n then .tuple #[.string none0, .int .i64 110] else .tuple #[.string (x.read v).2.1, .int .i64 0]
theorem method_read (a : Addr) (w : World) : (method 322 25 (.pointer (some a)) "Read").run Tryz.prog w = .ok (162, .pointer (some a)) w := by kernel_rfl
theorem method_write (a : Addr) (w : World) : (method 322 25 (.pointer (some a)) "Write").run Tryz.prog w = .ok (5, .pointer (some a)) w := by kernel_rfl
set_option maxRecDepth 100000 in
theorem carried_any {w0 w : World} {l b g m c : Nat} {x : VS} (h : VW w0 l b g m c x w) (v : Int) (hv : I64 v) (n : Nat) (_hn : n ≤ 100000) :
    Calls Tryz.prog 157 #[srcV l, .int .i64 v, .int .i64 n] w fun e w' => e = .returned (seenV x v n) ∧ VW w0 l b g m c (x.read v).2.2 w' ∧ VKeep w w' := by
  have C := h.read v hv
  have hm := method_read ⟨l, 0, none⟩
  unfold seenV
  obtain ⟨R, hR⟩ : ∃ R, x.read v = R := ⟨_, rfl⟩
  rw [hR] at C ⊢
  obtain ⟨e, p, y⟩ := R
  simp only at C ⊢
  clear hR h
  unfold srcV
  by_cases he : e = 0
  · subst he
    by_cases hp : p.size = n
    · have hpi : (p.size : Int) = (n : Int) := by omega
      have HP := Lib.hid hp
      rw [if_neg (by simp), if_neg (by simpa using hp)]
      clear hp
      go_enter Tryz.func157, Tryz.ntmps157
      go_wp2_with fail
      refine C.mono ?_
      rintro e w1 ⟨rfl, hw1, hk1⟩
      have HW := Lib.hid hw1
      have HK := Lib.hid hk1
      clear hw1 hk1 C
      go_wp2
      go_ret2
      exact ⟨rfl, HW.out, HK.out⟩
    · have hpi : ¬ (p.size : Int) = (n : Int) := by omega
      rw [if_neg (by simp), if_pos (by simpa using hp)]
      clear hp
      go_enter Tryz.func157, Tryz.ntmps157
      go_wp2_with fail
      refine C.mono ?_
      rintro e w1 ⟨rfl, hw1, hk1⟩
      have HW := Lib.hid hw1
      have HK := Lib.hid hk1
      clear hw1 hk1 C
      go_wp2
      go_ret2
      exact ⟨rfl, HW.out, HK.out⟩
  · rw [if_pos he]
    have heb : (e != 0) = true := by simpa using he
    clear he
    go_enter Tryz.func157, Tryz.ntmps157
    go_wp2_with fail
    refine C.mono ?_
    rintro e' w1 ⟨rfl, hw1, hk1⟩
    have HW := Lib.hid hw1
    have HK := Lib.hid hk1
    clear hw1 hk1 C
    go_wp2
    go_ret2
    exact ⟨rfl, HW.out, HK.out⟩
end Go.Proofs.YtmloljjllmmkoaaGreat

namespace Go.Proofs.YtmloljjllmmkoaaGreat
open Go.RowKit Go Go.Maps SM TR

/-- the kinds of a volume's blocks -/
def VK (e : TypeId) : Prop := e = 153 ∨ e = 5 ∨ e = 57 ∨ e = 102 ∨ e = 104
/-- the kinds of blocks that a tree's calls make for themselves -/
def TK (e : TypeId) : Prop := e = 122 ∨ e = 128 ∨ e = 126 ∨ e = 78 ∨ e = 3
theorem kind_eq {w : World} {i : Nat} {C C' : Array Value} {e e' : TypeId} {f f' : Nat × Nat} (h : w.heap[i]? = some (.cells C e f)) (h' : w.heap[i]? = some (.cells C' e' f')) : e = e' := by
  rw [h] at h'
  simp at h'
  exact h'.2.1
/-- blocks stay, but those of a volume, and from B on those of a tree's calls -/
def TKeep (B : Nat) (w w' : World) : Prop := ∃ F : Nat → Prop, Stir F w w' ∧ ∀ i C e f, F i → w.heap[i]? = some (.cells C e f) → (B ≤ i ∧ TK e) ∨ VK e
section
variable {B : Nat} {w w1 w' : World}
theorem TKeep.refl (B : Nat) (w : World) : TKeep B w w := ⟨fun _ => False, Stir.refl _ w, fun _ _ _ _ h => h.elim⟩
theorem TKeep.of_vkeep (h : VKeep w w') : TKeep B w w' := by
  obtain ⟨F, s, hF⟩ := h
  exact ⟨F, s, fun i C e f hf hC => .inr (hF i C e f hf hC)⟩
theorem TKeep.of_below (h : Below w.heap.size w w') : TKeep B w w' := ⟨fun _ => False, Stir.of_below h, fun _ _ _ _ h => h.elim⟩
theorem TKeep.of_stir {G : Nat → Prop} (h : Stir G w w') (hG : ∀ i, G i → B ≤ i ∧ ∃ C e f, w.heap[i]? = some (.cells C e f) ∧ TK e) : TKeep B w w' :=
  ⟨G, h, fun i C e f hf hC => by
    obtain ⟨h1, C', e', f', h2, h3⟩ := hG i hf
    exact .inl ⟨h1, (kind_eq hC h2) ▸ h3⟩⟩
theorem TKeep.trans (h : TKeep B w w1) (k : TKeep B w1 w') : TKeep B w w' := by
  obtain ⟨F, s, hF⟩ := h
  obtain ⟨G, t, hG⟩ := k
  refine ⟨fun i => F i ∨ G i, (s.weaken (fun _ h => .inl h)).trans t (fun i h => .inl (.inr h)), fun i C e f hf hC => ?_⟩
  by_cases h1 : F i
  · exact hF i C e f h1 hC
  · exact hG i C e f (hf.resolve_left h1) ((s.block i (lt_of_heap hC) h1).trans hC)
theorem TKeep.vkeep (h : TKeep w.heap.size w w') : VKeep w w' := by
  obtain ⟨F, s, hF⟩ := h
  refine ⟨F, s, fun i C e f hf hC => ?_⟩
  rcases hF i C e f hf hC with h1 | h1
  · have := lt_of_heap hC; omega
  · exact h1
theorem TKeep.size (h : TKeep B w w') : w.heap.size ≤ w'.heap.size := by
  obtain ⟨F, s, hF⟩ := h
  exact s.size
theorem TKeep.keep (h : TKeep B w w') {i : Nat} {C : Array Value} {e : TypeId} {f : Nat × Nat} (hC : w.heap[i]? = some (.cells C e f)) (hi : i < B ∨ ¬ TK e) (he : ¬ VK e) : w'.heap[i]? = some (.cells C e f) := by
  obtain ⟨F, s, hF⟩ := h
  refine s.keep hC (fun hf => ?_)
  rcases hF i C e f hf hC with h1 | h1
  · rcases hi with hi | hi
    · omega
    · exact hi h1.2
  · exact he h1
theorem VKeep.trans {w w1 w' : World} (h : VKeep w w1) (k : VKeep w1 w') : VKeep w w' := by
  have h1 : TKeep w.heap.size w w1 := TKeep.of_vkeep h
  have h2 : TKeep w.heap.size w1 w' := TKeep.of_vkeep k
  exact (h1.trans h2).vkeep
theorem VKeep.kept (h : VKeep w w') {i : Nat} {C : Array Value} {e : TypeId} {f : Nat × Nat} (hC : w.heap[i]? = some (.cells C e f)) (he : ¬ VK e) : w'.heap[i]? = some (.cells C e f) :=
  h.keep hC (fun x => he (.inl x)) (fun x => he (.inr (.inl x))) (fun x => he (.inr (.inr (.inl x)))) (fun x => he (.inr (.inr (.inr (.inl x))))) (fun x => he (.inr (.inr (.inr (.inr x)))))
theorem VKeep.size_le (h : VKeep w w') : w.heap.size ≤ w'.heap.size := by
  obtain ⟨F, s, _⟩ := h
  exact s.size
theorem vkeep_row {base size n : Nat} {e : TypeId} {v : Value} {xs : List Value} (h : VKeep w w') (he : ¬ VK e) (hr : w.ownsRow base e size v n xs) : w'.ownsRow base e size v n xs :=
  owns_keep hr (fun j hj => by
    obtain ⟨cur, hc⟩ := owns_cells hr hj
    rw [hc]
    exact h.kept hc he)
end
section
variable {w0 w w' : World} {l b g m c : Nat} {x : VS}
/-- what is not the volume's is turned -/
theorem VW.own (h : VW w0 l b g m c x w) {G : Nat → Prop} (s : Stir G w w') (hG : ∀ i, G i → w.heap.size ≤ i ∨ (w0.heap.size ≤ i ∧ ∃ C e f, w.heap[i]? = some (.cells C e f) ∧ ¬ VK e)) : VW w0 l b g m c x w' := by
  obtain ⟨F, hv⟩ := h.is
  refine ⟨⟨F, hv.stay s (fun i hi hf => ?_)⟩, h.low, h.over, h.below.trans (s.below (B := w0.heap.size) (fun k hk => ?_) h.below.size)⟩
  · rcases hG i hf with h1 | ⟨_, C, e, f, hC, he⟩
    · have := hv.lt hi; omega
    · exact he (vfoot_kinds hv hi hC)
  · have := h.below.size
    rcases hG k hk with h1 | ⟨h1, _⟩ <;> omega
end

/-! ### a reacher -/
def ReObj (src v : Value) : Obj := .cells #[src, v] 78 (0, 0)
section
variable {p : Nat} {src v : Value} {w : World}
theorem ReObj.c0 (h : w.heap[p]? = some (ReObj src v)) : w.cell? ⟨p, 0, none⟩ = some src := by simp [World.cell?, h, ReObj]
theorem ReObj.c1 (h : w.heap[p]? = some (ReObj src v)) : w.cell? ⟨p, 1, none⟩ = some v := by simp [World.cell?, h, ReObj]
theorem ReObj.fr (h : w.heap[p]? = some (ReObj src v)) (i : Nat) : w.frozen? ⟨p, i, none⟩ = false := by simp [World.frozen?, h, ReObj]
theorem ReObj.set1 (h : w.heap[p]? = some (ReObj src v)) (v' : Value) : (w.setCell ⟨p, 1, none⟩ v').heap[p]? = some (ReObj src v') := by rw [heap_set h]; rfl
end
structure RAt (B p : Nat) (src : Value) (L : List Int) (w : World) : Prop where
  low : B ≤ p
  obj : ∃ v, w.heap[p]? = some (ReObj src v) ∧ w.ownsRow B 3 1 v L.length (intVals L)
theorem RAt.vkeep {B p : Nat} {src : Value} {L : List Int} {w w' : World} (h : RAt B p src L w) (k : VKeep w w') : RAt B p src L w' := by
  obtain ⟨v, h1, h2⟩ := h.obj
  exact ⟨h.low, v, k.kept h1 (by unfold VK; decide), vkeep_row k (by unfold VK; decide) h2⟩
/-- one visit, as values -/
def stp (chunks : Bool) (x : VS) (v : Int) (row n : Nat) : RT := if row = 0 ∧ chunks = false then ⟨0, [(0, v, none0)], x⟩ else rdOne x v row n
def stpV (chunks : Bool) (x : VS) (v : Int) (row n : Nat) : Value := if row = 0 ∧ chunks = false then .tuple #[.string none0, .int .i64 0] else seenV x v n
theorem stpV_is (chunks : Bool) (x : VS) (v : Int) (row n : Nat) : ∃ p, stpV chunks x v row n = .tuple #[.string p, .int .i64 (stp chunks x v row n).e] ∧ (row ≠ 0 → (stp chunks x v row n).e = 0 → p = (x.read v).2.1 ∧ p.size = n) := by
  unfold stpV stp
  split
  · rename_i h; exact ⟨_, rfl, fun h0 => absurd h.1 h0⟩
  · unfold seenV rdOne
    split
    · rename_i h; exact ⟨_, rfl, fun _ e => absurd e h⟩
    · split
      · exact ⟨_, rfl, fun _ e => by simp at e⟩
      · rename_i h1 h2
        exact ⟨_, rfl, fun _ _ => ⟨rfl, by simpa using h2⟩⟩
theorem seen_x (x : VS) (v : Int) (row n : Nat) : (rdOne x v row n).x = (x.read v).2.2 := by
  unfold rdOne
  split
  · rfl
  · split <;> rfl
theorem seen_vis {x : VS} {v : Int} {row n : Nat} (h : (rdOne x v row n).e = 0) : (rdOne x v row n).vis = [(row, v, (x.read v).2.1)] := by
  unfold rdOne at *
  split
  · rename_i h1; rw [if_pos h1] at h; exact absurd h h1
  · rename_i h1
    rw [if_neg h1] at h
    split
    · rename_i h2; rw [if_pos h2] at h; simp at h
    · rfl
set_option maxRecDepth 100000 in
set_option maxHeartbeats 2000000 in
theorem rvisit_any {w0 w : World} {l b g m c : Nat} {x : VS} (h : VW w0 l b g m c x w) {B p : Nat} {L : List Int} (hr : RAt B p (srcV l) L w) (hL : L.length ≤ 100000) (hB : w0.heap.size ≤ B) (hBw : B ≤ w.heap.size) (v : Int) (hv : I64 v) (row n : Nat) (hrow : row ≤ 3) (hn : n ≤ 100000) :
    Calls Tryz.prog 158 #[.pointer (some ⟨p, 0, none⟩), .int .i64 v, .int .i64 row, .int .i64 n] w fun e w' => e = .returned (stpV false x v row n) ∧ VW w0 l b g m c (stp false x v row n).x w' ∧ RAt B p (srcV l) (L ++ [v]) w' ∧ TKeep B w w' := by
  obtain ⟨u, hob, hrw⟩ := hr.obj
  obtain ⟨a, cap, rfl⟩ := row_shape hrw
  obtain ⟨k, hk⟩ : ∃ k, L.length = k := ⟨_, rfl⟩
  rw [hk] at hrw hob hL
  obtain ⟨i0, hi, hz0, hz1, hz2⟩ := info_parts info3
  have c1 := ReObj.c1 hob
  have g1 := ReObj.fr hob 1
  have HO := Lib.hid hob
  have HR := Lib.hid hrw
  have H := Lib.hid h
  have HLo := Lib.hid hr.low
  have HW0 := Lib.hid hB
  have HIV := Lib.hid (show intVals (L ++ [v]) = intVals L ++ [.int .i64 v] by simp [intVals])
  have HLL := Lib.hid (show (L ++ [v]).length = k + 1 by simp [hk])
  have HBw := Lib.hid hBw
  have hpu : (Value.slice a k cap).ownBlock ≠ some p := fun e => by
    obtain ⟨cur, hc⟩ := owns_cells hrw e
    rw [hob] at hc; simp [ReObj] at hc
  have HPU := Lib.hid hpu
  have HMid := Lib.hid (show ∀ (w4 : World) (v' : Value), w4.ownsRow B 3 1 v' (k + 1) (intVals L ++ [.int .i64 v]) → (w.alloc (.cells #[.int .i64 v] 3)).grownBy w4 (Value.slice a k cap).ownBlock → w4.heap[p]? = some (ReObj (srcV l) (.slice a k cap)) →
      VW w0 l b g m c x (w4.setCell ⟨p, 1, none⟩ v') ∧ RAt B p (srcV l) (L ++ [v]) (w4.setCell ⟨p, 1, none⟩ v') ∧ TKeep B w (w4.setCell ⟨p, 1, none⟩ v') from fun w4 v' hown hgrow hob4 => by
    have hS4 : Stir (fun j => (Value.slice a k cap).ownBlock = some j) w w4 := by
      refine ⟨hgrow.os, hgrow.tape, hgrow.output, Nat.le_trans (by simp) hgrow.size, fun j hj hn => ?_⟩
      rw [hgrow.block j (by rw [World.size_alloc]; omega) (fun e => hn e.symm)]
      exact Below.heap_alloc w _ j hj
    have hS5 : Stir (fun j => (Value.slice a k cap).ownBlock = some j ∨ j = p) w (w4.setCell ⟨p, 1, none⟩ v') := (hS4.weaken (fun _ e => .inl e)).set (.inl (.inr rfl)) _
    refine ⟨H.out.own hS5 (fun i hi => .inr ?_), ⟨HLo.out, v', ReObj.set1 hob4 v', ?_⟩, TKeep.of_stir hS5 (fun i hi => ?_)⟩
    · rcases hi with e | rfl
      · obtain ⟨cur, hc⟩ := owns_cells HR.out e
        exact ⟨Nat.le_trans HW0.out (HR.out.lt i e).1, _, _, _, hc, by unfold VK; decide⟩
      · exact ⟨Nat.le_trans HW0.out HLo.out, _, _, _, HO.out, by unfold VK; decide⟩
    · rw [HLL.out, HIV.out]
      exact owns_keep hown (fun j hj => Below.heap_setCell _ _ _ _ (by
        rintro rfl
        obtain ⟨cur, hc⟩ := owns_cells hown hj
        rw [hob4] at hc; simp [ReObj] at hc))
    · rcases hi with e | rfl
      · obtain ⟨cur, hc⟩ := owns_cells HR.out e
        exact ⟨(HR.out.lt i e).1, _, _, _, hc, by unfold TK; decide⟩
      · exact ⟨HLo.out, _, _, _, HO.out, by unfold TK; decide⟩)
  by_cases h0 : row = 0
  · subst h0
    have HV := Lib.hid (show stpV false x v 0 n = .tuple #[.string none0, .int .i64 0] from rfl)
    have HX := Lib.hid (show stp false x v 0 n = ⟨0, [(0, v, none0)], x⟩ from rfl)
    rw [HV.out, HX.out]
    clear hpu hrw hob h hk hr
    go_enter Tryz.func158, Tryz.ntmps158
    go_wp2_with (at_builtin; refine wpList_append_own_at _ rfl _ _ 34 rfl B 3 i0 (.int .i64 0) 1 8 Tryz.underlying34 hi hz0 hz1 hz2 rfl (by decide) (.slice a k cap) k _ rfl (HR.out.alloc _) ⟨w.heap.size, 0, none⟩ 1 1 [.int .i64 v] rfl rfl (cell_one_new _ _ _) (by simp [Value.oneCell']) (by unfold maxLen; omega) (by omega) (by rw [World.size_alloc]; omega) ?_; intro v' w4 hown' hgrow _ hat; obtain ⟨g', cap', rfl⟩ := ownsRow_succ hown'; have hob4 : w4.heap[p]? = some (ReObj (srcV l) (.slice a k cap)) := (hgrow.block p (lt_of_heap (heap_alloc_old HO.out _)) (fun e => HPU.out e.symm)).trans (heap_alloc_old HO.out _); have e3 := ReObj.c1 hob4; have g3 := ReObj.fr hob4 1)
    have HFin := Lib.hid (HMid.out w4 _ hown' hgrow hob4)
    clear hown' hgrow hob4 hat
    go_wp2
    go_ret2
    exact ⟨rfl, HFin.out⟩
  · have HV := Lib.hid (show stpV false x v row n = seenV x v n by rw [stpV, if_neg (by simp [h0])])
    have HX := Lib.hid (show (stp false x v row n).x = (x.read v).2.2 by rw [stp, if_neg (by simp [h0]), seen_x])
    rw [HV.out, HX.out]
    have h0i : ¬ (row : Int) = 0 := by omega
    have C := fun w (h : VW w0 l b g m c x w) => carried_any h v hv n hn
    have hsv : ∃ P E, seenV x v n = .tuple #[.string P, .int .i64 E] := by
      unfold seenV
      split
      · exact ⟨_, _, rfl⟩
      · split <;> exact ⟨_, _, rfl⟩
    obtain ⟨P, E, hPE⟩ := hsv
    rw [hPE] at C ⊢
    clear hpu hrw hob h hk hr hPE
    go_enter Tryz.func158, Tryz.ntmps158
    go_wp2_with (at_builtin; refine wpList_append_own_at _ rfl _ _ 34 rfl B 3 i0 (.int .i64 0) 1 8 Tryz.underlying34 hi hz0 hz1 hz2 rfl (by decide) (.slice a k cap) k _ rfl (HR.out.alloc _) ⟨w.heap.size, 0, none⟩ 1 1 [.int .i64 v] rfl rfl (cell_one_new _ _ _) (by simp [Value.oneCell']) (by unfold maxLen; omega) (by omega) (by rw [World.size_alloc]; omega) ?_; intro v' w4 hown' hgrow _ hat; obtain ⟨g', cap', rfl⟩ := ownsRow_succ hown'; have hob4 : w4.heap[p]? = some (ReObj (srcV l) (.slice a k cap)) := (hgrow.block p (lt_of_heap (heap_alloc_old HO.out _)) (fun e => HPU.out e.symm)).trans (heap_alloc_old HO.out _); have e3 := ReObj.c1 hob4; have g3 := ReObj.fr hob4 1; have HFin := Lib.hid (HMid.out w4 _ hown' hgrow hob4); have e5 := ReObj.c0 (ReObj.set1 hob4 (.slice (some ⟨g', 0, none⟩) (k + 1) cap')); clear hown' hgrow hob4 hat)
    refine (C _ HFin.out.1).mono ?_
    rintro e w6 ⟨rfl, hw6, hk6⟩
    have HW6 := Lib.hid hw6
    have HR6 := Lib.hid (HFin.out.2.1.vkeep hk6)
    have HK6 := Lib.hid (HFin.out.2.2.trans (TKeep.of_vkeep hk6))
    clear hw6 hk6 C
    go_wp2
    go_ret2
    exact ⟨rfl, HW6.out, HR6.out, HK6.out⟩
end Go.Proofs.YtmloljjllmmkoaaGreat

namespace Go.Proofs.YtmloljjllmmkoaaGreat
open Go.RowKit Go Go.Maps SM TR

/-- an append onto a slice of the call's own, at a step of a region that draws -/
theorem step_append_held {P : Program} (w : World) {ops : Array Oper} {o : Oper} {a : Act} {K : Act → World → Prop} {Q : Exit → Act → World → Prop} {E : Prop} (hgd : o.guard = none) (s x : Operand) (t : TypeId)
    (ho : o.op = .call { callee := .builtin .append, args := #[s, x], argTypes := #[t, t] })
    (base : Nat) (e : TypeId) (i : TypeInfo) (z : Value) (size bytes : Nat) (ht : P.underlying t = some (.slice e)) (hi : P.info? e = some i) (hz : i.zero = some z)
    (hsize : i.size = size) (hby : i.bytes = bytes) (hzs : z.cells.size = size) (hsz : 0 < size)
    (v : Value) (n : Nat) (xs : List Value) (hs : a.eval s = v) (hown : w.ownsRow base e size v n xs)
    (ad : Addr) (m c : Nat) (news : List Value) (hx : a.eval x = .slice (some ad) m c) (hl : news.length = m * size) (hnews : ∀ j u, news[j]? = some u → w.cell? (ad.add j) = some u) (h1 : ∀ u ∈ news, u.oneCell' = true)
    (h63 : n + m ≤ maxLen) (hbytes : (n + m) * bytes ≤ 140737488355328) (hbase : base ≤ w.heap.size)
    (h : ∀ v' w', w'.ownsRow base e size v' (n + m) (xs ++ news) → w.grownBy w' v.ownBlock → (v'.ownBlock = v.ownBlock ∨ v'.ownBlock = some w.heap.size) → (v' = .slice none 0 0 → v = .slice none 0 0) → K (a.put o.dst v') w') :
    if Region.wanted o (yielded ops a.tmps) = true then Oper.wp P o a w K Q else E := by
  have hw : Region.wanted o (yielded ops a.tmps) = true := by simp [Region.wanted, hgd]
  rw [if_pos hw]
  obtain ⟨v', w', hr, h2, h3, h4, h5⟩ := run_append_own_at (P := P) w base t o.type e i z size bytes ht hi hz hsize hby hzs hsz v n xs hown ad m c news hl hnews h1 h63 hbytes hbase
  unfold Oper.wp execOp
  simp only [ho, resolve, invoke, builtin, Sem.run_bind, Sem.run_pure, Result.andThen_ok, List.map_toArray, List.map_cons, List.map_nil, hs, hx, hr]
  exact h v' w' h2 h3 h5 (fun e => (h4.1 e).1)
theorem news_two {W : World} {q : Nat} {u1 u2 : Value} {t : TypeId} {f : Nat × Nat} (h : W.heap[q]? = some (.cells #[u1, u2] t f)) : ∀ j u, [u1, u2][j]? = some u → W.cell? ((⟨q, 0, none⟩ : Addr).add j) = some u := by
  intro j u hu
  rw [Addr.add_lit]
  match j, hu with
  | 0, hu => simp at hu; subst hu; simp [World.cell?, h]
  | 1, hu => simp at hu; subst hu; simp [World.cell?, h]
  | j + 2, hu => simp at hu
theorem infoRow : (Tryz.prog.info? 126).map (fun i => (i.zero, i.size, i.bytes)) = some (some (.slice none 0 0), 1, 24) := by kernel_rfl
theorem infoBlk : (Tryz.prog.info? 128).map (fun i => (i.zero, i.size, i.bytes)) = some (some (.agg #[.int .i64 0, .string ⟨#[]⟩]), 2, 24) := by kernel_rfl
/-- blocks' cells -/
def blkCells : List (Int × ByteArray) → List Value
  | [] => []
  | (v, p) :: L => .int .i64 v :: .string p :: blkCells L
theorem blkCells_app : ∀ a b, blkCells (a ++ b) = blkCells a ++ blkCells b
  | [], _ => rfl
  | (v, p) :: a, b => by rw [List.cons_append, blkCells, blkCells, blkCells_app a b]; rfl
theorem length_blkCells : ∀ a, (blkCells a).length = 2 * a.length
  | [] => rfl
  | (v, p) :: a => by rw [blkCells, List.length_cons, List.length_cons, length_blkCells a, List.length_cons]; omega
theorem blkCells_get : ∀ (L : List (Int × ByteArray)) (i : Nat) (h : i < L.length), (blkCells L)[2 * i]? = some (.int .i64 L[i].1) ∧ (blkCells L)[2 * i + 1]? = some (.string L[i].2)
  | (v, p) :: L, 0, _ => ⟨rfl, rfl⟩
  | (v, p) :: L, i + 1, h => by
    have := blkCells_get L i (by simpa using h)
    rw [show 2 * (i + 1) = 2 * i + 1 + 1 by omega]
    simpa [blkCells] using this
def LoObj (src v : Value) : Obj := .cells #[src, v] 122 (0, 0)
section
variable {p : Nat} {src v : Value} {w : World}
theorem LoObj.c0 (h : w.heap[p]? = some (LoObj src v)) : w.cell? ⟨p, 0, none⟩ = some src := by simp [World.cell?, h, LoObj]
theorem LoObj.c1 (h : w.heap[p]? = some (LoObj src v)) : w.cell? ⟨p, 1, none⟩ = some v := by simp [World.cell?, h, LoObj]
theorem LoObj.fr (h : w.heap[p]? = some (LoObj src v)) (i : Nat) : w.frozen? ⟨p, i, none⟩ = false := by simp [World.frozen?, h, LoObj]
theorem LoObj.set1 (h : w.heap[p]? = some (LoObj src v)) (v' : Value) : (w.setCell ⟨p, 1, none⟩ v').heap[p]? = some (LoObj src v') := by rw [heap_set h]; rfl
end
/-- rows of blocks: their slices, what they hold -/
structure RowsAt (B : Nat) (us : List Value) (V : Vis) (w : World) : Prop where
  each : ∀ j (h : j < us.length), w.ownsRow B 128 2 us[j] (levOf j V).length (blkCells (levOf j V))
  apart : ∀ i j (hi : i < us.length) (hj : j < us.length) k, i ≠ j → us[i].ownBlock = some k → us[j].ownBlock ≠ some k
/-- a loader in memory: its object, its rows -/
structure LdIs (B p : Nat) (src rv : Value) (us : List Value) (V : Vis) (w : World) : Prop where
  low : B ≤ p
  obj : w.heap[p]? = some (LoObj src rv)
  row : w.ownsRow B 126 1 rv us.length us
  rows : RowsAt B us V w
  fit : ∀ t ∈ V, t.1 < us.length
def LdAt (B p : Nat) (src : Value) (R : Nat) (V : Vis) (w : World) : Prop := ∃ rv us, LdIs B p src rv us V w ∧ us.length = R
section
variable {B p R : Nat} {src rv : Value} {us : List Value} {V : Vis} {w w' : World}
theorem RowsAt.keep (h : RowsAt B us V w) (hk : ∀ (i : Nat) (C : Array Value) (f : Nat × Nat), w.heap[i]? = some (Obj.cells C 128 f) → w'.heap[i]? = w.heap[i]?) : RowsAt B us V w' :=
  ⟨fun j hj => owns_keep (h.each j hj) (fun k e => by obtain ⟨cur, hc⟩ := owns_cells (h.each j hj) e; exact hk k _ _ hc), h.apart⟩
theorem LdIs.vkeep (h : LdIs B p src rv us V w) (k : VKeep w w') : LdIs B p src rv us V w' :=
  ⟨h.low, k.kept h.obj (by unfold VK; decide), vkeep_row k (by unfold VK; decide) h.row, h.rows.keep (fun i C f e => (k.kept e (by unfold VK; decide)).trans e.symm), h.fit⟩
theorem LdAt.vkeep (h : LdAt B p src R V w) (k : VKeep w w') : LdAt B p src R V w' := by
  obtain ⟨rv, us, h1, h2⟩ := h
  exact ⟨rv, us, h1.vkeep k, h2⟩
theorem levOf_above {j : Nat} (h : ∀ t ∈ V, t.1 < j) : levOf j V = [] := by
  have : V.filter (fun t => decide (t.1 = j)) = [] := List.filter_eq_nil_iff.2 (fun t ht => by have := h t ht; simp; omega)
  simp [levOf, this]
end
def roomOf (p row : Nat) (w : World) : Nat := match w.cell? ⟨p, 1, none⟩ with
  | some (.slice _ n _) => row + 1 - n
  | _ => 0
theorem levOf_snoc (j row : Nat) (v : Int) (q : ByteArray) (V : Vis) : levOf j (V ++ [(row, v, q)]) = if row = j then levOf j V ++ [(v, q)] else levOf j V := by
  rw [levOf_app]
  by_cases h : row = j
  · rw [if_pos h]; simp [levOf, h]
  · rw [if_neg h]; simp [levOf, h]
theorem LdIs.nil_row {B p : Nat} {src : Value} {us : List Value} {V : Vis} {w w4 : World} {a : Option Addr} {r cap : Nat} {v' : Value} (h : LdIs B p src (.slice a r cap) us V w) (hr : us.length = r) {o : Obj}
    (hown : w4.ownsRow B 126 1 v' (r + 1) (us ++ [.slice none 0 0])) (hgrow : (w.alloc o).grownBy w4 (Value.slice a r cap).ownBlock) :
    w4.heap[p]? = some (LoObj src (.slice a r cap)) ∧ LdIs B p src v' (us ++ [.slice none 0 0]) V (w4.setCell ⟨p, 1, none⟩ v') ∧ Stir (fun j => (Value.slice a r cap).ownBlock = some j ∨ j = p) w (w4.setCell ⟨p, 1, none⟩ v') := by
  have hpu : (Value.slice a r cap).ownBlock ≠ some p := fun e => by
    obtain ⟨cur, hc⟩ := owns_cells h.row e
    rw [h.obj] at hc; simp [LoObj] at hc
  have hob4 : w4.heap[p]? = some (LoObj src (.slice a r cap)) := (hgrow.block p (lt_of_heap (heap_alloc_old h.obj o)) (fun e => hpu e.symm)).trans (heap_alloc_old h.obj o)
  have hS4 : Stir (fun j => (Value.slice a r cap).ownBlock = some j) w w4 := by
    refine ⟨hgrow.os, hgrow.tape, hgrow.output, Nat.le_trans (by simp) hgrow.size, fun j hj hn => ?_⟩
    rw [hgrow.block j (by rw [World.size_alloc]; omega) (fun e => hn e.symm)]
    exact Below.heap_alloc w o j hj
  have hS5 : Stir (fun j => (Value.slice a r cap).ownBlock = some j ∨ j = p) w (w4.setCell ⟨p, 1, none⟩ v') := (hS4.weaken (fun _ e => .inl e)).set (.inl (.inr rfl)) _
  refine ⟨hob4, ⟨h.low, LoObj.set1 hob4 v', ?_, ?_, fun t ht => by have := h.fit t ht; simp; omega⟩, hS5⟩
  · rw [List.length_append, hr]
    exact owns_keep hown (fun j hj => Below.heap_setCell _ _ _ _ (by
      rintro rfl
      obtain ⟨cur, hc⟩ := owns_cells hown hj
      rw [hob4] at hc; simp [LoObj] at hc))
  · have hR := h.rows.keep (w' := w4.setCell ⟨p, 1, none⟩ v') (fun i C f hc => hS5.block i (lt_of_heap hc) (fun e => by
      rcases e with e | rfl
      · obtain ⟨cur, hc'⟩ := owns_cells h.row e
        rw [hc] at hc'; simp at hc'
      · rw [h.obj] at hc; simp [LoObj] at hc))
    refine ⟨fun j hj => ?_, fun i j hi hj k hij e => ?_⟩
    · by_cases hjr : j < us.length
      · rw [List.getElem_append_left hjr]
        exact hR.each j hjr
      · have hjr2 : j = us.length := by simp at hj; omega
        subst hjr2
        rw [List.getElem_append_right (Nat.le_refl _)]
        simp only [Nat.sub_self, List.getElem_cons_zero]
        rw [levOf_above h.fit]
        exact World.ownsRow_nil _ _ _ _
    · by_cases hi' : i < us.length
      · rw [List.getElem_append_left hi'] at e
        by_cases hj' : j < us.length
        · rw [List.getElem_append_left hj']
          exact hR.apart i j hi' hj' k hij e
        · rw [List.getElem_append_right (by omega)]
          have : j - us.length = 0 := by simp at hj; omega
          simp [this, Value.ownBlock]
      · rw [List.getElem_append_right (by omega)] at e
        have : i - us.length = 0 := by simp at hi; omega
        simp [this, Value.ownBlock] at e
theorem LdIs.put_row {B p : Nat} {src : Value} {us : List Value} {V : Vis} {w w4 : World} {g r cap : Nat} {v4 : Value} (h : LdIs B p src (.slice (some ⟨g, 0, none⟩) r cap) us V w) (hr : us.length = r) {row : Nat} (hru : row < us.length) {v : Int} {q : ByteArray} {o : Obj}
    (hown : w4.ownsRow B 128 2 v4 ((levOf row V).length + 1) (blkCells (levOf row V) ++ [.int .i64 v, .string q])) (hgrow : ((w.alloc o).drew).grownBy w4 us[row].ownBlock) (hat : v4.ownBlock = us[row].ownBlock ∨ v4.ownBlock = some ((w.alloc o).drew).heap.size) :
    w4.heap[p]? = some (LoObj src (.slice (some ⟨g, 0, none⟩) r cap)) ∧ w4.heap[g]? = w.heap[g]? ∧ LdIs B p src (.slice (some ⟨g, 0, none⟩) r cap) (us.set row v4) (V ++ [(row, v, q)]) (w4.setCell ⟨g, row, none⟩ v4) ∧ Stir (fun j => us[row].ownBlock = some j ∨ j = g) w (w4.setCell ⟨g, row, none⟩ v4) := by
  have hrw := h.rows.each row hru
  have hgr := h.row
  rw [hr] at hgr
  obtain ⟨curg, hcg⟩ := owns_cells hgr (k := g) rfl
  have hpu : us[row].ownBlock ≠ some p := fun e => by
    obtain ⟨cur, hc⟩ := owns_cells hrw e
    rw [h.obj] at hc; simp [LoObj] at hc
  have hgu : us[row].ownBlock ≠ some g := fun e => by
    obtain ⟨cur, hc⟩ := owns_cells hrw e
    rw [hcg] at hc; simp at hc
  have hgp : g ≠ p := ne_of_heap hcg h.obj (by simp [LoObj])
  have hold : ∀ j, j < w.heap.size → us[row].ownBlock ≠ some j → w4.heap[j]? = w.heap[j]? := fun j hj hn => by
    rw [hgrow.block j (by show j < (w.alloc o).heap.size; rw [World.size_alloc]; omega) (fun e => hn e.symm)]
    exact Below.heap_alloc w o j hj
  have hob4 : w4.heap[p]? = some (LoObj src (.slice (some ⟨g, 0, none⟩) r cap)) := (hold p (lt_of_heap h.obj) hpu).trans h.obj
  have hg4 : w4.heap[g]? = w.heap[g]? := hold g (lt_of_heap hcg) hgu
  have hsz : w.heap.size ≤ w4.heap.size := Nat.le_trans (by show w.heap.size ≤ (w.alloc o).heap.size; simp) hgrow.size
  have hS4 : Stir (fun j => us[row].ownBlock = some j) w w4 := ⟨hgrow.os, hgrow.tape, hgrow.output, hsz, fun j hj hn => hold j hj hn⟩
  have hS5 : Stir (fun j => us[row].ownBlock = some j ∨ j = g) w (w4.setCell ⟨g, row, none⟩ v4) := (hS4.weaken (fun _ e => .inl e)).set (.inl (.inr rfl)) _
  have hv4g : v4.ownBlock ≠ some g := fun e => by
    obtain ⟨cur, hc⟩ := owns_cells hown e
    rw [hg4, hcg] at hc; simp at hc
  have hnew : ∀ j (hj : j < us.length) k, us[j].ownBlock = some k → k < w.heap.size := fun j hj k e => ((h.rows.each j hj).lt k e).2
  have hfar : ∀ j (hj : j < us.length) k, j ≠ row → v4.ownBlock = some k → us[j].ownBlock ≠ some k := fun j hj k hjr e e2 => by
    rcases hat with h1 | h1
    · exact h.rows.apart row j hru hj k (fun e => hjr e.symm) (h1.symm.trans e) e2
    · rw [h1] at e
      have h2 := hnew j hj k e2
      have h3 : ((w.alloc o).drew).heap.size = k := Option.some.inj e
      have h4 : ((w.alloc o).drew).heap.size = w.heap.size + 1 := World.size_alloc w o
      omega
  refine ⟨hob4, hg4, ⟨h.low, heap_set_other hob4 (fun e => hgp e.symm) _, ?_, ⟨fun j hj => ?_, fun i j hi hj k hij e => ?_⟩, fun t ht => ?_⟩, hS5⟩
  · rw [List.length_set, hr]
    exact (owns_keep hgr (fun k e => by
      have e' : g = k := by simpa [Value.ownBlock] using e
      subst e'
      exact hg4) : w4.ownsRow B 126 1 (.slice (some ⟨g, 0, none⟩) r cap) r us).stored row v4 |>.1
  · rw [List.length_set] at hj
    rw [levOf_snoc]
    by_cases hjr : row = j
    · subst hjr
      rw [if_pos rfl, List.getElem_set_self, List.length_append, blkCells_app]
      exact owns_keep hown (fun k e => Below.heap_setCell _ _ _ _ (by rintro rfl; exact hv4g e))
    · rw [if_neg hjr, List.getElem_set_ne hjr]
      refine owns_keep (h.rows.each j hj) (fun k e => hS5.block k (hnew j hj k e) (fun e2 => ?_))
      rcases e2 with e2 | rfl
      · exact h.rows.apart row j hru hj k hjr e2 e
      · obtain ⟨cur, hc⟩ := owns_cells (h.rows.each j hj) e
        rw [hcg] at hc; simp at hc
  · rw [List.length_set] at hi hj
    by_cases hir : row = i
    · subst hir
      rw [List.getElem_set_self] at e
      rw [List.getElem_set_ne hij]
      exact hfar j hj k (fun e => hij e.symm) e
    · rw [List.getElem_set_ne hir] at e
      by_cases hjr : row = j
      · subst hjr
        rw [List.getElem_set_self]
        exact fun e2 => hfar i hi k hij e2 e
      · rw [List.getElem_set_ne hjr]
        exact h.rows.apart i j hi hj k hij e
  · rw [List.length_set]
    rcases List.mem_append.1 ht with ht | ht
    · exact h.fit t ht
    · obtain rfl : t = (row, v, q) := by simpa using ht
      exact hru
set_option maxRecDepth 100000 in
set_option maxHeartbeats 4000000 in
theorem lvisit_any {w0 w : World} {l b g m c : Nat} {x : VS} (h : VW w0 l b g m c x w) {B p R : Nat} {V : Vis} (hr : LdAt B p (srcV l) R V w) (hV : V.length ≤ 100000) (hR : R ≤ 10) (hB : w0.heap.size ≤ B) (hBw : B ≤ w.heap.size) (v : Int) (hv : I64 v) (row n : Nat) (hrow : row ≤ 3) (hn : n ≤ 100000) :
    Calls Tryz.prog 156 #[.pointer (some ⟨p, 0, none⟩), .int .i64 v, .int .i64 row, .int .i64 n] w fun e w' => e = .returned (stpV true x v row n) ∧ VW w0 l b g m c (stp true x v row n).x w' ∧ ((stp true x v row n).e = 0 → LdAt B p (srcV l) (max R (row + 1)) (V ++ (stp true x v row n).vis) w') ∧ TKeep B w w' := by
  have HS := Lib.hid (show stp true x v row n = rdOne x v row n by rw [stp, if_neg (by simp)])
  have HSV := Lib.hid (show stpV true x v row n = seenV x v n by rw [stpV, if_neg (by simp)])
  rw [HSV.out, HS.out, seen_x]
  have C := carried_any h v hv n hn
  have HLd := Lib.hid hr
  obtain ⟨rv, us, hld, hus⟩ := hr
  have c0 := LoObj.c0 hld.obj
  have HBw := Lib.hid hBw
  have HW0 := Lib.hid hB
  have HV := Lib.hid hV
  have HR := Lib.hid hR
  by_cases hE : (rdOne x v row n).e = 0
  · have hvis := seen_vis hE
    rw [hvis]
    have hsv : seenV x v n = .tuple #[.string (x.read v).2.1, .int .i64 0] := by
      unfold rdOne at hE
      unfold seenV
      split at hE
      · exact absurd hE (by assumption)
      · rename_i h1
        rw [if_neg h1]
        split at hE
        · simp at hE
        · rename_i h2
          rw [if_neg h2]
    rw [hsv] at C ⊢
    have HX := Lib.hid (show (x.read v).2.2 = (x.read v).2.2 from rfl)
    obtain ⟨P, hP⟩ : ∃ P, (x.read v).2.1 = P := ⟨_, rfl⟩
    obtain ⟨y, hy⟩ : ∃ y, (x.read v).2.2 = y := ⟨_, rfl⟩
    rw [hP, hy] at C
    rw [hP, hy]
    clear hsv hvis hE hP hy HX HS HSV hld hus h
    go_enter Tryz.func156, Tryz.ntmps156
    go_wp2_with fail
    refine C.mono ?_
    rintro e w1 ⟨rfl, hw1, hk1⟩
    have HW1 := Lib.hid hw1
    have HL1 := Lib.hid (HLd.out.vkeep hk1)
    have HK1 := Lib.hid (show TKeep B w w1 from TKeep.of_vkeep hk1)
    clear hw1 hk1 C
    go_wp2
    go_loopw [] (fun wr => ∃ r : Nat, R ≤ r ∧ r ≤ max R (row + 1) ∧ Hid (VW w0 l b g m c y wr) ∧ Hid (LdAt B p (srcV l) r V wr) ∧ Hid (TKeep B w wr)) (fun wr => roomOf p row wr)
    case atStart => exact ⟨R, Nat.le_refl _, Nat.le_max_left _ _, HW1, HL1, HK1⟩
    case round =>
      obtain ⟨r, hr1, hr2, HWr, HLr, HKr⟩ := hrel
      obtain ⟨rv, us, hld, hus⟩ := HLr.out
      obtain ⟨a, cap, rfl⟩ := row_shape hld.row
      rw [hus] at hld
      have HLD := Lib.hid hld
      have HUS := Lib.hid hus
      have c1 := LoObj.c1 hld.obj
      have g1 := LoObj.fr hld.obj 1
      have HRow := Lib.hid (by have := hld.row; rwa [hus] at this)
      have hszB : B ≤ wr.heap.size := Nat.le_trans HBw.out HKr.out.size
      have HR2 := Lib.hid hr2
      have hr10 : r ≤ 10 := by have := HR.out; omega
      clear hld hus hr2
      by_cases hlt : r ≤ row
      · have hri : (r : Int) ≤ (row : Int) := by omega
        obtain ⟨i0, hi, hz0, hz1, hz2⟩ := info_parts infoRow
        have HM := Lib.hid (show roomOf p row wr = row + 1 - r from by simp [roomOf, c1])
        have HG := Lib.hid (show ∀ i, ((Value.slice a r cap).ownBlock = some i ∨ i = p) → B ≤ i ∧ ∃ C e f, wr.heap[i]? = some (.cells C e f) ∧ ¬ VK e ∧ TK e from fun i hi => by
          rcases hi with e | rfl
          · obtain ⟨cur, hc⟩ := owns_cells HRow.out e
            exact ⟨(HRow.out.lt i e).1, _, _, _, hc, by unfold VK; decide, by unfold TK; decide⟩
          · exact ⟨HLD.out.low, _, _, _, HLD.out.obj, by unfold VK; decide, by unfold TK; decide⟩)
        go_wp2_with (at_builtin; refine wpList_append_own_at _ rfl _ _ 120 rfl B 126 i0 (.slice none 0 0) 1 24 Tryz.underlying120 hi hz0 hz1 hz2 rfl (by decide) (.slice a r cap) r _ rfl (HRow.out.alloc _) ⟨wr.heap.size, 0, none⟩ 1 1 [.slice none 0 0] rfl rfl (cell_one_new _ _ _) (by simp [Value.oneCell']) (by unfold maxLen; omega) (by omega) (by rw [World.size_alloc]; omega) ?_; intro v' w4 hown' hgrow _ hat; obtain ⟨g', cap', rfl⟩ := ownsRow_succ hown'; obtain ⟨hob4, hld4, hs5⟩ := HLD.out.nil_row HUS.out hown' hgrow; have e3 := LoObj.c1 hob4; have g3 := LoObj.fr hob4 1)
        have HLD4 := Lib.hid hld4
        have HS5 := Lib.hid hs5
        have HM2 := Lib.hid (show roomOf p row (w4.setCell ⟨p, 1, none⟩ (.slice (some ⟨g', 0, none⟩) (r + 1) cap')) = row + 1 - (r + 1) from by
          have := LoObj.c1 hld4.obj
          simp [roomOf, this])
        clear hown' hgrow hob4 hld4 hs5 hat
        go_roundw
        case rel => exact ⟨r + 1, by omega, by have := HR2.out; omega, Lib.hid (HWr.out.own HS5.out (fun i hi => .inr (by obtain ⟨h1, C, e, f, h2, h3, h4⟩ := HG.out i hi; exact ⟨Nat.le_trans HW0.out h1, C, e, f, h2, h3⟩))), Lib.hid ⟨_, _, HLD4.out, by simp [HUS.out]⟩, Lib.hid (HKr.out.trans (TKeep.of_stir HS5.out (fun i hi => by obtain ⟨h1, C, e, f, h2, h3, h4⟩ := HG.out i hi; exact ⟨h1, C, e, f, h2, h4⟩)))⟩
        case measure => rw [HM.out, HM2.out]; omega
      · have hri : ¬ (r : Int) ≤ (row : Int) := by omega
        have hrr : (row : Int) < (r : Int) := by omega
        have HRN := Lib.hid (show r = max R (row + 1) by have := HR2.out; omega)
        have hrx : row < r := by omega
        obtain ⟨g, cap', hva, hBg, hgs, hrc, hcm, hcs⟩ := row_cells' HRow.out (fun e => by injection e with e1 e2 e3; omega)
        obtain ⟨rfl, rfl⟩ : a = some ⟨g, 0, none⟩ ∧ cap = cap' := by injection hva with e1 e2 e3; exact ⟨e1, e3⟩
        have hlen := HUS.out
        have hru : row < us.length := by omega
        have hrow2 := HLD.out.rows.each row hru
        obtain ⟨a2, cap2, hu⟩ := row_shape hrow2
        have cg := hcs row us[row] (List.getElem?_eq_getElem hru)
        obtain ⟨k, hk⟩ : ∃ k, (levOf row V).length = k := ⟨_, rfl⟩
        have hk5 : k ≤ 100000 := by
          rw [← hk]
          unfold levOf
          rw [List.length_map]
          exact Nat.le_trans (List.length_filter_le _ _) HV.out
        rw [hu, hk] at cg hrow2
        obtain ⟨curg, hcg⟩ := owns_cells HRow.out (k := g) rfl
        have fg : wr.frozen? ⟨g, row, none⟩ = false := by simp [World.frozen?, hcg]
        have HRow2 := Lib.hid hrow2
        obtain ⟨i0, hi, hz0, hz1, hz2⟩ := info_parts infoBlk
        clear hcs hva hrow2 hlen hlt
        have HOwn := Lib.hid (show ∀ W : World, Below wr.heap.size wr W → W.ownsRow B 128 2 (.slice a2 k cap2) k (blkCells (levOf row V)) from fun W hW => owns_below HRow2.out hW)
        have hpo : (Value.slice a2 k cap2).ownBlock ≠ some p := fun e => by
          obtain ⟨cur, hc⟩ := owns_cells HRow2.out e
          rw [HLD.out.obj] at hc; simp [LoObj] at hc
        have hgo : (Value.slice a2 k cap2).ownBlock ≠ some g := fun e => by
          obtain ⟨cur, hc⟩ := owns_cells HRow2.out e
          rw [hcg] at hc; simp at hc
        have HPut := Lib.hid (show ∀ (o : Obj) (v4 : Value) (w4 : World), w4.ownsRow B 128 2 v4 (k + 1) (blkCells (levOf row V) ++ [.int .i64 v, .string P]) → ((wr.alloc o).drew).grownBy w4 (Value.slice a2 k cap2).ownBlock → (v4.ownBlock = (Value.slice a2 k cap2).ownBlock ∨ v4.ownBlock = some ((wr.alloc o).drew).heap.size) → _ from fun o v4 w4 e1 e2 e3 => HLD.out.put_row HUS.out hru (v := v) (q := P) (o := o) (by rw [hk]; exact e1) (by rw [hu, hk]; exact e2) (by rw [hu, hk]; exact e3))
        have HG := Lib.hid (show ∀ i, (us[row].ownBlock = some i ∨ i = g) → B ≤ i ∧ ∃ C e f, wr.heap[i]? = some (.cells C e f) ∧ ¬ VK e ∧ TK e from fun i hi => by
          rcases hi with e | rfl
          · obtain ⟨cur, hc⟩ := owns_cells (HLD.out.rows.each row hru) e
            exact ⟨((HLD.out.rows.each row hru).lt i e).1, _, _, _, hc, by unfold VK; decide, by unfold TK; decide⟩
          · exact ⟨hBg, _, _, _, hcg, by unfold VK; decide, by unfold TK; decide⟩)
        have d1 : (wr.alloc (.cells #[.int .i64 v, .string P] 128)).cell? ⟨p, 1, none⟩ = some (.slice (some ⟨g, 0, none⟩) r cap) := (World.cell?_alloc_lt _ _ _ (World.block_lt_of_cell? wr _ c1)).trans c1
        have dg : (wr.alloc (.cells #[.int .i64 v, .string P] 128)).cell? ⟨g, row, none⟩ = some (.slice a2 k cap2) := (World.cell?_alloc_lt _ _ _ (World.block_lt_of_cell? wr _ cg)).trans cg
        clear hu hk hgo hpo
        go_wp2
        go_region_law
          (refine step_append_held _ (by rfl) (.tmp 52) (.tmp 56) _ (by rfl) B 128 i0 _ 2 24 Tryz.underlying126 hi hz0 hz1 hz2 rfl (by omega) (.slice a2 k cap2) k (blkCells (levOf row V)) (by rfl) (HOwn.out _ (by first | exact ((Below.refl _ _).drew.alloc (Nat.le_refl _) _) | exact ((Below.refl _ _).alloc (Nat.le_refl _) _).drew | exact (Below.refl _ _).alloc (Nat.le_refl _) _)) ⟨wr.heap.size, 0, none⟩ 1 1 [.int .i64 v, .string P] (by rfl) rfl (news_two (heap_alloc_new _ _)) (by simp [Value.oneCell']) (by unfold maxLen; omega) (by omega) (by show B ≤ (wr.alloc _).heap.size; rw [World.size_alloc]; exact Nat.le_succ_of_le hszB) ?_; intro v4 w4 hown4 hgrow4 hat4 hnn4; obtain ⟨g2, cap3, rfl⟩ := ownsRow_succ hown4; obtain ⟨hob4, hg4, hld4, hs5⟩ := HPut.out _ _ _ hown4 hgrow4 hat4; have c14 := LoObj.c1 hob4; have cg4 := (World.cell?_of_block (w := wr) (a := ⟨g, row, none⟩) hg4).trans cg; have fg4 : w4.frozen? ⟨g, row, none⟩ = false := by simp [World.frozen?, hg4, hcg])
        all_goals (
          have HLD4 := Lib.hid hld4
          have HS5 := Lib.hid hs5
          clear hown4 hgrow4 hat4 hnn4 hob4 hg4 hld4 hs5
          go_wp2
          go_ret2
          refine ⟨rfl, HWr.out.own HS5.out (fun i hi => .inr (by obtain ⟨h1, C, e, f, h2, h3, h4⟩ := HG.out i hi; exact ⟨Nat.le_trans HW0.out h1, C, e, f, h2, h3⟩)), fun _ => ⟨_, _, HLD4.out, by rw [List.length_set, HUS.out, HRN.out]⟩, HKr.out.trans (TKeep.of_stir HS5.out (fun i hi => by obtain ⟨h1, C, e, f, h2, h3, h4⟩ := HG.out i hi; exact ⟨h1, C, e, f, h2, h4⟩))⟩)
  · have hsv : seenV x v n = .tuple #[.string none0, .int .i64 (rdOne x v row n).e] := by
      unfold rdOne at *
      unfold seenV
      split
      · rfl
      · rename_i h1
        rw [if_neg h1] at hE
        split
        · rfl
        · rename_i h2
          rw [if_neg h2] at hE
          exact absurd rfl hE
    rw [hsv] at C ⊢
    have HE := Lib.hid hE
    have hEb : ((rdOne x v row n).e != 0) = true := by simpa using hE
    generalize (rdOne x v row n).e = E at *
    generalize (x.read v).2.2 = y at *
    clear hsv hE HS HSV hld hus h
    go_enter Tryz.func156, Tryz.ntmps156
    go_wp2_with fail
    refine C.mono ?_
    rintro e w1 ⟨rfl, hw1, hk1⟩
    have HW1 := Lib.hid hw1
    have HK1 := Lib.hid (show TKeep B w w1 from TKeep.of_vkeep hk1)
    clear hw1 hk1 C
    go_wp2
    go_ret2
    exact ⟨rfl, HW1.out, fun e => absurd e HE.out, HK1.out⟩
end Go.Proofs.YtmloljjllmmkoaaGreat

