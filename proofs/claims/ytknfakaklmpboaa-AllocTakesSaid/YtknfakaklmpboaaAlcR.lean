/-
  The reference: Order, Pick; Same.
-/
import Derived.Test.YtknfakaklmpboaaAlcC
namespace Go.Proofs.Ytknfakaklmpboaa
open Go.ChangeShapes Go.WideShapes Go.ChangeAt Go.RowKit Go.Shelf Go SM PL AL

set_option maxRecDepth 100000 in
set_option maxHeartbeats 2000000 in
theorem order_any (s : ByteArray) (n f : Nat) (hs : s.size ≤ 140737488355328) (h2 : n ≤ 4096) (h4 : f ≤ n) (w : World) :
    Calls Try.prog 11 #[.string s, .int .i64 n, .int .i64 f] w fun e w' => ∃ v, e = .returned v ∧ w'.ownsRow w.heap.size 3 1 v (ord s.data.toList n f).length (ints (ord s.data.toList n f)) ∧ v ≠ .slice none 0 0 ∧ Below w.heap.size w w' := by
  obtain ⟨i0, hi, hz0, hz1, hz2⟩ := info_parts info3
  have HA := Lib.hid (rord_all s.data.toList h4)
  have h4i : (f : Int) ≤ (n : Int) := by omega
  have h2i : (n : Int) ≤ 4096 := by omega
  go_enter Try.func11, Try.ntmps11
  go_wp2
  have hrow0 : (w.alloc (.cells #[] 3)).ownsRow w.heap.size 3 1 (.slice (some ⟨w.heap.size, 0, none⟩) 0 0) 0 [] := World.ownsRow_made w #[] 0 (Nat.le_refl _) (by unfold maxLen; omega) (by simp)
  go_loopw [7, 8] (fun v i wr => ∃ k : Nat, k ≤ n ∧ i = .int .i64 k ∧ wr.ownsRow w.heap.size 3 1 v (rord s.data.toList n f k).length (ints (rord s.data.toList n f k)) ∧ v ≠ .slice none 0 0 ∧ Below w.heap.size w wr) (fun _ i _ => n - (intOf i).toNat)
  case atStart => exact ⟨0, Nat.zero_le _, rfl, hrow0, by simp, (Below.refl _ w).alloc (Nat.le_refl _) _⟩
  case round =>
    obtain ⟨k, hk, rfl, hrow, hnil, hB⟩ := hrel
    have hlen := length_rord s.data.toList n f k
    have HN := Lib.hid hnil
    clear hnil
    by_cases hlt : k < n
    · have hki : (k : Int) < (n : Int) := by omega
      have hszW : w.heap.size ≤ wr.heap.size := hB.size
      have hsucc := rord_succ s.data.toList n f k
      obtain ⟨z, hz⟩ : ∃ z, turned n f k = z := ⟨_, rfl⟩
      have hzz : (n ≤ f + k ∧ (z : Int) = (f : Int) + (k : Int) - (n : Int)) ∨ (f + k < n ∧ (z : Int) = (f : Int) + (k : Int)) := by
        unfold turned at hz
        split at hz <;> omega
      rw [hz] at hsucc
      have hzn : z < n := by omega
      by_cases hfree : 1 ≤ z ∧ bit s.data.toList z = false
      · rw [if_pos hfree] at hsucc
        obtain ⟨hz1', hbit⟩ := hfree
        have HS := Lib.hid (show ints (rord s.data.toList n f (k + 1)) = ints (rord s.data.toList n f k) ++ [.int .i64 (z : Int)] by rw [hsucc]; unfold ints; rw [List.map_append]; rfl)
        have HSl := Lib.hid (show (rord s.data.toList n f (k + 1)).length = (rord s.data.toList n f k).length + 1 by rw [hsucc, List.length_append]; rfl)
        have HB := Lib.hid (show bitI s.data.toList (z : Int) = false by rw [bitI_n, hbit])
        generalize rord s.data.toList n f k = l0 at *
        clear hsucc hbit hz
        rcases hzz with ⟨q1, q2⟩ | ⟨q1, q2⟩
        · have q3 : (n : Int) ≤ (f : Int) + (k : Int) := by omega
          have q4 : (1 : Int) ≤ (f : Int) + (k : Int) - (n : Int) := by omega
          rw [q2] at HB HS
          clear q1 q2 hz1' hzn
          go_wp2_with (first
            | (go_at_call 21; refine (rhas_any _ _ _ (by omega) (by omega) (by omega)).mono ?_; rintro e w' ⟨rfl, rfl⟩; rw [HB.out])
            | (at_builtin; refine wpList_append_own _ rfl _ _ 24 rfl w.heap.size 3 i0 (.int .i64 0) 1 8 Try.underlying24 hi hz0 hz1 hz2 rfl (by decide) _ _ _ rfl (hrow.alloc _) ⟨wr.heap.size, 0, none⟩ 1 1 [.int .i64 ((f : Int) + (k : Int) - (n : Int))] rfl rfl (cell_one_new _ _ _) (by simp [Value.oneCell']) (by unfold maxLen; omega) (by omega) (by simp; omega) ?_; intro v' w1 hown' hgrow hnl))
          have hB1 : Below w.heap.size w w1 := (hB.alloc hszW _).grown hgrow (by simp; omega) (fun j ej => (hrow.lt j ej).1)
          have HNN := Lib.hid (show v' ≠ .slice none 0 0 from fun e => by have := (hnl.1 e).2; cases this)
          clear hnl
          go_wp2
          go_roundw
          case rel => exact ⟨k + 1, by omega, by go_num, by rw [HS.out, HSl.out]; exact hown', HNN.out, hB1⟩
          case measure => simp [intOf]; omega
        · have q3 : ¬ (n : Int) ≤ (f : Int) + (k : Int) := by omega
          have q4 : (1 : Int) ≤ (f : Int) + (k : Int) := by omega
          rw [q2] at HB HS
          clear q1 q2 hz1' hzn
          go_wp2_with (first
            | (go_at_call 21; refine (rhas_any _ _ _ (by omega) (by omega) (by omega)).mono ?_; rintro e w' ⟨rfl, rfl⟩; rw [HB.out])
            | (at_builtin; refine wpList_append_own _ rfl _ _ 24 rfl w.heap.size 3 i0 (.int .i64 0) 1 8 Try.underlying24 hi hz0 hz1 hz2 rfl (by decide) _ _ _ rfl (hrow.alloc _) ⟨wr.heap.size, 0, none⟩ 1 1 [.int .i64 ((f : Int) + (k : Int))] rfl rfl (cell_one_new _ _ _) (by simp [Value.oneCell']) (by unfold maxLen; omega) (by omega) (by simp; omega) ?_; intro v' w1 hown' hgrow hnl))
          have hB1 : Below w.heap.size w w1 := (hB.alloc hszW _).grown hgrow (by simp; omega) (fun j ej => (hrow.lt j ej).1)
          have HNN := Lib.hid (show v' ≠ .slice none 0 0 from fun e => by have := (hnl.1 e).2; cases this)
          clear hnl
          go_wp2
          go_roundw
          case rel => exact ⟨k + 1, by omega, by go_num, by rw [HS.out, HSl.out]; exact hown', HNN.out, hB1⟩
          case measure => simp [intOf]; omega
      · rw [if_neg hfree, List.append_nil] at hsucc
        have HS := Lib.hid hsucc
        have hnf : z < 1 ∨ (1 ≤ z ∧ bit s.data.toList z = true) := by
          by_cases h1 : 1 ≤ z
          · right
            refine ⟨h1, ?_⟩
            cases hb : bit s.data.toList z with
            | true => rfl
            | false => exact absurd ⟨h1, hb⟩ hfree
          · left; omega
        generalize rord s.data.toList n f k = l0 at *
        clear hsucc hz hfree
        rcases hzz with ⟨q1, q2⟩ | ⟨q1, q2⟩
        · have q3 : (n : Int) ≤ (f : Int) + (k : Int) := by omega
          rcases hnf with h0 | ⟨h0, hbit⟩
          · have q4 : ¬ (1 : Int) ≤ (f : Int) + (k : Int) - (n : Int) := by omega
            clear q1 q2 h0 hzn
            go_wp2_with fail
            go_roundw
            case rel => exact ⟨k + 1, by omega, by go_num, by rw [HS.out]; exact hrow, HN.out, hB⟩
            case measure => simp [intOf]; omega
          · have HB := Lib.hid (show bitI s.data.toList ((f : Int) + (k : Int) - (n : Int)) = true by rw [← q2, bitI_n, hbit])
            have q4 : (1 : Int) ≤ (f : Int) + (k : Int) - (n : Int) := by omega
            clear q1 q2 h0 hzn hbit
            go_wp2_with (go_at_call 21; refine (rhas_any _ _ _ (by omega) (by omega) (by omega)).mono ?_; rintro e w' ⟨rfl, rfl⟩; rw [HB.out])
            go_roundw
            case rel => exact ⟨k + 1, by omega, by go_num, by rw [HS.out]; exact hrow, HN.out, hB⟩
            case measure => simp [intOf]; omega
        · have q3 : ¬ (n : Int) ≤ (f : Int) + (k : Int) := by omega
          rcases hnf with h0 | ⟨h0, hbit⟩
          · have q4 : ¬ (1 : Int) ≤ (f : Int) + (k : Int) := by omega
            clear q1 q2 h0 hzn
            go_wp2_with fail
            go_roundw
            case rel => exact ⟨k + 1, by omega, by go_num, by rw [HS.out]; exact hrow, HN.out, hB⟩
            case measure => simp [intOf]; omega
          · have HB := Lib.hid (show bitI s.data.toList ((f : Int) + (k : Int)) = true by rw [← q2, bitI_n, hbit])
            have q4 : (1 : Int) ≤ (f : Int) + (k : Int) := by omega
            clear q1 q2 h0 hzn hbit
            go_wp2_with (go_at_call 21; refine (rhas_any _ _ _ (by omega) (by omega) (by omega)).mono ?_; rintro e w' ⟨rfl, rfl⟩; rw [HB.out])
            go_roundw
            case rel => exact ⟨k + 1, by omega, by go_num, by rw [HS.out]; exact hrow, HN.out, hB⟩
            case measure => simp [intOf]; omega
    · have hki : ¬ (k : Int) < (n : Int) := by omega
      obtain rfl : k = n := by omega
      rw [HA.out] at hrow
      go_wp2
      go_ret
      exact ⟨_, rfl, hrow, HN.out, hB⟩

/-! ### Pick -/
theorem badP_yes {b f m : Int} (h : badA b f = true ∨ m < 0) : b < 8 ∨ (¬ b < 8 ∧ 4096 < b) ∨ (¬ b < 8 ∧ ¬ 4096 < b ∧ f < 1) ∨ (¬ b < 8 ∧ ¬ 4096 < b ∧ ¬ f < 1 ∧ b < f) ∨ (¬ b < 8 ∧ ¬ 4096 < b ∧ ¬ f < 1 ∧ ¬ b < f ∧ m < 0) := by
  rcases h with h | h
  · have := badA_yes h; omega
  · omega
theorem rpick_bad (s : ByteArray) (b f m : Int) (h : badA b f = true ∨ m < 0) (w : World) :
    Calls Try.prog 6 #[.string s, .int .i64 b, .int .i64 f, .int .i64 m] w fun e w' => e = .returned (.tuple #[.slice none 0 0, .int .i64 0, .int .i64 100]) ∧ w = w' := by
  rcases badP_yes h with h1 | ⟨h1, h2⟩ | ⟨h1, h2, h3⟩ | ⟨h1, h2, h3, h4⟩ | ⟨h1, h2, h3, h4, h5⟩ <;> clear h
  all_goals (
    go_enter Try.func6, Try.ntmps6
    go_wp2
    go_ret3
    exact ⟨rfl, rfl⟩)
theorem rpick_full (s : ByteArray) (n f : Nat) (hs : s.size ≤ 140737488355328) (h1 : 8 ≤ n) (h2 : n ≤ 4096) (h3 : 1 ≤ f) (h4 : f ≤ n) (m : Int) (hm : ((ord s.data.toList n f).length : Int) < m) (w : World) :
    Calls Try.prog 6 #[.string s, .int .i64 n, .int .i64 f, .int .i64 m] w fun e w' => e = .returned (.tuple #[.slice none 0 0, .int .i64 0, .int .i64 101]) ∧ Below w.heap.size w w' := by
  have C := order_any s n f hs h2 h4 w
  have a1 : ¬ (n : Int) < 8 := by omega
  have a2 : ¬ (4096 : Int) < (n : Int) := by omega
  have a3 : ¬ (f : Int) < 1 := by omega
  have a4 : ¬ (n : Int) < (f : Int) := by omega
  have a5 : ¬ m < 0 := by omega
  obtain ⟨L, hL⟩ : ∃ L, ord s.data.toList n f = L := ⟨_, rfl⟩
  rw [hL] at C hm
  clear h1 h2 h3 h4 hL
  go_enter Try.func6, Try.ntmps6
  go_wp2_with fail
  refine C.mono ?_
  rintro e w1 ⟨v, rfl, hrow, hnil, hB1⟩
  obtain ⟨g, cap, rfl, -⟩ := row_cells hrow hnil
  have HB1 := Lib.hid hB1
  clear hB1 hrow hnil C
  go_wp2
  go_ret3
  exact ⟨rfl, HB1.out⟩
/-- so many were picked by the reference -/
def RPickP (u : List UInt8) (n f m : Nat) (w : World) (e : Ending) (w' : World) : Prop := ∃ a cap, e = .returned (.tuple #[.slice a m cap, .int .i64 (placeAt (ord u n f) f m), .int .i64 0]) ∧ IntsAt w' (.slice a m cap) (intsN ((ord u n f).take m)) ∧ Below w.heap.size w w'
theorem length_intsN (l : List Nat) : (intsN l).length = l.length := length_toInts l
set_option maxRecDepth 100000 in
theorem rpick_yes (s : ByteArray) (n f : Nat) (hs : s.size ≤ 140737488355328) (h1 : 8 ≤ n) (h2 : n ≤ 4096) (h3 : 1 ≤ f) (h4 : f ≤ n) (m : Nat) (hm : m ≤ (ord s.data.toList n f).length) (w : World) :
    Calls Try.prog 6 #[.string s, .int .i64 n, .int .i64 f, .int .i64 m] w fun e w' => RPickP s.data.toList n f m w e w' := by
  have C := order_any s n f hs h2 h4 w
  have a1 : ¬ (n : Int) < 8 := by omega
  have a2 : ¬ (4096 : Int) < (n : Int) := by omega
  have a3 : ¬ (f : Int) < 1 := by omega
  have a4 : ¬ (n : Int) < (f : Int) := by omega
  have a5 : ¬ (m : Int) < 0 := by omega
  have hl := length_frees s.data.toList n
  rw [← length_ord _ _ f] at hl
  unfold RPickP
  obtain ⟨P, hP⟩ : ∃ P, placeAt (ord s.data.toList n f) f m = P := ⟨_, rfl⟩
  rw [hP]
  obtain ⟨L, hL⟩ : ∃ L, ord s.data.toList n f = L := ⟨_, rfl⟩
  have hsm : ∀ k (h : k < L.length), L[k] < n := fun k h => by
    subst hL
    exact (ord_in h).2.1
  rw [hL] at C hm hl hP ⊢
  have hmi : ¬ (L.length : Int) < (m : Int) := by omega
  have hdb : decide (L.length < m) = false := decide_eq_false (by omega)
  clear h1 h3 h4 hL
  by_cases h0 : m = 0
  · subst h0
    obtain rfl : f = P := by rw [← hP]; rfl
    clear hP hsm hm
    have HF := Lib.hid (show ∀ W, IntsAt W (.slice none 0 0) (intsN (L.take 0)) from fun W => .inl ⟨rfl, rfl⟩)
    go_enter Try.func6, Try.ntmps6
    go_wp2_with fail
    refine C.mono ?_
    rintro e w1 ⟨v, rfl, hrow, hnil, hB1⟩
    obtain ⟨g, cap, rfl, -⟩ := row_cells hrow hnil
    have HB1 := Lib.hid hB1
    clear hB1 hrow hnil C
    go_wp2
    go_ret3
    exact ⟨none, 0, rfl, HF.out _, HB1.out⟩
  · obtain ⟨j, rfl⟩ : ∃ j, m = j + 1 := ⟨m - 1, by omega⟩
    have hjl : j < L.length := by omega
    have hx := hsm j hjl
    obtain ⟨x, hxx⟩ : ∃ x : Nat, L[j]'hjl = x := ⟨_, rfl⟩
    have HP := Lib.hid (show P = x + 1 by rw [← hP, placeAt_succ hjl, hxx])
    have HX := Lib.hid (show (ints L)[j]? = some (.int .i64 (x : Int)) by simp [ints, hjl, hxx])
    have hm1 : (((j + 1 : Nat) : Int) == 0) = false := by simp; omega
    have hm2 : ((j + 1 : Nat) : Int) - 1 = (j : Int) := by omega
    have hxl : (x : Int) ≤ 4096 := by omega
    have hj5 : (j : Int) ≤ 4096 := by omega
    have HI := Lib.hid hjl
    have hjl2 : (j : Int) < (L.length : Int) := by omega
    have HS := Lib.hid hsm
    have hmle : ((j + 1 : Nat) : Int) ≤ (L.length : Int) := by omega
    clear hP hsm hx hm h0 hxx
    obtain ⟨M, hM⟩ : ∃ M : Nat, j + 1 = M := ⟨_, rfl⟩
    rw [hM] at hm1 hm2 hmi hdb a5 hmle ⊢
    have HM := Lib.hid hM
    clear hM
    go_enter Try.func6, Try.ntmps6
    go_wp2_with fail
    refine C.mono ?_
    rintro e w1 ⟨v, rfl, hrow, hnil, hB1⟩
    obtain ⟨g, cap, rfl, _, hgl, hlc, hcm, hcell⟩ := row_cells hrow hnil
    have hcx := hcell j _ HX.out
    have HB1 := Lib.hid hB1
    have HR := Lib.hid (show IntsAt w1 (.slice (some ⟨g, 0, none⟩) M cap) (intsN (L.take M)) from .inr ⟨g, 0, cap, by rw [length_intsN, List.length_take, show min M L.length = M by omega], hgl, fun k hk => by
      have hk2 : k < L.length := by rw [length_intsN, List.length_take] at hk; omega
      rw [Nat.zero_add, hcell k (.int .i64 (L[k] : Int)) (by simp [ints, hk2])]
      simp [intsN]⟩)
    have hmc : (M : Int) ≤ (cap : Int) := by omega
    clear hB1 hrow hnil C hcell
    go_wp2
    go_quiet (fail)
    go_wp2
    go_ret3
    exact ⟨some ⟨g, 0, none⟩, cap, by rw [HP.out]; rfl, HR.out, below_drewN HB1.out _⟩
set_option maxRecDepth 100000 in
set_option maxHeartbeats 2000000 in
theorem same_any (v u : Value) (xs ys : List Int) (hx : xs.length ≤ 281474976710656) (hy : ys.length ≤ 281474976710656) (w : World) (h1 : IntsAt w v xs) (h2 : IntsAt w u ys) :
    Calls Try.prog 8 #[v, u] w fun e w' => e = .returned (.bool (decide (xs = ys))) ∧ Below w.heap.size w w' := by
  obtain ⟨a, ca, rfl, ha⟩ := h1.split
  obtain ⟨c, cc, rfl, hc⟩ := h2.split
  by_cases hl : xs.length = ys.length
  · by_cases h0 : xs = []
    · subst h0
      obtain rfl : ys = [] := List.eq_nil_of_length_eq_zero (by simpa using hl.symm)
      clear ha hc hl h1 h2
      go_enter Try.func8, Try.ntmps8
      go_wp2
      refine wp_loop_rounds 1 ?_
      rw [rounds_succ]
      go_wp2
      go_ret
      exact ⟨rfl, Below.refl _ _⟩
    · obtain ⟨b, off, rfl, hb, hbc⟩ := ha h0
      obtain ⟨b2, off2, rfl, hb2, hbc2⟩ := hc (fun e => h0 (List.eq_nil_of_length_eq_zero (by rw [hl, e]; rfl)))
      have HC := Lib.hid hbc
      have HC2 := Lib.hid hbc2
      have HL := Lib.hid hl
      rw [← hl]
      have hne : ((xs.length : Int) != (xs.length : Int)) = false := by simp
      clear hbc hbc2 hl h1 h2 ha hc h0
      go_enter Try.func8, Try.ntmps8
      go_wp2
      go_loopw [5] (fun i wr => ∃ k : Nat, k ≤ xs.length ∧ i = .int .i64 k ∧ Below w.heap.size w wr ∧ xs.take k = ys.take k) (fun i _ => xs.length - (intOf i).toNat)
      case atStart => exact ⟨0, Nat.zero_le _, rfl, Below.refl _ _, rfl⟩
      case round =>
        obtain ⟨k, hk, rfl, hB, htk⟩ := hrel
        have HT := Lib.hid htk
        clear htk
        by_cases hlt : k < xs.length
        · have hlt2 : k < ys.length := by rw [← HL.out]; exact hlt
          have hc1 : wr.cell? ⟨b, off + k, none⟩ = some (.int .i64 xs[k]) := (hB.cell (p := ⟨b, off + k, none⟩) hb).trans (HC.out k hlt)
          have hc2 : wr.cell? ⟨b2, off2 + k, none⟩ = some (.int .i64 ys[k]) := (hB.cell (p := ⟨b2, off2 + k, none⟩) hb2).trans (HC2.out k hlt2)
          have hki : (k : Int) < (xs.length : Int) := by omega
          by_cases he : xs[k] = ys[k]
          · have HN := Lib.hid (show xs.take (k + 1) = ys.take (k + 1) by rw [List.take_succ_eq_append_getElem hlt, List.take_succ_eq_append_getElem hlt2, HT.out, he])
            rw [← he] at hc2
            have hbe : (xs[k] != xs[k]) = false := by simp
            generalize xs[k] = x at *
            clear hlt2 he
            go_wp2
            go_quiet (fail)
            go_wp2
            go_roundw
            case rel => exact ⟨k + 1, by omega, by go_num, below_drewN hB _, HN.out⟩
            case measure => simp [intOf]; omega
          · have hbe : (xs[k] != ys[k]) = true := by simpa using he
            have HN := Lib.hid (show decide (xs = ys) = false by
              simp only [decide_eq_false_iff_not]; intro e; subst e; exact he rfl)
            generalize xs[k] = x at *
            generalize ys[k] = y at *
            clear hlt2 he
            go_wp2
            go_quiet (fail)
            go_wp2
            go_ret
            exact ⟨ret_bool (by rw [HN.out]), below_drewN hB _⟩
        · have HN := Lib.hid (show xs = ys by
            have h := HT.out
            rwa [List.take_of_length_le (by omega), List.take_of_length_le (by rw [← HL.out]; omega)] at h)
          go_wp2
          go_ret
          exact ⟨ret_bool (by rw [HN.out]; simp), hB⟩
  · have hne : ((xs.length : Int) != (ys.length : Int)) = true := by simp; omega
    have hxy : decide (xs = ys) = false := by simp; intro e; exact hl (by rw [e])
    rw [hxy]
    clear ha hc hl h1 h2 hxy
    go_enter Try.func8, Try.ntmps8
    go_wp2
    go_ret
    exact ⟨rfl, Below.refl _ _⟩

end Go.Proofs.Ytknfakaklmpboaa

