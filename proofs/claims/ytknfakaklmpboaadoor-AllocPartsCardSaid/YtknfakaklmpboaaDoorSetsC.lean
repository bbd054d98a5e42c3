/-
  The iterator over two sets' bytes side by side.
-/
import Derived.RangeFuncNested
import Derived.RangeFuncBound
import Derived.RangeFuncCalls
import Derived.RangeFuncLeaves
import Derived.RangeFuncBox
import Derived.Shelf.Abstract
import Derived.Shelf.RegionOpen
import Derived.OwnWalkIn
import Derived.TacticsInMore
import Derived.LoopNIn
import Derived.LoopIn
import Derived.Maps.AppendAt
import Derived.Test.YtknfakaklmpboaaDoorSetsB
namespace Go.Proofs.YtknfakaklmpboaaDoor
open Go.RowKit Go.Shelf Go SM
attribute [local go_sem] Oper.semAt_some

/-- THE BOXES THAT ARE KEPT: what each holds. -/
def KeepB (l : List (Nat × TypeId × Value)) (A B : World) : Prop := ∀ p ∈ l, Boxed A p.1 p.2.1 p.2.2 → Boxed B p.1 p.2.1 p.2.2
theorem KeepB.trans {l : List (Nat × TypeId × Value)} {A B C : World} (h1 : KeepB l A B) (h2 : KeepB l B C) : KeepB l A C := fun p hp h => h2 p hp (h1 p hp h)
theorem KeepB.refl {l : List (Nat × TypeId × Value)} {A : World} : KeepB l A A := fun _ _ h => h
theorem KeepB.put {l : List (Nat × TypeId × Value)} (W : World) (k : Nat) (o o' : Obj) (ho : W.heap[k]? = some o) (hc : o.isCells = false) : KeepB l W (W.putObj k o') := fun p _ h =>
  h.kept (grownBy_putObj' W k o') (fun e => by
    obtain rfl : p.1 = k := by simpa using e
    rw [show W.heap[p.1]? = _ from h] at ho; cases ho; cases hc)

abbrev encs2 (p : UInt8 × UInt8) : Array Value := #[.int .u8 p.1.toNat, .int .u8 p.2.toNat]
def pairsL (a b : List UInt8) : List (UInt8 × UInt8) := (List.range (max a.length b.length)).map fun i => (gd a i, gd b i)
theorem pairsL_length (a b : List UInt8) : (pairsL a b).length = max a.length b.length := by simp [pairsL]
theorem pairsL_take (a b : List UInt8) (k : Nat) (h : k < max a.length b.length) : (pairsL a b).take (k + 1) = (pairsL a b).take k ++ [(gd a k, gd b k)] := by
  rw [List.take_succ_eq_append_getElem (by rw [pairsL_length]; exact h)]
  simp [pairsL]

set_option maxRecDepth 100000 in
set_option maxHeartbeats 1000000 in
theorem pairs1_in (n : Nat) (hn : 2 ≤ n) (l Ba Bb : Nat) (a b : ByteArray) (ha : a.size ≤ 140737488355328) (hb : b.size ≤ 140737488355328) (J Jx : List (UInt8 × UInt8) → World → Prop)
    (hY : ∀ pre x W, J pre W → pre.length < (pairsL a.data.toList b.data.toList).length → YieldAt Fence.wide (n - 1) Tryd.prog l (encs2 x) W fun e W' =>
      (e = .returned (.bool true) ∧ J (pre ++ [x]) W' ∧ KeepB [(Ba, 9, .string a), (Bb, 9, .string b)] W W') ∨ (e = .returned (.bool false) ∧ Jx (pre ++ [x]) W'))
    (hd : ∀ pre W, J pre W → J pre W.drew)
    (W : World) (hBa : Boxed W Ba 9 (.string a)) (hBb : Boxed W Bb 9 (.string b)) (h0 : J [] W) :
    CallsIn Fence.wide n Tryd.prog 29 #[.func (.yield l) #[] #[], .pointer (some ⟨Ba, 0, none⟩), .pointer (some ⟨Bb, 0, none⟩)] W fun e W' => (∃ v, e = .returned v) ∧
      ((∃ ys, ys = pairsL a.data.toList b.data.toList ∧ J ys W') ∨ (∃ pre, pre <+: pairsL a.data.toList b.data.toList ∧ Jx pre W')) := by
  have hca := hBa.cell
  have hcb := hBb.cell
  have HL := Lib.hid (pairsL_length a.data.toList b.data.toList)
  have hro : Fence.wide.round = none := rfl
  refine callsIn_of_wp Tryd.func29 rfl trivial ?_ rfl
  simp only [Tryd.ntmps29, List.size_toArray, List.length_cons, List.length_nil, Nat.reduceAdd, Nat.reduceSub, Array.replicate_succ, Array.replicate_zero, List.push_toArray, List.append_toArray, List.nil_append, List.cons_append]
  gi_wp2
  gi_loopw [4, 10] (fun _ i wr => ∃ k : Nat, k ≤ max a.size b.size ∧ i = .int .i64 k ∧ Boxed wr Ba 9 (.string a) ∧ Boxed wr Bb 9 (.string b) ∧ J ((pairsL a.data.toList b.data.toList).take k) wr)
    (fun _ i _ => max a.size b.size - (intOf i).toNat)
  case atStart => exact ⟨0, Nat.zero_le _, rfl, hBa, hBb, h0⟩
  case round =>
    obtain ⟨k, hk, rfl, hba, hbb, hj⟩ := hrel
    have hca := hba.cell
    have hcb := hbb.cell
    by_cases hlt : k < max a.size b.size
    · have hlen : ((pairsL a.data.toList b.data.toList).take k).length = k := by rw [List.length_take, HL.out]; simp; omega
      have hY1 := hY _ (gd a.data.toList k, gd b.data.toList k) wr.drew (hd _ _ hj) (by rw [hlen, HL.out]; simpa using hlt)
      rw [← pairsL_take _ _ _ (by simpa using hlt)] at hY1
      have hY2 := YieldAt.mono (R' := fun e W' => ∃ bb : Bool, e = .returned (.bool bb) ∧ (bb = true → J ((pairsL a.data.toList b.data.toList).take (k + 1)) W' ∧ KeepB [(Ba, 9, .string a), (Bb, 9, .string b)] wr.drew W') ∧ (bb = false → Jx ((pairsL a.data.toList b.data.toList).take (k + 1)) W')) hY1 (by
        rintro e W' (⟨rfl, h1, h2⟩ | ⟨rfl, h1⟩)
        · exact ⟨true, rfl, (fun _ => ⟨h1, h2⟩), (fun h => by cases h)⟩
        · exact ⟨false, rfl, (fun h => by cases h), fun _ => h1⟩)
      obtain ⟨fn, tmps, assign, body, hy, hR⟩ := hY2
      dsimp only [encs2] at hy
      have HR := Lib.hid hR
      clear hY1 hR hlen
      have hmx : Tryd.prog.follows .mixedOrders = true := by kernel_rfl
      have hdn : 1 ≤ n - 1 := by omega
      have hdn1 : 1 ≤ n := by omega
      gi_wp2
      gi_region_with_o (first
        | (refine ⟨trivial, ?_⟩; gi_at_call 30; refine (callsIn_wide.2 (byteAt_any _ _ _)).mono ?_; rintro e w' ⟨rfl, rfl⟩)
        | (refine HR.out.mono ?_; rintro e W' ⟨bb, rfl, hb1, hb2⟩))
      all_goals
        cases bb
        · have hx := hb2 rfl
          clear hb1 hb2 hy
          gi_wp2
          refine bodyPost_ret (results_none rfl _ _ _) rfl ?_
          exact ⟨⟨_, rfl⟩, .inr ⟨_, List.take_prefix _ _, hx⟩⟩
        · obtain ⟨hx, hkb⟩ := hb1 rfl
          have hba' := hkb (Ba, 9, .string a) (by simp) hba
          have hbb' := hkb (Bb, 9, .string b) (by simp) hbb
          clear hb1 hb2 hy hkb
          gi_wp2
          go_roundw
          case rel => exact ⟨k + 1, by omega, by go_num, hba', hbb', hx⟩
          case measure => simp [intOf]; omega
    · have hkk : k = max a.size b.size := by omega
      gi_wp2
      go_end0
      exact ⟨⟨_, rfl⟩, .inl ⟨_, rfl, by rw [List.take_of_length_le (by rw [HL.out]; simp; omega)] at hj; exact hj⟩⟩
theorem grownBy_drew (W : World) : W.grownBy W.drew none := ⟨rfl, rfl, rfl, Nat.le_refl _, fun _ _ _ => rfl⟩

/-- THE ITERATOR'S CONTRACT: the pairs of bytes, one by one. -/
theorem pairs_stops (n : Nat) (hn : 2 ≤ n) (Ba Bb : Nat) (a b : ByteArray) (ha : a.size ≤ 140737488355328) (hb : b.size ≤ 140737488355328) (w : World)
    (hBa : Boxed w Ba 9 (.string a)) (hBb : Boxed w Bb 9 (.string b)) :
    SeqStopsK Fence.wide n Tryd.prog 29 #[.pointer (some ⟨Ba, 0, none⟩), .pointer (some ⟨Bb, 0, none⟩)] encs2 (KeepB [(Ba, 9, .string a), (Bb, 9, .string b)])
      (fun ys => ys = pairsL a.data.toList b.data.toList) (fun pre => pre <+: pairsL a.data.toList b.data.toList) (pairsL a.data.toList b.data.toList).length w := fun l J Jx W hW hJ _ hY h0 =>
  pairs1_in n hn l Ba Bb a b ha hb J Jx hY (fun pre W hj => hJ pre W _ none hj (grownBy_drew W) (fun r e => by cases e)) W
    ((hW.block Ba hBa.lt).trans hBa) ((hW.block Bb hBb.lt).trans hBb) h0

/-- pairs(a, b): both are boxed; the function value captures the boxes. -/
theorem pairs_in (n : Nat) (a b : ByteArray) (w : World) :
    CallsIn Fence.wide n Tryd.prog 24 #[.string a, .string b] w fun e w' => e = .returned (.func (.func 29) #[] #[.pointer (some ⟨w.heap.size, 0, none⟩), .pointer (some ⟨w.heap.size + 1, 0, none⟩)]) ∧ w' = (w.alloc (.cells #[.string a] 9)).alloc (.cells #[.string b] 9) := by
  refine callsIn_of_wp Tryd.func24 rfl trivial ?_ rfl
  simp only [Tryd.ntmps24, List.size_toArray, List.length_cons, List.length_nil, Nat.reduceAdd, Nat.reduceSub, Array.replicate_succ, Array.replicate_zero, List.push_toArray, List.append_toArray, List.nil_append, List.cons_append]
  gi_wp2
  go_ret
  exact ⟨rfl, rfl⟩
end Go.Proofs.YtknfakaklmpboaaDoor

