/-
  BlkCl / BlkCk.
-/
import Derived.RangeFuncNested
import Derived.RangeFuncBound
import Derived.RangeFuncCalls
import Derived.RangeFuncLeaves
import Derived.RangeFuncBox
import Derived.Shelf.Abstract
import Derived.Shelf.RegionOpen
import Derived.OwnWalkIn
import Derived.TacticsInMore
import Derived.LoopNIn
import Derived.LoopIn
import Derived.Test.YtknfakaklmpboaaGreatDoorCacIM
import Derived.Test.YtknfakaklmpboaaGreatDoorBlkCm
import Derived.Test.YtknfakaklmpboaaGreatDoorBlkT
import Derived.Deep.RegionHeld3
namespace Go.Proofs.YtknfakaklmpboaaGreatDoor
open Go.RowKit Go.Shelf Go SM
attribute [local go_sem] Oper.semAt_some

/-- blocks of numbers, and of lists of numbers, stay -/
def KpI (A B : World) : Prop := ∀ (k : Nat) (C : Array Value) (t : TypeId) (f : Nat × Nat), (t = 3 ∨ t = 50) → A.heap[k]? = some (.cells C t f) → B.heap[k]? = some (.cells C t f)
theorem KpI.refl {A : World} : KpI A A := fun _ _ _ _ _ h => h
theorem KpI.trans {A B C : World} (h1 : KpI A B) (h2 : KpI B C) : KpI A C := fun k c t f ht h => h2 k c t f ht (h1 k c t f ht h)
theorem KpI.put (W : World) (k : Nat) (o o' : Obj) (ho : W.heap[k]? = some o) (hc : o.isCells = false) : KpI W (W.putObj k o') := fun i C t f _ h => by
  by_cases e : i = k
  · subst e; rw [ho] at h; cases h; cases hc
  · rw [World.putObj_heap_other e]; exact h
theorem KpI.boxed {A B : World} (h : KpI A B) {b : Nat} {v : Value} (hb : Boxed A b 50 v) : Boxed B b 50 v := h _ _ _ _ (.inr rfl) hb
theorem owns_same8 {w w' : World} {base : Nat} {e : TypeId} {size : Nat} {v : Value} {n : Nat} {xs : List Value} (h : w.ownsRow base e size v n xs) (hk : ∀ k, v.ownBlock = some k → w'.heap[k]? = w.heap[k]?) : w'.ownsRow base e size v n xs := by
  refine ⟨h.1, ?_⟩
  rcases h.2 with h1 | ⟨g, cap, cur, rfl, h2, h3, h4⟩
  · exact .inl h1
  · exact .inr ⟨g, cap, cur, rfl, h2, (hk g rfl).trans h3, h4⟩
theorem KpI.row {A B : World} (h : KpI A B) {base n : Nat} {v : Value} {xs : List Value} (hr : A.ownsRow base 3 1 v n xs) : B.ownsRow base 3 1 v n xs :=
  owns_same8 hr (fun k hk => by
    obtain ⟨C, hC⟩ := owns_block hr hk
    rw [hC]
    exact h _ _ _ _ (.inl rfl) hC)

abbrev encsB (Ks : List Int) (j : Nat) : Array Value := #[.int .i64 ((Ks.length - 1 - j : Nat) : Int), .int .i64 (Ks.getD (Ks.length - 1 - j) 0)]
set_option maxRecDepth 100000 in
set_option maxHeartbeats 2000000 in
theorem back1_in (N : Nat) (hN : 2 ≤ N) (l Bs base : Nat) (a : Option Addr) (cap : Nat) (Ks : List Int) (hK : Ks.length ≤ 65536) (J Jx : List Nat → World → Prop)
    (hY : ∀ pre x W, J pre W → pre.length < Ks.length → YieldAt Fence.wide (N - 1) Tryz.prog l (encsB Ks x) W fun e W' =>
      (e = .returned (.bool true) ∧ J (pre ++ [x]) W' ∧ KpI W W') ∨ (e = .returned (.bool false) ∧ Jx (pre ++ [x]) W'))
    (W : World) (hB : Boxed W Bs 50 (.slice a Ks.length cap)) (hR : W.ownsRow base 3 1 (.slice a Ks.length cap) Ks.length (CI.keyVals Ks)) (h0 : J [] W) :
    CallsIn Fence.wide N Tryz.prog 113 #[.func (.yield l) #[] #[], .pointer (some ⟨Bs, 0, none⟩)] W fun e W' => (∃ v, e = .returned v) ∧
      ((∃ ys, ys = List.range Ks.length ∧ J ys W') ∨ (∃ pre : List Nat, True ∧ Jx pre W')) := by
  have hcb := hB.cell
  obtain ⟨n, hn⟩ : ∃ n, Ks.length = n := ⟨_, rfl⟩
  have HN0 := Lib.hid hn
  have hKL := Lib.hid (show (CI.keyVals Ks).length = n by rw [← hn]; simp [CI.keyVals])
  rw [hn] at hB hR hcb hY hK ⊢
  have HY := Lib.hid hY
  clear hY hn
  have hni : (n : Int) ≤ 65536 := by omega
  have hro : Fence.wide.round = none := rfl
  refine callsIn_of_wp Tryz.func113 rfl trivial ?_ rfl
  simp only [Tryz.ntmps113, List.size_toArray, List.length_cons, List.length_nil, Nat.reduceAdd, Nat.reduceSub, Array.replicate_succ, Array.replicate_zero, List.push_toArray, List.append_toArray, List.nil_append, List.cons_append]
  gi_wp2
  gi_loopw [3] (fun i wr => ∃ j : Nat, j ≤ n ∧ i = .int .i64 ((n : Int) - 1 - (j : Int)) ∧ Boxed wr Bs 50 (.slice a n cap) ∧ Hid (wr.ownsRow base 3 1 (.slice a n cap) n (CI.keyVals Ks)) ∧ J (List.range j) wr)
    (fun i _ => (intOf i + 1).toNat)
  case atStart => exact ⟨0, Nat.zero_le _, by simp, hB, Lib.hid hR, h0⟩
  case round =>
    obtain ⟨j, hj, rfl, hb, hr, hJ⟩ := hrel
    have hcb := hb.cell
    by_cases hlt : j < n
    · obtain ⟨p, hp⟩ : ∃ p, n - 1 - j = p := ⟨_, rfl⟩
      have hpn : p < n := by omega
      have hz : (n : Int) - 1 - (j : Int) = (p : Int) := by omega
      rw [hz]
      have hpi : (p : Int) < (n : Int) := by omega
      have hp0 : (0 : Int) ≤ (p : Int) := by omega
      obtain ⟨g, rfl⟩ : ∃ g, a = some ⟨g, 0, none⟩ := by
        rcases hr.out.2 with ⟨_, h⟩ | ⟨g, cp, cur, e, _⟩
        · omega
        · simp only [Value.slice.injEq] at e; exact ⟨g, e.1⟩
      have hck : wr.cell? ⟨g, p, none⟩ = some (.int .i64 (Ks.getD p 0)) := by
        rw [hr.out.cellAt (g := g) (cap := cap) p (by omega)]
        have : p < Ks.length := by rw [HN0.out]; exact hpn
        simp [CI.keyVals, this]
      have hY1 := HY.out (List.range j) j wr hJ (by simp; exact hlt)
      rw [← List.range_succ] at hY1
      have hY2 := YieldAt.mono (R' := fun e W' => ∃ ok : Bool, e = .returned (.bool ok) ∧ (ok = true → J (List.range (j + 1)) W' ∧ KpI wr W') ∧ (ok = false → Jx (List.range (j + 1)) W')) hY1 (by
        rintro e W' (⟨rfl, h1, h2⟩ | ⟨rfl, h1⟩)
        · exact ⟨true, rfl, (fun _ => ⟨h1, h2⟩), (fun h => by cases h)⟩
        · exact ⟨false, rfl, (fun h => by cases h), fun _ => h1⟩)
      obtain ⟨fn, tmps, assign, body, hy, hR2⟩ := hY2
      dsimp only [encsB] at hy
      rw [HN0.out, hp] at hy
      have HR := Lib.hid hR2
      have HP := Lib.hid (And.intro hp hlt)
      generalize Ks.getD p 0 = key at *
      clear hY1 hR2 hp hz
      have hdn : 1 ≤ N - 1 := by omega
      have hdn1 : 1 ≤ N := by omega
      gi_wp2_with (refine HR.out.mono ?_; rintro e W' ⟨ok, rfl, hb1, hb2⟩)
      · have hok : ok = false := by
          have h : (!ok) = true := by assumption
          simpa using h
        refine bodyPost_ret (results_none rfl _ _ _) rfl ?_
        exact ⟨⟨_, rfl⟩, .inr ⟨_, trivial, hb2 hok⟩⟩
      · have hok : ok = true := by
          have h : (!ok) = false := by assumption
          simpa using h
        obtain ⟨hx, hkb⟩ := hb1 hok
        go_roundw
        case rel => exact ⟨j + 1, by omega, by have := HP.out; congr 1 <;> omega, hkb.boxed hb, Lib.hid (hkb.row hr.out), hx⟩
        case measure => have := HP.out; first | (simp [intOf]; omega) | simp [intOf]
    · obtain rfl : j = n := by omega
      have hz : (j : Int) - 1 - (j : Int) = -1 := by omega
      rw [hz]
      gi_wp2
      go_end0
      exact ⟨⟨_, rfl⟩, .inl ⟨_, rfl, hJ⟩⟩
/-- THE ITERATOR'S CONTRACT: each place and its number, from the last one on. -/
theorem back_stops (N : Nat) (hN : 2 ≤ N) (Bs base : Nat) (a : Option Addr) (cap : Nat) (Ks : List Int) (hK : Ks.length ≤ 65536) (w : World)
    (hB : Boxed w Bs 50 (.slice a Ks.length cap)) (hR : w.ownsRow base 3 1 (.slice a Ks.length cap) Ks.length (CI.keyVals Ks)) :
    SeqStopsK Fence.wide N Tryz.prog 113 #[.pointer (some ⟨Bs, 0, none⟩)] (encsB Ks) KpI (fun ys => ys = List.range Ks.length) (fun _ => True) Ks.length w := fun l J Jx W hW _ _ hY h0 =>
  back1_in N hN l Bs base a cap Ks hK J Jx hY W ((hW.block Bs hB.lt).trans hB) (owns_same8 hR (fun k hk => hW.block k (hR.lt k hk).2)) h0
theorem backward_in (N : Nat) (v : Value) (w : World) (hv : ∃ a n c, v = .slice a n c) :
    CallsIn Fence.wide N Tryz.prog 74 #[v] w fun e w' => e = .returned (.func (.func 113) #[] #[.pointer (some ⟨w.heap.size, 0, none⟩)]) ∧ w' = w.alloc (.cells #[v] 50) := by
  obtain ⟨a, n, c, rfl⟩ := hv
  refine callsIn_of_wp Tryz.func74 rfl trivial ?_ rfl
  simp only [Tryz.ntmps74, List.size_toArray, List.length_cons, List.length_nil, Nat.reduceAdd, Nat.reduceSub, Array.replicate_succ, Array.replicate_zero, List.push_toArray, List.append_toArray, List.nil_append, List.cons_append]
  gi_wp2
  go_ret
  exact ⟨rfl, rfl⟩

/-! ### What a Clone keeps from round to round -/
theorem VolAt.keepF {base l b g m c : Nat} {F F' : Nat → Prop} {x : VS} {L : List (Int × ByteArray)} {w w' : World} (h : VolAt base l b g m c F x w) (hc : CI.Cach base F' c 32 L w') (hs : Stir F w w') (hF : ∀ k, F' k → F k ∨ w.heap.size ≤ k) : VolAt base l b g m c F' { x with kept := L } w' := by
  refine ⟨hs.keep h.obj h.apart, h.disk.stay hs (fun i hi hf => h.far i hf hi), hc, fun k hk hf => ?_, fun hk => ?_, h.tle, h.nle, h.big⟩
  · rcases hF k hk with e | e
    · exact h.far k e hf
    · have := h.disk.lt hf; omega
  · rcases hF l hk with e | e
    · exact h.apart e
    · have := lt_of_heap h.obj; omega
structure ClI (w : World) (base l b g m c mm bv bc b' g' m' l2 c2 m2 : Nat) (F0 : Nat → Prop) (x : VS) (P Q : List (Int × ByteArray)) (F F2 : Nat → Prop) (W : World) : Prop where
  bv : Boxed W bv 24 (.pointer (some ⟨l, 0, none⟩))
  bc : Boxed W bc 24 (.pointer (some ⟨l2, 0, none⟩))
  old : VolAt base l b g m c F { x with kept := P } W
  omap : CI.CachM mm base F c 32 P W
  new : VolAt w.heap.size l2 b' g' m' c2 F2 { x with kept := Q } W
  nmap : CI.CachM m2 w.heap.size F2 c2 32 Q W
  far : ∀ k, VFoot l b g m F k → ¬ VFoot l2 b' g' m' F2 k
  stir : Stir (VFoot l b g m F0) w W
  sub : ∀ k, F k → F0 k ∨ w.heap.size ≤ k
section
variable {w W W' : World} {base l b g m c mm bv bc b' g' m' l2 c2 m2 : Nat} {F0 F F2 F' : Nat → Prop} {x : VS} {P Q L : List (Int × ByteArray)}
theorem cach_not {B i c room : Nat} {t : TypeId} {C : Array Value} {f : Nat × Nat} (h : CI.Cach B F c room L W) (hi : W.heap[i]? = some (.cells C t f)) (h1 : t ≠ 107) (h2 : t ≠ 109) : ¬ F i := fun hf => by
  rcases cach_kinds h hf with ⟨C', f', e⟩ | ⟨es, cl, e⟩ | ⟨C', f', e⟩
  · rw [hi] at e; simp at e; exact h1 e.2.1
  · rw [hi] at e; cases e
  · rw [hi] at e; simp at e; exact h2 e.2.1
theorem cach_ints {B c room : Nat} (h : CI.Cach B F c room L W) (hs : Stir F W W') : KpI W W' := fun k C t f ht hk => by
  refine hs.keep hk (cach_not h hk ?_ ?_) <;> rcases ht with rfl | rfl <;> decide
/-- what is kept is asked for -/
theorem ClI.used (h : ClI w base l b g m c mm bv bc b' g' m' l2 c2 m2 F0 x P Q F F2 W) (k : CI.LeftM mm base F c 32 L W W') : ∃ F', ClI w base l b g m c mm bv bc b' g' m' l2 c2 m2 F0 x L Q F' F2 W' := by
  obtain ⟨F', hc, hs, hF⟩ := k
  have hk := h.omap.cach
  have nb : ∀ i, VFoot l2 b' g' m' F2 i → ¬ F i := fun i hi hf => h.far i (.inr (.inr hf)) hi
  refine ⟨F', ⟨hs.keep h.bv (cach_not hk h.bv (by decide) (by decide)), hs.keep h.bc (cach_not hk h.bc (by decide) (by decide)), h.old.keepF hc.cach hs hF, hc, h.new.stay hs nb, h.nmap.stay hs (fun i hi => nb i (.inr (.inr hi))), fun i hi hj => ?_, h.stir.trans hs (fun i hi => ?_), fun i hi => ?_⟩⟩
  · rcases hi with hi | hi | hi
    · exact h.far i (.inl hi) hj
    · exact h.far i (.inr (.inl hi)) hj
    · rcases hF i hi with e | e
      · exact h.far i (.inr (.inr e)) hj
      · have := h.new.lt hj; omega
  · rcases h.sub i hi with e | e
    · exact .inl (.inr (.inr e))
    · exact .inr e
  · rcases hF i hi with e | e
    · exact h.sub i e
    · exact .inr (Nat.le_trans h.stir.size e)
/-- it is put -/
theorem ClI.put (h : ClI w base l b g m c mm bv bc b' g' m' l2 c2 m2 F0 x P Q F F2 W) (k : CI.LeftM m2 w.heap.size F2 c2 32 L W W') : ∃ F2', ClI w base l b g m c mm bv bc b' g' m' l2 c2 m2 F0 x P L F F2' W' := by
  obtain ⟨F', hc, hs, hF⟩ := k
  have hk := h.nmap.cach
  have nb : ∀ i, VFoot l b g m F i → ¬ F2 i := fun i hi hf => h.far i hi (.inr (.inr hf))
  refine ⟨F', ⟨hs.keep h.bv (cach_not hk h.bv (by decide) (by decide)), hs.keep h.bc (cach_not hk h.bc (by decide) (by decide)), h.old.stay hs nb, h.omap.stay hs (fun i hi => nb i (.inr (.inr hi))), h.new.keepF hc.cach hs hF, hc, fun i hi hj => ?_, h.stir.trans hs (fun i hi => .inr (hk.low hi)), h.sub⟩⟩
  rcases hj with hj | hj | hj
  · exact h.far i hi (.inl hj)
  · exact h.far i hi (.inr (.inl hj))
  · rcases hF i hj with e | e
    · exact h.far i hi (.inr (.inr e))
    · have := h.old.lt hi; omega
theorem ClI.below (h : ClI w base l b g m c mm bv bc b' g' m' l2 c2 m2 F0 x P Q F F2 W) (hB : Below W.heap.size W W') : ClI w base l b g m c mm bv bc b' g' m' l2 c2 m2 F0 x P Q F F2 W' :=
  ⟨keeps_of hB h.bv, keeps_of hB h.bc, h.old.below hB, h.omap.later hB, h.new.below hB, h.nmap.later hB, h.far, h.stir.and_below hB, h.sub⟩
theorem vfoot_not {B : Nat} (h : VolAt base l b g m c F x W) (hc : CI.CachM mm base F c 32 L W) {r : Nat} {o : Obj} (hr : B ≤ r) (hm : m < B) (hmm : mm < B) (ho : W.heap[r]? = some o) (hn : o.isCells = false) : ¬ VFoot l b g m F r := by
  obtain ⟨⟨C1, f1, e1⟩, ⟨C2, f2, e2⟩, _⟩ := h.disk.kinds
  rintro (rfl | (rfl | rfl | rfl) | hf)
  · rw [h.obj] at ho; cases ho; simp [VObj, Obj.isCells] at hn
  · rw [e1] at ho; cases ho; simp [Obj.isCells] at hn
  · rw [e2] at ho; cases ho; simp [Obj.isCells] at hn
  · omega
  · obtain ⟨C, t, f, e, _⟩ := hc.cells hf (by omega)
    rw [e] at ho; cases ho; simp [Obj.isCells] at hn
theorem boxed_not {k r : Nat} {t : TypeId} {v : Value} {o : Obj} (h : Boxed W k t v) (ho : W.heap[r]? = some o) (hn : o.isCells = false) : k ≠ r := fun e => by
  subst e
  rw [show W.heap[k]? = _ from h] at ho
  cases ho
  simp [Obj.isCells] at hn
theorem ClI.own (B : Nat) (hB : w.heap.size ≤ B) (hm : m < B ∧ mm < B ∧ m' < B ∧ m2 < B) (pq : List Nat → List (Int × ByteArray) × List (Int × ByteArray)) :
    OwnFrom B (fun pre W => ∃ F F2, ClI w base l b g m c mm bv bc b' g' m' l2 c2 m2 F0 x (pq pre).1 (pq pre).2 F F2 W) := by
  rintro s X Y row ⟨F, F2, h⟩ hg hr
  have hs := stir_of_grown hg
  have n1 : ∀ i, VFoot l b g m F i → ¬ row = some i := fun i hi e => by
    obtain ⟨h1, o, h2, h3⟩ := hr i e
    exact vfoot_not h.old h.omap h1 hm.1 hm.2.1 h2 h3 hi
  have n2 : ∀ i, VFoot l2 b' g' m' F2 i → ¬ row = some i := fun i hi e => by
    obtain ⟨h1, o, h2, h3⟩ := hr i e
    exact vfoot_not h.new h.nmap h1 hm.2.2.1 hm.2.2.2 h2 h3 hi
  refine ⟨F, F2, hs.keep h.bv (fun e => ?_), hs.keep h.bc (fun e => ?_), h.old.stay hs n1, h.omap.stay hs (fun i hi => n1 i (.inr (.inr hi))), h.new.stay hs n2, h.nmap.stay hs (fun i hi => n2 i (.inr (.inr hi))), h.far, h.stir.trans hs (fun i hi => ?_), h.sub⟩
  · obtain ⟨_, o, h2, h3⟩ := hr _ e
    exact boxed_not h.bv h2 h3 rfl
  · obtain ⟨_, o, h2, h3⟩ := hr _ e
    exact boxed_not h.bc h2 h3 rfl
  · exact .inr (Nat.le_trans hB (hr i hi).1)
theorem cach_from {B base c room : Nat} (h : CI.CachM mm base F c room L W) (hs : Stir F W W') (hm : mm < B) : KeepsFrom B W W' :=
  ⟨hs.size, fun i o hB hi ho => hs.keep hi (fun hf => by
    obtain ⟨C, t, f, e, _⟩ := h.cells hf (by omega)
    rw [hi] at e
    cases e
    simp [Obj.isCells] at ho)⟩
end
end Go.Proofs.YtknfakaklmpboaaGreatDoor

namespace Go.Proofs.YtknfakaklmpboaaGreatDoor
open Go.RowKit Go.Shelf Go SM
attribute [local go_sem] Oper.semAt_some

theorem VolAt.keys {base l b g m c : Nat} {F : Nat → Prop} {x : VS} {w : World} (h : VolAt base l b g m c F x w) : (CI.keysL x.kept).Nodup ∧ x.kept.length ≤ 32 ∧ ∀ p ∈ x.kept, CI.Ok p.1 := by
  obtain ⟨m', r, T, nd, nx, pv, D, a1, a2, a3, a4, a5⟩ := h.kept
  have hl : x.kept.length = T.length := by rw [← a2, List.length_map]
  refine ⟨?_, by have := a5.1; omega, fun p hp => ?_⟩
  · have := a1.keys
    rw [← a2]
    unfold CI.keysL
    rw [List.map_map]
    exact this
  · rw [← a2] at hp
    obtain ⟨i, hi, rfl⟩ := List.mem_map.1 hp
    exact a1.ok i hi
/-- what a Clone leaves: the old one, the new one -/
def ClP (base l b g m c b' g' m' : Nat) (F0 : Nat → Prop) (x : VS) (w : World) (e : Ending) (w' : World) : Prop :=
  ∃ l' c' F F', e = .returned (.pointer (some ⟨l', 0, none⟩)) ∧ w.heap.size ≤ l' ∧ VolAt base l b g m c F x w' ∧ VolAt w.heap.size l' b' g' m' c' F' x w' ∧ (∀ k, VFoot l b g m F k → ¬ VFoot l' b' g' m' F' k) ∧ Stir (VFoot l b g m F0) w w' ∧ ∀ k, F k → F0 k ∨ w.heap.size ≤ k
set_option maxRecDepth 100000 in
set_option maxHeartbeats 4000000 in
theorem vclone_in (n : Nat) (hn : 6 ≤ n) {base l b g m c b' g' m' : Nat} {F0 : Nat → Prop} {x : VS} {w : World} (h : VolAt base l b g m c F0 x w) (hd : DiskAt b' g' m' x.disk w) (hfar : ∀ k, VFoot l b g m F0 k → ¬ Foot b' g' m' k) :
    CallsIn Fence.wide n Tryz.prog 23 #[.pointer (some ⟨l, 0, none⟩), .pointer (some ⟨b', 0, none⟩)] w fun e w' => ClP base l b g m c b' g' m' F0 x w e w' := by
  have h1n : 1 ≤ n := by omega
  have hro : Fence.wide.round = none := rfl
  obtain ⟨w1, hw1⟩ : ∃ w1, w.alloc (.cells #[.pointer (some ⟨l, 0, none⟩)] 24) = w1 := ⟨_, rfl⟩
  have hB1 : Below w.heap.size w w1 := by rw [← hw1]; exact (Below.refl _ w).alloc (Nat.le_refl _) _
  have hbv : Boxed w1 w.heap.size 24 (.pointer (some ⟨l, 0, none⟩)) := by rw [← hw1]; exact Boxed.new w _ _
  have HV1 := Lib.hid (h.below hB1)
  have HD1 := Lib.hid (hd.below hB1)
  have HBv := Lib.hid hbv
  have HB1 := Lib.hid hB1
  have HH := Lib.hid h
  have HD := Lib.hid hd
  have c1 := VObj.c1 HV1.out.obj
  have c2 := VObj.c2 HV1.out.obj
  have cv := hbv.cell
  have CO := vover_any HD1.out h.big h.nle h.tle
  unfold numV at CO
  clear h hd hB1 hbv
  refine callsIn_of_wp_marks Tryz.func23 rfl trivial ?_ rfl
  simp only [Tryz.ntmps23, List.size_toArray, List.length_cons, List.length_nil, Nat.reduceAdd, Nat.reduceSub, Array.replicate_succ, Array.replicate_zero, List.push_toArray, List.append_toArray, List.nil_append, List.cons_append]
  refine wpIn_wide.2 ?_
  go_wp2_with fail
  refine CO.mono ?_
  rintro e w2 ⟨l2, c2', F2, rfl, hl2, hv2, hB2⟩
  have HV2 := Lib.hid hv2
  have HB2' := Lib.hid (HB1.out.trans (hB2.mono HB1.out.size))
  clear hv2 CO c1 c2
  go_wp2_with fail
  obtain ⟨w3, hw3⟩ : ∃ w3, w2.alloc (.cells #[.pointer (some ⟨l2, 0, none⟩)] 24) = w3 := ⟨_, rfl⟩
  have hB3 : Below w2.heap.size w2 w3 := by rw [← hw3]; exact (Below.refl _ w2).alloc (Nat.le_refl _) _
  have hB3d := hB3.trans ((Below.refl _ w3).drew.mono hB3.size)
  have HBc := Lib.hid (show Boxed w3.drew w2.heap.size 24 (.pointer (some ⟨l2, 0, none⟩)) by rw [← hw3]; exact Boxed.new w2 _ _)
  have HBv3 := Lib.hid (show Boxed w3.drew w.heap.size 24 (.pointer (some ⟨l, 0, none⟩)) from keeps_of hB3d (keeps_of hB2 HBv.out))
  have HO3 := Lib.hid ((HV1.out.below hB2).below hB3d)
  have HN3 := Lib.hid (HV2.out.below hB3d)
  have HB3 := Lib.hid (HB2'.out.trans (hB3d.mono HB2'.out.size))
  have d0 := HBc.out.cell
  have d1 := HBv3.out.cell
  have d2 := VObj.c4 HO3.out.obj
  have d3 := VObj.c4 HN3.out.obj
  have d4 := VObj.fr HN3.out.obj 4
  obtain ⟨w4, hw4⟩ : ∃ w4, (w3.setCell ⟨l2, 4, none⟩ (.bool x.dead)).drew = w4 := ⟨_, rfl⟩
  obtain ⟨hs1, hs2⟩ := HN3.out.set x.dead
  obtain ⟨mm, hmm⟩ := HO3.out.kept.named
  obtain ⟨m2, hm2⟩ := HN3.out.kept.named
  have hlt3 := HB1.out.size
  have hHlt := fun k (hk : VFoot l b g m F0 k) => HH.out.lt hk
  have hnl : ∀ k, VFoot l b g m F0 k → k ≠ l2 := fun k hk e => by have := hHlt k hk; omega
  have hnF : ∀ k, F2 k → w1.heap.size ≤ k := fun k hk => HV2.out.kept.low hk
  have hst : Stir (· = l2) w3.drew w4 := by rw [← hw4]; exact hs2
  have hlow2 : ¬ w.heap.size = l2 ∧ ¬ w2.heap.size = l2 := ⟨fun e => by
    have := HN3.out.obj; rw [← e, show w3.drew.heap[w.heap.size]? = _ from HBv3.out] at this; simp [VObj] at this, fun e => by
    have := HN3.out.obj; rw [← e, show w3.drew.heap[w2.heap.size]? = _ from HBc.out] at this; simp [VObj] at this⟩
  have hw1w : w.heap.size < w1.heap.size := HBv.out.lt
  have HC := Lib.hid (show ClI w base l b g m c mm w.heap.size w2.heap.size b' g' m' l2 c2' m2 F0 x x.kept [] F0 F2 w4 from
    ⟨hst.keep HBv3.out hlow2.1, hst.keep HBc.out hlow2.2, HO3.out.stay hst (fun i hi e => hnl i hi e), hmm.stay hst (fun i hi e => hnl i (.inr (.inr hi)) e),
      (show VolAt w.heap.size l2 b' g' m' c2' F2 { x with kept := [] } w4 from by rw [← hw4]; exact hs1.lower hlt3), by
        obtain ⟨r, T, nd, nx, pv, D, q1, q2, q3, q4, q5⟩ := hm2.stay hst (fun i hi e => HN3.out.apart (e ▸ hi))
        exact ⟨r, T, nd, nx, pv, D, q1, q2, q3, fun k hk => Nat.le_trans hlt3 (q4 k hk), q5⟩,
      fun k hk hj => by
        rcases hj with hj | hj | hj
        · exact hnl k hk hj
        · exact hfar k hk hj
        · have := hnF k hj; have := hHlt k hk; omega,
      (Stir.of_below (F := VFoot l b g m F0) HB3.out).trans hst (fun i e => .inr (by omega)), fun k hk => .inl hk⟩)
  have e0 := HC.out.bv.cell
  have e1 := VObj.c3 HC.out.old.obj
  have CK := CI.keys_any HC.out.old.kept
  simp only at CK
  have hk3 := HH.out.keys
  have hmb : m < w4.heap.size ∧ mm < w4.heap.size ∧ m' < w4.heap.size ∧ m2 < w4.heap.size := ⟨HC.out.old.lt (.inr (.inl (.inr (.inr rfl)))), HC.out.old.lt (.inr (.inr HC.out.omap.at_map)), HC.out.new.lt (.inr (.inl (.inr (.inr rfl)))), HC.out.new.lt (.inr (.inr HC.out.nmap.at_map))⟩
  have HMb := Lib.hid hmb
  have HK3 := Lib.hid hk3
  have hlK : (CI.keysL x.kept).length = x.kept.length := by simp [CI.keysL]
  have HLK := Lib.hid hlK
  have hstz := HC.out.stir.size
  rw [hw3]
  clear hB2 hB3 hB3d cv hs1 hs2 hmm hm2 hHlt hnl hnF hst hlow2 hk3 hmb hlK hw3 hlt3
  go_region
  clear d0 d1 d2 d3 d4 hw4
  go_wp2_with fail
  refine CK.mono ?_
  rintro e w5 ⟨v, rfl, hrow, hB5⟩
  obtain ⟨a, cap, rfl⟩ := row_shape hrow
  have HC5 := Lib.hid (HC.out.below hB5)
  have HR5 := Lib.hid hrow
  have HS5 := Lib.hid hB5.size
  clear hrow hB5 CK e0 e1
  go_wp2_with fail
  refine (callsIn_wide.1 (backward_in n (.slice a (CI.keysL x.kept).length cap) w5 ⟨_, _, _, rfl⟩)).mono ?_
  rintro e w6 ⟨rfl, hw6⟩
  have hB6 : Below w5.heap.size w5 w6 := by rw [hw6]; exact (Below.refl _ w5).alloc (Nat.le_refl _) _
  have hbx : Boxed w6 w5.heap.size 50 (.slice a (CI.keysL x.kept).length cap) := by rw [hw6]; exact Boxed.new w5 _ _
  have hr6 := owns_same8 HR5.out (fun k hk => hB6.block k (HR5.out.lt k hk).2)
  have HC6 := Lib.hid (HC5.out.below hB6)
  have HS6 := Lib.hid (Nat.le_trans HS5.out hB6.size)
  have hsz6 : w.heap.size ≤ w6.heap.size := by have := HS6.out; omega
  have hOwn := ClI.own (base := base) (l := l) (b := b) (g := g) (m := m) (c := c) (mm := mm) (bv := w.heap.size) (bc := w2.heap.size) (b' := b') (g' := g') (m' := m') (l2 := l2) (c2 := c2') (m2 := m2) (F0 := F0) (x := x) (w := w) w6.heap.size hsz6 (by have := HMb.out; have := HS6.out; omega) (fun pre => pre.foldl (stepC x.kept) (x.kept, []))
  clear hB6 hw6
  go_wp2_with fail
  refine (wpIn_wide (n := n)).1 ?_
  refine wpIn_rangeFunc_ownG hro h1n (gf := 113) (lb := #[.pointer (some ⟨w5.heap.size, 0, none⟩)]) rfl trivial (enters_of Tryz.func113 (by kernel_rfl) rfl)
    (back_stops (n - 1) (by omega) w5.heap.size w4.heap.size a cap (CI.keysL x.kept) (by have := HLK.out; have := HK3.out.2.1; omega) w6 hbx hr6) KpI.trans (fun W l o o' _ h1 h2 _ => KpI.put W l o o' h1 h2) (Below.refl _ _) (fun _ => rfl)
    (fun pre W => ∃ F F2, ClI w base l b g m c mm w.heap.size w2.heap.size b' g' m' l2 c2' m2 F0 x (pre.foldl (stepC x.kept) (x.kept, [])).1 (pre.foldl (stepC x.kept) (x.kept, [])).2 F F2 W)
    (fun _ _ _ => False) hOwn (fun _ _ _ _ _ hs _ _ => hs) ⟨F0, F2, HC6.out⟩
    (fun j => { tmps := #[.pointer (some ⟨l, 0, none⟩), .pointer (some ⟨b', 0, none⟩), .pointer (some ⟨w.heap.size, 0, none⟩), undef, .pointer none, .pointer (some ⟨w2.heap.size, 0, none⟩), undef, (.int .i64 ((CI.keysL x.kept).getD ((CI.keysL x.kept).length - 1 - j) 0)), undef, undef, .pointer (some ⟨b', 0, none⟩), .pointer (some ⟨l, 0, none⟩), .pointer (some ⟨l, 0, none⟩), .pointer (some ⟨l, 1, none⟩), .agg #[.int .i64 x.num, .string x.text], .pointer (some ⟨l2, 0, none⟩), .pointer (some ⟨l2, 0, none⟩), .pointer (some ⟨l, 0, none⟩), .pointer (some ⟨l, 0, none⟩), .pointer (some ⟨l, 4, none⟩), .bool x.dead, .pointer (some ⟨l2, 0, none⟩), .pointer (some ⟨l2, 4, none⟩), .pointer (some ⟨l, 0, none⟩), .pointer (some ⟨l, 0, none⟩), .pointer (some ⟨l, 3, none⟩), .pointer (some ⟨c, 0, none⟩), .slice a (CI.keysL x.kept).length cap, .func (.func 113) #[] #[.pointer (some ⟨w5.heap.size, 0, none⟩)], (.int .i64 (((CI.keysL x.kept).length - 1 - j : Nat) : Int)), (.int .i64 ((CI.keysL x.kept).getD ((CI.keysL x.kept).length - 1 - j) 0)), undef, undef, undef, undef, undef, undef, undef, undef, undef, undef, undef, undef, undef, undef, undef, undef, undef], defers := [] }) ?assign ?body ?done ?stop
  case assign =>
    intro rd j W K hK
    gi_wp2
    exact hK
  case body =>
    rintro rd pre j W ⟨F, F2, hC⟩ hlt
    have hNx : (pre ++ [j]).foldl (stepC x.kept) (x.kept, []) = stepC x.kept (pre.foldl (stepC x.kept) (x.kept, [])) j := by rw [List.foldl_append]; rfl
    have HNx := Lib.hid hNx
    dsimp only
    rw [HLK.out]
    obtain ⟨key, hkey⟩ : ∃ key, (CI.keysL x.kept).getD (x.kept.length - 1 - j) 0 = key := ⟨_, rfl⟩
    have hok : CI.Ok key := by
      rw [← hkey, List.getD_eq_getElem?_getD]
      cases hj : (CI.keysL x.kept)[x.kept.length - 1 - j]? with
      | none => exact ⟨by decide, by decide⟩
      | some z =>
        have hz := List.mem_of_getElem? hj
        unfold CI.keysL at hz
        obtain ⟨p, hp, rfl⟩ := List.mem_map.1 hz
        exact HK3.out.2.2 p hp
    rw [hkey]
    clear hNx
    have hC' := hC
    obtain ⟨P, hP⟩ : ∃ P, (pre.foldl (stepC x.kept) (x.kept, [])).1 = P := ⟨_, rfl⟩
    obtain ⟨Q, hQ⟩ : ∃ Q, (pre.foldl (stepC x.kept) (x.kept, [])).2 = Q := ⟨_, rfl⟩
    rw [hP, hQ] at hC'
    obtain ⟨pay, hpay⟩ : ∃ pay, (CI.getL P key).getD ⟨#[]⟩ = pay := ⟨_, rfl⟩
    have hst : stepC x.kept (pre.foldl (stepC x.kept) (x.kept, [])) j = (CI.useL P key, CI.putL 32 Q key pay) := by
      rw [stepC_eq, hP, hQ, hkey, hpay]
    have HSt := Lib.hid (HNx.out.trans hst)
    clear hst
    have CG : Calls Tryz.prog 34 #[.pointer (some ⟨c, 0, none⟩), .int .i64 key] W fun e w' => ∃ okb, e = .returned (.tuple #[.string pay, .bool okb]) ∧ CI.LeftM mm base F c 32 (CI.useL P key) W w' := by
      cases hg : CI.getL P key with
      | none =>
        have : pay = ⟨#[]⟩ := by rw [← hpay, hg]; rfl
        subst this
        exact (CI.get_noneM hC'.omap hok hg).mono fun _ _ hh => ⟨false, hh.1, by unfold CI.useL; rw [hg]; exact hh.2⟩
      | some z =>
        have : pay = z := by rw [← hpay, hg]; rfl
        subst this
        exact (CI.get_someM hC'.omap hok hg).mono fun _ _ hh => ⟨true, hh.1, by unfold CI.useL; rw [hg]; exact hh.2⟩
    have HCx := Lib.hid hC'
    have e0 := hC'.bv.cell
    have e1 := VObj.c3 hC'.old.obj
    have HMM := Lib.hid (show mm < w6.heap.size ∧ m2 < w6.heap.size by have := HMb.out; have := HS6.out; omega)
    clear hC hC' hP hQ hpay hkey hlt hOwn HNx
    generalize CI.useL P key = P2 at *
    generalize (CI.keysL x.kept).length = nk at *
    have hdep : 1 ≤ n - 1 - 1 := by omega
    have hdep2 : 1 ≤ n - 1 := by omega
    gi_wp2_with (first
      | (refine ⟨trivial, ?_⟩; gi_at_call 34; refine (CallsIn.inRound _ (callsIn_wide.2 CG)).mono ?_; rintro e w7 ⟨okb, rfl, hl7⟩; obtain ⟨F', hC7⟩ := HCx.out.used hl7; obtain ⟨F'', hc7, hs7, _⟩ := hl7; have HC7 := Lib.hid hC7; have HA7 := Lib.hid (cach_ints HCx.out.omap.cach hs7); have HF7 := Lib.hid (cach_from (B := w6.heap.size) HCx.out.omap hs7 HMM.out.1); have f0 := hC7.bc.cell; have f1 := VObj.c3 hC7.new.obj; clear hc7 hs7 hC7 CG e0 e1)
      | (refine ⟨trivial, ?_⟩; gi_at_call 38; refine (CallsIn.inRound _ (callsIn_wide.2 (CI.put_anyM HC7.out.nmap hok pay))).mono ?_; rintro e w8 ⟨rfl, hl8⟩; obtain ⟨F2', hC8⟩ := HC7.out.put hl8; obtain ⟨F2'', hc8, hs8, _⟩ := hl8; have HC8 := Lib.hid hC8; have HA8 := Lib.hid (cach_ints HC7.out.nmap.cach hs8); have HF8 := Lib.hid (cach_from (B := w6.heap.size) HC7.out.nmap hs8 HMM.out.2); clear hc8 hs8 hC8 f0 f1))
    exact ⟨HF7.out.trans HF8.out, HA7.out.trans HA8.out, F', F2', by rw [HSt.out]; exact HC8.out⟩
  case done =>
    rintro D ys W hD rfl ⟨F, F2, hC⟩ hK
    have hI := hOwn.putObj (s := List.range (CI.keysL x.kept).length) (.deferred none) ⟨F, F2, hC⟩ hD hK rfl
    have hf := fold_range HK3.out.1 HK3.out.2.1 x.kept.length (Nat.le_refl _)
    rw [Nat.sub_self, backL_zero, List.drop_zero] at hf
    rw [HLK.out, hf] at hC hI
    simp only at hC hI
    have e0 := hC.bc.cell
    have HI := Lib.hid hI
    clear hI hf hOwn
    dsimp only
    go_wp2
    refine ⟨by simp, .inl ⟨_, _, rfl, run_takeDeferred hK, ?_⟩⟩
    obtain ⟨F', F2', h⟩ := HI.out
    exact ⟨_, results_tmp rfl _ _ _, l2, c2', F', F2', rfl, by omega, h.old, h.new, h.far, h.stir, h.sub⟩
  case stop =>
    rintro D c pre W _ _ h _
    exact h.elim
end Go.Proofs.YtknfakaklmpboaaGreatDoor

