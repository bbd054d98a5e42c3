/-
  BlkCl / BlkCk.
-/
import Derived.RangeFuncNested
import Derived.RangeFuncBound
import Derived.RangeFuncCalls
import Derived.RangeFuncLeaves
import Derived.RangeFuncBox
import Derived.Shelf.Abstract
import Derived.Shelf.RegionOpen
import Derived.OwnWalkIn
import Derived.TacticsInMore
import Derived.LoopNIn
import Derived.LoopIn
import Derived.Test.YtmloljjllmmkoaaGreatCacIM
import Derived.Test.YtmloljjllmmkoaaGreatBlkCm
import Derived.Test.YtmloljjllmmkoaaGreatBS
import Derived.Deep.RegionHeld3
namespace Go.Proofs.YtmloljjllmmkoaaGreat
open Go.RowKit Go.Shelf Go SM
attribute [local go_sem] Oper.semAt_some

/-- blocks of numbers, and of lists of numbers, stay -/
def KpI (A B : World) : Prop := ∀ (k : Nat) (C : Array Value) (t : TypeId) (f : Nat × Nat), (t = 3 ∨ t = 34) → A.heap[k]? = some (.cells C t f) → B.heap[k]? = some (.cells C t f)
theorem KpI.refl {A : World} : KpI A A := fun _ _ _ _ _ h => h
theorem KpI.trans {A B C : World} (h1 : KpI A B) (h2 : KpI B C) : KpI A C := fun k c t f ht h => h2 k c t f ht (h1 k c t f ht h)
theorem KpI.put (W : World) (k : Nat) (o o' : Obj) (ho : W.heap[k]? = some o) (hc : o.isCells = false) : KpI W (W.putObj k o') := fun i C t f _ h => by
  by_cases e : i = k
  · subst e; rw [ho] at h; cases h; cases hc
  · rw [World.putObj_heap_other e]; exact h
theorem KpI.boxed {A B : World} (h : KpI A B) {b : Nat} {v : Value} (hb : Boxed A b 34 v) : Boxed B b 34 v := h _ _ _ _ (.inr rfl) hb
theorem owns_same8 {w w' : World} {base : Nat} {e : TypeId} {size : Nat} {v : Value} {n : Nat} {xs : List Value} (h : w.ownsRow base e size v n xs) (hk : ∀ k, v.ownBlock = some k → w'.heap[k]? = w.heap[k]?) : w'.ownsRow base e size v n xs := by
  refine ⟨h.1, ?_⟩
  rcases h.2 with h1 | ⟨g, cap, cur, rfl, h2, h3, h4⟩
  · exact .inl h1
  · exact .inr ⟨g, cap, cur, rfl, h2, (hk g rfl).trans h3, h4⟩
theorem KpI.row {A B : World} (h : KpI A B) {base n : Nat} {v : Value} {xs : List Value} (hr : A.ownsRow base 3 1 v n xs) : B.ownsRow base 3 1 v n xs :=
  owns_same8 hr (fun k hk => by
    obtain ⟨C, hC⟩ := owns_block hr hk
    rw [hC]
    exact h _ _ _ _ (.inl rfl) hC)

abbrev encsB (Ks : List Int) (j : Nat) : Array Value := #[.int .i64 ((Ks.length - 1 - j : Nat) : Int), .int .i64 (Ks.getD (Ks.length - 1 - j) 0)]
/-! ### What a Clone keeps from round to round -/
theorem VolAt.keepF {base l b g m c : Nat} {F F' : Nat → Prop} {x : VS} {L : List (Int × ByteArray)} {w w' : World} (h : VolAt base l b g m c F x w) (hc : CI.Cach base F' c 32 L w') (hs : Stir F w w') (hF : ∀ k, F' k → F k ∨ w.heap.size ≤ k) : VolAt base l b g m c F' { x with kept := L } w' := by
  refine ⟨hs.keep h.obj h.apart, h.disk.stay hs (fun i hi hf => h.far i hf hi), hc, fun k hk hf => ?_, fun hk => ?_, h.tle, h.nle, h.big⟩
  · rcases hF k hk with e | e
    · exact h.far k e hf
    · have := h.disk.lt hf; omega
  · rcases hF l hk with e | e
    · exact h.apart e
    · have := lt_of_heap h.obj; omega
structure ClI (w : World) (base l b g m c mm bv bc b' g' m' l2 c2 m2 : Nat) (F0 : Nat → Prop) (x : VS) (P Q : List (Int × ByteArray)) (F F2 : Nat → Prop) (W : World) : Prop where
  bv : Boxed W bv 25 (.pointer (some ⟨l, 0, none⟩))
  bc : Boxed W bc 25 (.pointer (some ⟨l2, 0, none⟩))
  old : VolAt base l b g m c F { x with kept := P } W
  omap : CI.CachM mm base F c 32 P W
  new : VolAt w.heap.size l2 b' g' m' c2 F2 { x with kept := Q } W
  nmap : CI.CachM m2 w.heap.size F2 c2 32 Q W
  far : ∀ k, VFoot l b g m F k → ¬ VFoot l2 b' g' m' F2 k
  stir : Stir (VFoot l b g m F0) w W
  sub : ∀ k, F k → F0 k ∨ w.heap.size ≤ k
section
variable {w W W' : World} {base l b g m c mm bv bc b' g' m' l2 c2 m2 : Nat} {F0 F F2 F' : Nat → Prop} {x : VS} {P Q L : List (Int × ByteArray)}
theorem cach_not {B i c room : Nat} {t : TypeId} {C : Array Value} {f : Nat × Nat} (h : CI.Cach B F c room L W) (hi : W.heap[i]? = some (.cells C t f)) (h1 : t ≠ 102) (h2 : t ≠ 104) : ¬ F i := fun hf => by
  rcases cach_kinds h hf with ⟨C', f', e⟩ | ⟨es, cl, e⟩ | ⟨C', f', e⟩
  · rw [hi] at e; simp at e; exact h1 e.2.1
  · rw [hi] at e; cases e
  · rw [hi] at e; simp at e; exact h2 e.2.1
theorem cach_ints {B c room : Nat} (h : CI.Cach B F c room L W) (hs : Stir F W W') : KpI W W' := fun k C t f ht hk => by
  refine hs.keep hk (cach_not h hk ?_ ?_) <;> rcases ht with rfl | rfl <;> decide
/-- what is kept is asked for -/
theorem ClI.used (h : ClI w base l b g m c mm bv bc b' g' m' l2 c2 m2 F0 x P Q F F2 W) (k : CI.LeftM mm base F c 32 L W W') : ∃ F', ClI w base l b g m c mm bv bc b' g' m' l2 c2 m2 F0 x L Q F' F2 W' := by
  obtain ⟨F', hc, hs, hF⟩ := k
  have hk := h.omap.cach
  have nb : ∀ i, VFoot l2 b' g' m' F2 i → ¬ F i := fun i hi hf => h.far i (.inr (.inr hf)) hi
  refine ⟨F', ⟨hs.keep h.bv (cach_not hk h.bv (by decide) (by decide)), hs.keep h.bc (cach_not hk h.bc (by decide) (by decide)), h.old.keepF hc.cach hs hF, hc, h.new.stay hs nb, h.nmap.stay hs (fun i hi => nb i (.inr (.inr hi))), fun i hi hj => ?_, h.stir.trans hs (fun i hi => ?_), fun i hi => ?_⟩⟩
  · rcases hi with hi | hi | hi
    · exact h.far i (.inl hi) hj
    · exact h.far i (.inr (.inl hi)) hj
    · rcases hF i hi with e | e
      · exact h.far i (.inr (.inr e)) hj
      · have := h.new.lt hj; omega
  · rcases h.sub i hi with e | e
    · exact .inl (.inr (.inr e))
    · exact .inr e
  · rcases hF i hi with e | e
    · exact h.sub i e
    · exact .inr (Nat.le_trans h.stir.size e)
/-- it is put -/
theorem ClI.put (h : ClI w base l b g m c mm bv bc b' g' m' l2 c2 m2 F0 x P Q F F2 W) (k : CI.LeftM m2 w.heap.size F2 c2 32 L W W') : ∃ F2', ClI w base l b g m c mm bv bc b' g' m' l2 c2 m2 F0 x P L F F2' W' := by
  obtain ⟨F', hc, hs, hF⟩ := k
  have hk := h.nmap.cach
  have nb : ∀ i, VFoot l b g m F i → ¬ F2 i := fun i hi hf => h.far i hi (.inr (.inr hf))
  refine ⟨F', ⟨hs.keep h.bv (cach_not hk h.bv (by decide) (by decide)), hs.keep h.bc (cach_not hk h.bc (by decide) (by decide)), h.old.stay hs nb, h.omap.stay hs (fun i hi => nb i (.inr (.inr hi))), h.new.keepF hc.cach hs hF, hc, fun i hi hj => ?_, h.stir.trans hs (fun i hi => .inr (hk.low hi)), h.sub⟩⟩
  rcases hj with hj | hj | hj
  · exact h.far i hi (.inl hj)
  · exact h.far i hi (.inr (.inl hj))
  · rcases hF i hj with e | e
    · exact h.far i hi (.inr (.inr e))
    · have := h.old.lt hi; omega
theorem ClI.below (h : ClI w base l b g m c mm bv bc b' g' m' l2 c2 m2 F0 x P Q F F2 W) (hB : Below W.heap.size W W') : ClI w base l b g m c mm bv bc b' g' m' l2 c2 m2 F0 x P Q F F2 W' :=
  ⟨keeps_of hB h.bv, keeps_of hB h.bc, h.old.below hB, h.omap.later hB, h.new.below hB, h.nmap.later hB, h.far, h.stir.and_below hB, h.sub⟩
theorem vfoot_not {B : Nat} (h : VolAt base l b g m c F x W) (hc : CI.CachM mm base F c 32 L W) {r : Nat} {o : Obj} (hr : B ≤ r) (hm : m < B) (hmm : mm < B) (ho : W.heap[r]? = some o) (hn : o.isCells = false) : ¬ VFoot l b g m F r := by
  obtain ⟨⟨C1, f1, e1⟩, ⟨C2, f2, e2⟩, _⟩ := h.disk.kinds
  rintro (rfl | (rfl | rfl | rfl) | hf)
  · rw [h.obj] at ho; cases ho; simp [VObj, Obj.isCells] at hn
  · rw [e1] at ho; cases ho; simp [Obj.isCells] at hn
  · rw [e2] at ho; cases ho; simp [Obj.isCells] at hn
  · omega
  · obtain ⟨C, t, f, e, _⟩ := hc.cells hf (by omega)
    rw [e] at ho; cases ho; simp [Obj.isCells] at hn
theorem boxed_not {k r : Nat} {t : TypeId} {v : Value} {o : Obj} (h : Boxed W k t v) (ho : W.heap[r]? = some o) (hn : o.isCells = false) : k ≠ r := fun e => by
  subst e
  rw [show W.heap[k]? = _ from h] at ho
  cases ho
  simp [Obj.isCells] at hn
theorem ClI.own (B : Nat) (hB : w.heap.size ≤ B) (hm : m < B ∧ mm < B ∧ m' < B ∧ m2 < B) (pq : List Nat → List (Int × ByteArray) × List (Int × ByteArray)) :
    OwnFrom B (fun pre W => ∃ F F2, ClI w base l b g m c mm bv bc b' g' m' l2 c2 m2 F0 x (pq pre).1 (pq pre).2 F F2 W) := by
  rintro s X Y row ⟨F, F2, h⟩ hg hr
  have hs := stir_of_grown hg
  have n1 : ∀ i, VFoot l b g m F i → ¬ row = some i := fun i hi e => by
    obtain ⟨h1, o, h2, h3⟩ := hr i e
    exact vfoot_not h.old h.omap h1 hm.1 hm.2.1 h2 h3 hi
  have n2 : ∀ i, VFoot l2 b' g' m' F2 i → ¬ row = some i := fun i hi e => by
    obtain ⟨h1, o, h2, h3⟩ := hr i e
    exact vfoot_not h.new h.nmap h1 hm.2.2.1 hm.2.2.2 h2 h3 hi
  refine ⟨F, F2, hs.keep h.bv (fun e => ?_), hs.keep h.bc (fun e => ?_), h.old.stay hs n1, h.omap.stay hs (fun i hi => n1 i (.inr (.inr hi))), h.new.stay hs n2, h.nmap.stay hs (fun i hi => n2 i (.inr (.inr hi))), h.far, h.stir.trans hs (fun i hi => ?_), h.sub⟩
  · obtain ⟨_, o, h2, h3⟩ := hr _ e
    exact boxed_not h.bv h2 h3 rfl
  · obtain ⟨_, o, h2, h3⟩ := hr _ e
    exact boxed_not h.bc h2 h3 rfl
  · exact .inr (Nat.le_trans hB (hr i hi).1)
theorem cach_from {B base c room : Nat} (h : CI.CachM mm base F c room L W) (hs : Stir F W W') (hm : mm < B) : KeepsFrom B W W' :=
  ⟨hs.size, fun i o hB hi ho => hs.keep hi (fun hf => by
    obtain ⟨C, t, f, e, _⟩ := h.cells hf (by omega)
    rw [hi] at e
    cases e
    simp [Obj.isCells] at ho)⟩
end
end Go.Proofs.YtmloljjllmmkoaaGreat

namespace Go.Proofs.YtmloljjllmmkoaaGreat
open Go.RowKit Go.Shelf Go SM
attribute [local go_sem] Oper.semAt_some

theorem VolAt.keys {base l b g m c : Nat} {F : Nat → Prop} {x : VS} {w : World} (h : VolAt base l b g m c F x w) : (CI.keysL x.kept).Nodup ∧ x.kept.length ≤ 32 ∧ ∀ p ∈ x.kept, CI.Ok p.1 := by
  obtain ⟨m', r, T, nd, nx, pv, D, a1, a2, a3, a4, a5⟩ := h.kept
  have hl : x.kept.length = T.length := by rw [← a2, List.length_map]
  refine ⟨?_, by have := a5.1; omega, fun p hp => ?_⟩
  · have := a1.keys
    rw [← a2]
    unfold CI.keysL
    rw [List.map_map]
    exact this
  · rw [← a2] at hp
    obtain ⟨i, hi, rfl⟩ := List.mem_map.1 hp
    exact a1.ok i hi
/-- what a Clone leaves: the old one, the new one -/
def ClP (base l b g m c b' g' m' : Nat) (F0 : Nat → Prop) (x : VS) (w : World) (e : Ending) (w' : World) : Prop :=
  ∃ l' c' F F', e = .returned (.pointer (some ⟨l', 0, none⟩)) ∧ w.heap.size ≤ l' ∧ VolAt base l b g m c F x w' ∧ VolAt w.heap.size l' b' g' m' c' F' x w' ∧ (∀ k, VFoot l b g m F k → ¬ VFoot l' b' g' m' F' k) ∧ Stir (VFoot l b g m F0) w w' ∧ ∀ k, F k → F0 k ∨ w.heap.size ≤ k
end Go.Proofs.YtmloljjllmmkoaaGreat

