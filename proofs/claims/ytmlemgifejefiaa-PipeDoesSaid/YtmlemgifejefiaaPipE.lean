/-
  Some pipes, each beside its reference.
-/
import Derived.Test.YtmlemgifejefiaaPipD
namespace Go.Proofs.Ytmlemgifejefiaa
open Go.RowKit Go

def put {α : Type} (f : Nat → α) (a : Nat) (x : α) : Nat → α := fun i => if i = a then x else f i
theorem put_same {α : Type} (f : Nat → α) (a : Nat) (x : α) : put f a x a = x := if_pos rfl
theorem put_other {α : Type} (f : Nat → α) {a i : Nat} (x : α) (h : i ≠ a) : put f a x i = f i := if_neg h

theorem put_const {α : Type} (x : α) (a : Nat) : put (fun _ => x) a x = fun _ => x := by funext i; unfold put; split <;> rfl

/-- the pipes and the references, in memory -/
structure Core (w0 : World) (n : Nat) (P C M room : Nat → Nat) (cl cl' : Nat → Bool) (L L' : Nat → List Int) (w : World) : Prop where
  pipe : ∀ i, i < n → PI.PipeAt (P i) (C i) (room i) (cl i) (L i) w
  ref : ∀ i, i < n → RefAt w0.heap.size (M i) (room i) (cl' i) (L' i) w
  two : ∀ i j, i < n → j < n → i ≠ j → PI.Two (P i) (C i) (P j) (C j) ∧ M i ≠ M j
  low : ∀ i, i < n → w0.heap.size ≤ P i ∧ w0.heap.size ≤ C i
  below : Below w0.heap.size w0 w

section
variable {w w' w0 : World} {p c m q d room room' B : Nat} {cl cl' : Bool} {L L' : List Int}
theorem ref_not_pipe (h : RefAt B m room cl L w) (k : PI.PipeAt p c room' cl' L' w) : m ≠ p ∧ m ≠ c := by
  obtain ⟨v, h1, -⟩ := h.obj
  obtain ⟨bs, s, r, hc, -⟩ := k.chan
  exact ⟨ne_of_heap h1 k.obj (by simp [RObj, PI.PObj]), ne_of_heap h1 hc (by intro e; cases e)⟩
theorem pipe_ref (h : PI.PipeAt p c room cl L w) (k : RefAt B m room' cl' L' w) (hs : Stir (fun i => i = m) w w') : PI.PipeAt p c room cl L w' :=
  pipe_keep h hs (ref_sp k) (fun e => (ref_not_pipe k h).1 e.symm) (fun e => (ref_not_pipe k h).2 e.symm)
theorem ref_pipe (h : RefAt B m room cl L w) (k : PI.PipeAt p c room' cl' L' w) (hs : Stir (fun i => i = p ∨ i = c) w w') : RefAt B m room cl L w' :=
  ref_keep h hs (pipe_sp k) (fun e => by rcases e with e | e; exact (ref_not_pipe h k).1 e; exact (ref_not_pipe h k).2 e)

/-- a row of places that grows is none of those blocks -/
theorem far {o : Option Nat} {e : TypeId} (hg : w.grownBy w' o) (ho : ∀ b, o = some b → ∃ cur f, w.heap[b]? = some (.cells cur e f)) {b : Nat} {x : Obj} (h : w.heap[b]? = some x) (hx : ∀ cur f, x ≠ .cells cur e f) : w'.heap[b]? = some x := by
  refine (hg.block b (lt_of_heap h) (fun e' => ?_)).trans h
  obtain ⟨cur, f, h2⟩ := ho b e'.symm
  rw [h] at h2
  exact hx cur f (Option.some.inj h2)
theorem pipe_grow {o : Option Nat} {e : TypeId} (h : PI.PipeAt p c room cl L w) (hg : w.grownBy w' o) (ho : ∀ b, o = some b → ∃ cur f, w.heap[b]? = some (.cells cur e f)) (he : e = 33 ∨ e = 36) : PI.PipeAt p c room cl L w' := by
  obtain ⟨bs, s, r, h1, h2⟩ := h.chan
  have hs : Stir (fun k => o = some k) w w' := ⟨hg.os, hg.tape, hg.output, hg.size, fun k hk hn => hg.block k hk (fun e => hn e.symm)⟩
  refine ⟨far hg ho h.obj (fun cur f e1 => ?_), ⟨bs, s, r, far hg ho h1 (fun cur f e1 => by cases e1), PI.Holds.keep hs (fun b x hb hc => ?_) h2⟩, h.fits, h.small⟩
  · rcases he with rfl | rfl <;> simp [PI.PObj] at e1
  · obtain ⟨cur, f, h3⟩ := ho b hb
    rw [hc] at h3
    rcases he with rfl | rfl <;> simp [PI.TObj] at h3
theorem ref_grow {o : Option Nat} {e : TypeId} (h : RefAt B m room cl L w) (hg : w.grownBy w' o) (ho : ∀ b, o = some b → ∃ cur f, w.heap[b]? = some (.cells cur e f)) (he : e = 33 ∨ e = 36) : RefAt B m room cl L w' := by
  obtain ⟨v, h1, h2⟩ := h.obj
  refine ⟨⟨v, far hg ho h1 (fun cur f e1 => by rcases he with rfl | rfl <;> simp [RObj] at e1), ?_⟩, h.low⟩
  refine ⟨h2.1, ?_⟩
  rcases h2.2 with h3 | ⟨g, cap, cur, h3, h4, h5, h6⟩
  · exact Or.inl h3
  · exact Or.inr ⟨g, cap, cur, h3, h4, far hg ho h5 (fun cur' f e1 => by rcases he with rfl | rfl <;> simp at e1), h6⟩
theorem row_block {base : Nat} {e : TypeId} {size : Nat} {v : Value} {n : Nat} {xs : List Value} (h : w.ownsRow base e size v n xs) : ∀ b, v.ownBlock = some b → ∃ cur f, w.heap[b]? = some (.cells cur e f) := by
  intro b hb
  rcases h.2 with ⟨rfl, -⟩ | ⟨g, cap, cur, rfl, h2, h3, h4⟩
  · simp [Value.ownBlock] at hb
  · simp [Value.ownBlock] at hb
    subst hb
    exact ⟨cur, _, h3⟩
theorem row_grow {base base' : Nat} {e e' : TypeId} {size size' : Nat} {v v' : Value} {n n' : Nat} {xs xs' : List Value} (h : w.ownsRow base e size v n xs) (k : w.ownsRow base' e' size' v' n' xs') (hg : w.grownBy w' v'.ownBlock) (he : e ≠ e') : w'.ownsRow base e size v n xs := by
  refine ⟨h.1, ?_⟩
  rcases h.2 with h3 | ⟨g, cap, cur, h3, h4, h5, h6⟩
  · exact Or.inl h3
  · exact Or.inr ⟨g, cap, cur, h3, h4, far hg (row_block k) h5 (fun cur' f e1 => by simp at e1; exact he e1.2.1), h6⟩
end

section
variable {w w' w0 : World} {n a b : Nat} {P C M room : Nat → Nat} {cl cl' : Nat → Bool} {L L' : Nat → List Int}
theorem Core.later (h : Core w0 n P C M room cl cl' L L' w) (k : Below w.heap.size w w') : Core w0 n P C M room cl cl' L L' w' :=
  ⟨fun i hi => (h.pipe i hi).later k, fun i hi => (h.ref i hi).later k, h.two, h.low, h.below.trans (k.mono h.below.size)⟩
theorem Core.grow {o : Option Nat} {e : TypeId} (h : Core w0 n P C M room cl cl' L L' w) (hg : w.grownBy w' o) (ho : ∀ b, o = some b → ∃ cur f, w.heap[b]? = some (.cells cur e f)) (hl : ∀ b, o = some b → w0.heap.size ≤ b) (he : e = 33 ∨ e = 36) : Core w0 n P C M room cl cl' L L' w' :=
  ⟨fun i hi => pipe_grow (h.pipe i hi) hg ho he, fun i hi => ref_grow (h.ref i hi) hg ho he, h.two, h.low, h.below.grown hg h.below.size hl⟩
theorem Core.pturn (h : Core w0 n P C M room cl cl' L L' w) (ha : a < n) {c1 : Bool} {L1 : List Int} (hp : PI.PipeAt (P a) (C a) (room a) c1 L1 w') (hs : Stir (fun k => k = P a ∨ k = C a) w w') :
    Core w0 n P C M room (put cl a c1) cl' (put L a L1) L' w' := by
  refine ⟨fun i hi => ?_, fun i hi => ref_pipe (h.ref i hi) (h.pipe a ha) hs, h.two, h.low, below_turn h.below (h.low a ha).1 (h.low a ha).2 hs⟩
  by_cases e : i = a
  · subst e; rw [put_same, put_same]; exact hp
  · rw [put_other _ _ e, put_other _ _ e]; exact (h.pipe i hi).other (h.pipe a ha) (h.two i a hi ha e).1 hs
theorem Core.rturn (h : Core w0 n P C M room cl cl' L L' w) (ha : a < n) {c1 : Bool} {L1 : List Int} (hr : RefAt w0.heap.size (M a) (room a) c1 L1 w') (hs : Stir (fun k => k = M a) w w') :
    Core w0 n P C M room cl (put cl' a c1) L (put L' a L1) w' := by
  refine ⟨fun i hi => pipe_ref (h.pipe i hi) (h.ref a ha) hs, fun i hi => ?_, h.two, h.low, h.below.trans (hs.below (fun k e => by rw [e]; exact (h.ref a ha).low) h.below.size)⟩
  by_cases e : i = a
  · subst e; rw [put_same, put_same]; exact hr
  · rw [put_other _ _ e, put_other _ _ e]; exact ref_other (h.ref i hi) (h.ref a ha) (h.two i a hi ha e).2 hs
theorem Core.pturn2 (h : Core w0 n P C M room cl cl' L L' w) (ha : a < n) (hb : b < n) (hab : a ≠ b) {L1 L2 : List Int} (hp : PI.PipeAt (P a) (C a) (room a) (cl a) L1 w') (hq : PI.PipeAt (P b) (C b) (room b) (cl b) L2 w')
    (hs : Stir (fun k => (k = P a ∨ k = C a) ∨ (k = P b ∨ k = C b)) w w') : Core w0 n P C M room cl cl' (put (put L a L1) b L2) L' w' := by
  have sp : Sp (fun k => (k = P a ∨ k = C a) ∨ (k = P b ∨ k = C b)) w := (pipe_sp (h.pipe a ha)).or (pipe_sp (h.pipe b hb))
  refine ⟨fun i hi => ?_, fun i hi => ref_keep (h.ref i hi) hs sp ?_, h.two, h.low, below_turn2 h.below (h.low a ha).1 (h.low a ha).2 (h.low b hb).1 (h.low b hb).2 hs⟩
  · by_cases e : i = b
    · subst e; rw [put_same]; exact hq
    · rw [put_other _ _ e]
      by_cases e2 : i = a
      · subst e2; rw [put_same]; exact hp
      · rw [put_other _ _ e2]
        obtain ⟨bs, s, r, hc, -⟩ := (h.pipe i hi).chan
        have n1 := (h.two i a hi ha e2).1
        have n2 := (h.two i b hi hb e).1
        have pc : ∀ j, j < n → P i ≠ C j := fun j hj => by
          obtain ⟨bs', s', r', hc', -⟩ := (h.pipe j hj).chan
          exact ne_of_heap (h.pipe i hi).obj hc' (by intro e; cases e)
        have cp : ∀ j, j < n → C i ≠ P j := fun j hj => ne_of_heap hc (h.pipe j hj).obj (by intro e; cases e)
        refine pipe_keep (h.pipe i hi) hs sp ?_ ?_
        · rintro ((e | e) | (e | e))
          · exact n1.pq e
          · exact pc a ha e
          · exact n2.pq e
          · exact pc b hb e
        · rintro ((e | e) | (e | e))
          · exact cp a ha e
          · exact n1.cd e
          · exact cp b hb e
          · exact n2.cd e
  · rintro (e | e)
    · rcases e with e | e
      · exact (ref_not_pipe (h.ref i hi) (h.pipe a ha)).1 e
      · exact (ref_not_pipe (h.ref i hi) (h.pipe a ha)).2 e
    · rcases e with e | e
      · exact (ref_not_pipe (h.ref i hi) (h.pipe b hb)).1 e
      · exact (ref_not_pipe (h.ref i hi) (h.pipe b hb)).2 e
theorem Core.rturn2 (h : Core w0 n P C M room cl cl' L L' w) (ha : a < n) (hb : b < n) (hab : a ≠ b) {L1 L2 : List Int} (hp : RefAt w0.heap.size (M a) (room a) (cl' a) L1 w') (hq : RefAt w0.heap.size (M b) (room b) (cl' b) L2 w')
    (hs : Stir (fun k => k = M a ∨ k = M b) w w') : Core w0 n P C M room cl cl' L (put (put L' a L1) b L2) w' := by
  have sp : Sp (fun k => k = M a ∨ k = M b) w := (ref_sp (h.ref a ha)).or (ref_sp (h.ref b hb))
  refine ⟨fun i hi => pipe_keep (h.pipe i hi) hs sp ?_ ?_, fun i hi => ?_, h.two, h.low, h.below.trans (hs.below (fun k e => by rcases e with rfl | rfl; exact (h.ref a ha).low; exact (h.ref b hb).low) h.below.size)⟩
  · rintro (e | e)
    · exact (ref_not_pipe (h.ref a ha) (h.pipe i hi)).1 e.symm
    · exact (ref_not_pipe (h.ref b hb) (h.pipe i hi)).1 e.symm
  · rintro (e | e)
    · exact (ref_not_pipe (h.ref a ha) (h.pipe i hi)).2 e.symm
    · exact (ref_not_pipe (h.ref b hb) (h.pipe i hi)).2 e.symm
  · by_cases e : i = b
    · subst e; rw [put_same]; exact hq
    · rw [put_other _ _ e]
      by_cases e2 : i = a
      · subst e2; rw [put_same]; exact hp
      · rw [put_other _ _ e2]
        exact ref_keep (h.ref i hi) hs sp (by rintro (e3 | e3); exact (h.two i a hi ha e2).2 e3; exact (h.two i b hi hb e).2 e3)
/-- one more -/
theorem Core.add (h : Core w0 n P C M room cl cl' L L' w) {p c m r : Nat} {k k' : Bool} {K K' : List Int} (hp : PI.PipeAt p c r k K w) (hr : RefAt w0.heap.size m r k' K' w) (lp : w0.heap.size ≤ p) (lc : w0.heap.size ≤ c)
    (hn : ∀ i, i < n → P i ≠ p ∧ C i ≠ c ∧ M i ≠ m) : Core w0 (n + 1) (put P n p) (put C n c) (put M n m) (put room n r) (put cl n k) (put cl' n k') (put L n K) (put L' n K') w := by
  refine ⟨fun i hi => ?_, fun i hi => ?_, fun i j hi hj hij => ?_, fun i hi => ?_, h.below⟩
  · by_cases e : i = n
    · subst e; simp only [put_same]; exact hp
    · simp only [put_other _ _ e]; exact h.pipe i (by omega)
  · by_cases e : i = n
    · subst e; simp only [put_same]; exact hr
    · simp only [put_other _ _ e]; exact h.ref i (by omega)
  · by_cases e : i = n
    · subst e
      have e2 : j ≠ i := Ne.symm hij
      obtain ⟨h1, h2, h3⟩ := hn j (by omega)
      simp only [put_same, put_other _ _ e2]
      exact ⟨⟨Ne.symm h1, Ne.symm h2⟩, Ne.symm h3⟩
    · by_cases e2 : j = n
      · subst e2
        obtain ⟨h1, h2, h3⟩ := hn i (by omega)
        simp only [put_same, put_other _ _ e]
        exact ⟨⟨h1, h2⟩, h3⟩
      · simp only [put_other _ _ e, put_other _ _ e2]
        exact h.two i j (by omega) (by omega) hij
  · by_cases e : i = n
    · subst e; simp only [put_same]; exact ⟨lp, lc⟩
    · simp only [put_other _ _ e]; exact h.low i (by omega)
theorem Core.pipe_sp (h : Core w0 n P C M room cl cl' L L' w) (ha : a < n) : Sp (fun k => k = P a ∨ k = C a) w := Proofs.Ytmlemgifejefiaa.pipe_sp (h.pipe a ha)
theorem Core.ref_sp (h : Core w0 n P C M room cl cl' L L' w) (ha : a < n) : Sp (fun k => k = M a) w := Proofs.Ytmlemgifejefiaa.ref_sp (h.ref a ha)
end
end Go.Proofs.Ytmlemgifejefiaa
