/-
  The reference's link in memory (a twin of LnkA's).
-/
import Derived.Test.YtiiplchakanomaaLnkSrc
import Derived.Test.YtiiplchakanomaaLnkA
namespace Go.Proofs.Ytiiplchakanomaa
open Go.RowKit Go

theorem infoRlt : (Try.prog.info? 62).map (fun i => (i.zero, i.size, i.bytes)) = some (some (.agg #[.string ⟨#[]⟩, .int .i64 0]), 2, 24) := by kernel_rfl
def RObj (room : Nat) (v u : Value) : Obj := .cells #[.int .i64 room, v, u] 32 (0, 0)
section
variable {w : World} {b room : Nat} {v u : Value}
theorem RObj.c0 (h : w.heap[b]? = some (RObj room v u)) : w.cell? ⟨b, 0, none⟩ = some (.int .i64 room) := by simp [World.cell?, h, RObj]
theorem RObj.c1 (h : w.heap[b]? = some (RObj room v u)) : w.cell? ⟨b, 1, none⟩ = some v := by simp [World.cell?, h, RObj]
theorem RObj.c2 (h : w.heap[b]? = some (RObj room v u)) : w.cell? ⟨b, 2, none⟩ = some u := by simp [World.cell?, h, RObj]
theorem RObj.fr (h : w.heap[b]? = some (RObj room v u)) (i : Nat) : w.frozen? ⟨b, i, none⟩ = false := by simp [World.frozen?, h, RObj]
theorem RObj.set1 (h : w.heap[b]? = some (RObj room v u)) (x : Value) : (w.setCell ⟨b, 1, none⟩ x).heap[b]? = some (RObj room x u) := by rw [heap_set h]; rfl
theorem RObj.set2 (h : w.heap[b]? = some (RObj room v u)) (x : Value) : (w.setCell ⟨b, 2, none⟩ x).heap[b]? = some (RObj room v x) := by rw [heap_set h]; rfl
end
/-- a link: room, what waits, what is late; G: the blocks that are its own -/
structure RAt (room : Nat) (L : List ByteArray) (T : List Lte) (b : Nat) (v u : Value) (G : Nat → Prop) (w : World) : Prop where
  obj : w.heap[b]? = some (RObj room v u)
  waits : offRow w 9 v L.length (strVals L)
  late : w.ownsRow 0 62 2 u T.length (lteVals T)
  own : G b
  ownv : ∀ k, v.ownBlock = some k → G k
  ownu : ∀ k, u.ownBlock = some k → G k
  lt : ∀ k, G k → k < w.heap.size
section
variable {w w' : World} {b room : Nat} {v u : Value} {L : List ByteArray} {T : List Lte} {G F : Nat → Prop}
theorem RAt.ne_v (h : RAt room L T b v u G w) {k : Nat} (hk : v.ownBlock = some k) : k ≠ b := by
  obtain ⟨C, hC⟩ := h.waits.block hk
  rintro rfl
  rw [h.obj] at hC
  unfold RObj at hC
  have := Option.some.inj hC
  injection this with _ e
  exact absurd e (by decide)
theorem RAt.ne_u (h : RAt room L T b v u G w) {k : Nat} (hk : u.ownBlock = some k) : k ≠ b := by
  obtain ⟨C, hC⟩ := owns_block h.late hk
  rintro rfl
  rw [h.obj] at hC
  unfold RObj at hC
  have := Option.some.inj hC
  injection this with _ e
  exact absurd e (by decide)
theorem RAt.ne_vu (h : RAt room L T b v u G w) {k m : Nat} (hk : v.ownBlock = some k) (hm : u.ownBlock = some m) : k ≠ m := by
  obtain ⟨C, hC⟩ := owns_block h.late hm
  obtain ⟨D, hD⟩ := h.waits.block hk
  rintro rfl
  rw [hC] at hD
  have := Option.some.inj hD
  injection this with _ e
  exact absurd e (by decide)
/-- what turns none of its blocks leaves it -/
theorem RAt.keep (h : RAt room L T b v u G w) (hs : Stir F w w') (hF : ∀ k, G k → ¬ F k) : RAt room L T b v u G w' :=
  ⟨hs.keep h.obj (hF _ h.own), h.waits.keep (fun k hk => hs.block k (h.lt k (h.ownv k hk)) (hF k (h.ownv k hk))), owns_keep h.late (fun k hk => hs.block k (h.lt k (h.ownu k hk)) (hF k (h.ownu k hk))), h.own, h.ownv, h.ownu,
   fun k hk => Nat.lt_of_lt_of_le (h.lt k hk) hs.size⟩
theorem RAt.later (h : RAt room L T b v u G w) (hB : Below w.heap.size w w') : RAt room L T b v u G w' := h.keep (Stir.of_below (F := fun _ => False) hB) (fun _ _ h => h)
end
/-- a link behind a call; what is late was not touched -/
def RPutU (room : Nat) (L : List ByteArray) (T : List Lte) (b : Nat) (u : Value) (G : Nat → Prop) (w w' : World) : Prop :=
  ∃ v G', RAt room L T b v u G' w' ∧ (∀ k, G' k → G k ∨ w.heap.size ≤ k) ∧ Stir G w w'
/-- a link behind a call -/
def RPut (room : Nat) (L : List ByteArray) (T : List Lte) (b : Nat) (G : Nat → Prop) (w w' : World) : Prop :=
  ∃ v u G', RAt room L T b v u G' w' ∧ (∀ k, G' k → G k ∨ w.heap.size ≤ k) ∧ Stir G w w'
section
variable {w w' w'' : World} {b room : Nat} {v u : Value} {L L' : List ByteArray} {T T' : List Lte} {G : Nat → Prop}
theorem RPutU.put (h : RPutU room L T b u G w w') : RPut room L T b G w w' := by
  obtain ⟨v, G', h1, h2, h3⟩ := h
  exact ⟨v, u, G', h1, h2, h3⟩
theorem RPutU.none (h : RAt room L T b v u G w) (hB : Below w.heap.size w w') : RPutU room L T b u G w w' := ⟨v, G, h.later hB, fun _ h => .inl h, Stir.of_below hB⟩
theorem RPutU.trans (h : Stir G w w') {G1 : Nat → Prop} (hG : ∀ k, G1 k → G k ∨ w.heap.size ≤ k) (k : RPutU room L T b u G1 w' w'') : RPutU room L T b u G w w'' := by
  obtain ⟨v, G', h1, h2, h3⟩ := k
  refine ⟨v, G', h1, fun k hk => ?_, h.trans h3 hG⟩
  rcases h2 k hk with h4 | h4
  · exact hG k h4
  · exact .inr (Nat.le_trans h.size h4)
theorem RPut.none (h : RAt room L T b v u G w) (hB : Below w.heap.size w w') : RPut room L T b G w w' := ⟨v, u, G, h.later hB, fun _ h => .inl h, Stir.of_below hB⟩
theorem RPut.below (h : RPut room L T b G w w') (hB : Below w'.heap.size w' w'') : RPut room L T b G w w'' := by
  obtain ⟨v, u, G', h1, h2, h3⟩ := h
  exact ⟨v, u, G', h1.later hB, h2, h3.and_below hB⟩
theorem RPut.trans (h : Stir G w w') {G1 : Nat → Prop} (hG : ∀ k, G1 k → G k ∨ w.heap.size ≤ k) (k : RPut room L T b G1 w' w'') : RPut room L T b G w w'' := by
  obtain ⟨v, u, G', h1, h2, h3⟩ := k
  refine ⟨v, u, G', h1, fun k hk => ?_, h.trans h3 hG⟩
  rcases h2 k hk with h4 | h4
  · exact hG k h4
  · exact .inr (Nat.le_trans h.size h4)
theorem RAt.obj1 (h : RAt room L T b v u G w) (hg : w.grownBy w' v.ownBlock) : w'.heap[b]? = some (RObj room v u) := (hg.block b (h.lt b h.own) (fun e => h.ne_v e.symm rfl)).trans h.obj
theorem RAt.obj2 (h : RAt room L T b v u G w) (hg : w.grownBy w' u.ownBlock) : w'.heap[b]? = some (RObj room v u) := (hg.block b (h.lt b h.own) (fun e => h.ne_u e.symm rfl)).trans h.obj
/-- a new row for what waits -/
theorem RAt.put1 (h : RAt room L T b v u G w) {v' : Value} (ho : offRow w' 9 v' L'.length (strVals L')) (hg : w.grownBy w' v.ownBlock) (hb : ∀ k, v'.ownBlock = some k → G k ∨ w.heap.size ≤ k) :
    RPutU room L' T b u G w (w'.setCell ⟨b, 1, none⟩ v') := by
  have hs : Stir G w w' := ⟨hg.os, hg.tape, hg.output, hg.size, fun k hk hn => hg.block k hk (fun e => hn (h.ownv k e.symm))⟩
  have hob : w'.heap[b]? = some (RObj room v u) := by
    refine (hg.block b (h.lt b h.own) (fun e => h.ne_v e.symm rfl)).trans h.obj
  have hbk : ∀ k, v'.ownBlock = some k → k ≠ b := by
    intro k hk
    obtain ⟨C, hC⟩ := ho.block hk
    rintro rfl
    rw [hob] at hC
    unfold RObj at hC
    have := Option.some.inj hC
    injection this with _ e
    exact absurd e (by decide)
  refine ⟨v', fun k => G k ∨ v'.ownBlock = some k, ⟨RObj.set1 hob v', ho.keep fun k hk => Below.heap_setCell _ _ _ _ (hbk k hk), ?_, .inl h.own, fun k hk => .inr hk, fun k hk => .inl (h.ownu k hk), ?_⟩, ?_, hs.set (.inl h.own) _⟩
  · refine owns_keep h.late fun k hk => ?_
    rw [Below.heap_setCell _ _ _ _ (h.ne_u hk)]
    exact hg.block k (h.lt k (h.ownu k hk)) (fun e => h.ne_vu e.symm hk rfl)
  · rintro k (hk | hk)
    · have := h.lt k hk
      have := hg.size
      simp [World.setCell]
      omega
    · obtain ⟨C, hC⟩ := ho.block hk
      have := lt_of_heap hC
      simpa [World.setCell] using this
  · rintro k (hk | hk)
    · exact .inl hk
    · exact hb k hk
/-- a new row for what is late -/
theorem RAt.put2' (h : RAt room L T b v u G w) {u' : Value} {base : Nat} (ho : w'.ownsRow base 62 2 u' T'.length (lteVals T')) (hg : w.grownBy w' u.ownBlock) :
    ∃ G', RAt room L T' b v u' G' (w'.setCell ⟨b, 2, none⟩ u') ∧ (∀ k, G' k → G k ∨ u'.ownBlock = some k) ∧ Stir G w (w'.setCell ⟨b, 2, none⟩ u') := by
  have hs : Stir G w w' := ⟨hg.os, hg.tape, hg.output, hg.size, fun k hk hn => hg.block k hk (fun e => hn (h.ownu k e.symm))⟩
  have hob : w'.heap[b]? = some (RObj room v u) := by
    refine (hg.block b (h.lt b h.own) (fun e => h.ne_u e.symm rfl)).trans h.obj
  have hbk : ∀ k, u'.ownBlock = some k → k ≠ b := by
    intro k hk
    obtain ⟨C, hC⟩ := owns_block ho hk
    rintro rfl
    rw [hob] at hC
    unfold RObj at hC
    have := Option.some.inj hC
    injection this with _ e
    exact absurd e (by decide)
  have ho' : (w'.setCell ⟨b, 2, none⟩ u').ownsRow 0 62 2 u' T'.length (lteVals T') := by
    refine ⟨ho.1, ?_⟩
    rcases ho.2 with h1 | ⟨g, cap, cur, rfl, h2, h3, h4⟩
    · exact .inl h1
    · exact .inr ⟨g, cap, cur, rfl, Nat.zero_le _, (Below.heap_setCell _ _ _ _ (hbk g rfl)).trans h3, h4⟩
  refine ⟨fun k => G k ∨ u'.ownBlock = some k, ⟨RObj.set2 hob u', ?_, ho', .inl h.own, fun k hk => .inl (h.ownv k hk), fun k hk => .inr hk, ?_⟩, fun k hk => hk, hs.set (.inl h.own) _⟩
  · refine h.waits.keep fun k hk => ?_
    rw [Below.heap_setCell _ _ _ _ (h.ne_v hk)]
    exact hg.block k (h.lt k (h.ownv k hk)) (fun e => h.ne_vu hk e.symm rfl)
  · rintro k (hk | hk)
    · have := h.lt k hk
      have := hg.size
      simp [World.setCell]
      omega
    · obtain ⟨C, hC⟩ := owns_block ho hk
      have := lt_of_heap hC
      simpa [World.setCell] using this
theorem RAt.put2 (h : RAt room L T b v u G w) {u' : Value} {base : Nat} (ho : w'.ownsRow base 62 2 u' T'.length (lteVals T')) (hg : w.grownBy w' u.ownBlock) (hb : ∀ k, u'.ownBlock = some k → G k ∨ w.heap.size ≤ k) :
    RPut room L T' b G w (w'.setCell ⟨b, 2, none⟩ u') := by
  obtain ⟨G', h1, h2, h3⟩ := h.put2' ho hg
  exact ⟨v, u', G', h1, fun k hk => (h2 k hk).elim .inl (hb k), h3⟩
end
end Go.Proofs.Ytiiplchakanomaa

