/-
  A link of a law's own, and a list of texts of the law's own beside it.
-/
import Derived.Test.YtiiplchakanomaaLnkX
import Derived.Test.YtiiplchakanomaaLnkSrc
import Derived.Test.YtiiplchakanomaaKitS
namespace Go.Proofs.Ytiiplchakanomaa
open Go.RowKit Go

/-- the link, and the list x of the texts W -/
def Ord (w0 : World) (room b : Nat) (L : List ByteArray) (T : List Lte) (W : List ByteArray) (x : Value) (w : World) : Prop :=
  ∃ G, LG w0 room L T b G w ∧ w.ownsRow w0.heap.size 9 1 x W.length (strVals W) ∧ ∀ k, x.ownBlock = some k → ¬ G k
section
variable {w0 w w' : World} {room b : Nat} {L : List ByteArray} {T : List Lte} {W : List ByteArray} {x : Value}
theorem Ord.below (h : Ord w0 room b L T W x w) : Below w0.heap.size w0 w := by
  obtain ⟨G, h1, -⟩ := h
  exact h1.below
theorem Ord.row (h : Ord w0 room b L T W x w) : w.ownsRow w0.heap.size 9 1 x W.length (strVals W) := by
  obtain ⟨G, -, h2, -⟩ := h
  exact h2
theorem Ord.later (h : Ord w0 room b L T W x w) (hB : Below w.heap.size w w') : Ord w0 room b L T W x w' := by
  obtain ⟨G, h1, h2, h3⟩ := h
  exact ⟨G, h1.later hB, owns_keep h2 (fun k hk => hB.block k (h2.lt k hk).2), h3⟩
theorem Ord.start {G : Nat → Prop} (h : LG w0 room L T b G w) (hw : w.alloc (.cells #[] 9) = w') : Ord w0 room b L T [] (.slice (some ⟨w.heap.size, 0, none⟩) 0 0) w' := by
  have hB : Below w.heap.size w w' := by rw [← hw]; exact (Below.refl _ w).alloc (Nat.le_refl _) _
  refine ⟨G, h.later hB, ?_, fun k hk hg => ?_⟩
  · rw [← hw]
    exact World.ownsRow_made (e := 9) (size := 1) w #[] 0 h.below.size (by decide) rfl
  · cases hk
    exact Nat.lt_irrefl _ (h.lt _ hg)
/-- one more text -/
theorem Ord.app (h : Ord w0 room b L T W x w) {s : ByteArray} {x' : Value} (ho : w'.ownsRow w0.heap.size 9 1 x' (W.length + 1) (strVals W ++ [.string s])) (hg : w.grownBy w' x.ownBlock) (hb : x'.ownBlock = x.ownBlock ∨ x'.ownBlock = some w.heap.size) : Ord w0 room b L T (W ++ [s]) x' w' := by
  obtain ⟨G, h1, h2, h3⟩ := h
  have hs : Stir (fun k => x.ownBlock = some k) w w' := ⟨hg.os, hg.tape, hg.output, hg.size, fun k hk hn => hg.block k hk (fun e => hn e.symm)⟩
  refine ⟨G, h1.keep hs (fun k hk e => h3 k e hk) (fun k hk => (h2.lt k hk).1), ?_, fun k hk hgk => ?_⟩
  · rw [List.length_append, show strVals (W ++ [s]) = strVals W ++ [.string s] by simp [strVals]]
    exact ho
  · rcases hb with e | e
    · exact h3 k (e ▸ hk) hgk
    · rw [hk] at e
      cases e
      exact Nat.lt_irrefl _ (h1.lt _ hgk)
theorem Ord.of {G : Nat → Prop} {L' : List ByteArray} {T' : List Lte} (h2 : w.ownsRow w0.heap.size 9 1 x W.length (strVals W)) (h3 : ∀ k, x.ownBlock = some k → ¬ G k) (k : LD w0 room L' T' b G w w') : Ord w0 room b L' T' W x w' := by
  obtain ⟨G', k1, k2, k3⟩ := k
  refine ⟨G', k1, owns_keep h2 (fun i hi => k3.block i (h2.lt i hi).2 (h3 i hi)), fun i hi hg => ?_⟩
  rcases k2 i hg with h | h
  · exact h3 i hi h
  · exact Nat.lt_irrefl _ (Nat.lt_of_lt_of_le (h2.lt i hi).2 h)
theorem Ord.send (h : Ord w0 room b L T W x w) (hr : room ≤ 4096) (hT : T.length ≤ 100000) (s : ByteArray) (hs : s.size ≤ 140737488351232) (f : Fte) (h9 : f.n ≤ 9223372036854775807) :
    Calls Try.prog 9 #[.pointer (some ⟨b, 0, none⟩), .string s, fteV f] w fun e w' => e = .returned (.int .i64 (sendE f)) ∧ Ord w0 room b (sendL room L s f) (sendT T s f) W x w' := by
  obtain ⟨G, h1, h2, h3⟩ := h
  exact (lg_send h1 hr hT s hs f h9).mono fun e w' k => ⟨k.1, .of h2 h3 k.2⟩
theorem Ord.step (h : Ord w0 room b L T W x w) (hr : room ≤ 4096) (hT : T.length ≤ 100000) (hL : LateOk T) :
    Calls Try.prog 11 #[.pointer (some ⟨b, 0, none⟩)] w fun e w' => e = .returned (.tuple #[]) ∧ Ord w0 room b (stepL room L T) (leftT T) W x w' := by
  obtain ⟨G, h1, h2, h3⟩ := h
  exact (lg_step h1 hr hT hL).mono fun e w' k => ⟨k.1, .of h2 h3 k.2⟩
theorem Ord.take (h : Ord w0 room b L T W x w) (hn : L.length ≤ 4096) :
    Calls Try.prog 13 #[.pointer (some ⟨b, 0, none⟩)] w fun e w' => e = .returned (.tuple #[.string (L.headD ⟨#[]⟩), .bool (!L.isEmpty)]) ∧ Ord w0 room b L.tail T W x w' := by
  obtain ⟨G, h1, h2, h3⟩ := h
  exact (lg_take h1 hn).mono fun e w' k => ⟨k.1, .of h2 h3 k.2⟩
theorem Ord.waits (h : Ord w0 room b L T W x w) :
    Calls Try.prog 16 #[.pointer (some ⟨b, 0, none⟩)] w fun e w' => e = .returned (.tuple #[.int .i64 L.length, .int .i64 T.length]) ∧ Ord w0 room b L T W x w' := by
  obtain ⟨G, h1, h2, h3⟩ := h
  exact (lg_waits h1).mono fun e w' k => ⟨k.1, Ord.later ⟨G, h1, h2, h3⟩ k.2⟩
/-- a text of the list -/
theorem Ord.at (h : Ord w0 room b L T W x w) (j : Nat) (hj : j < W.length) : ∃ g c, x = .slice (some ⟨g, 0, none⟩) W.length c ∧ w.cell? ⟨g, j, none⟩ = some (.string W[j]) := by
  have hr := h.row
  rcases hr.2 with ⟨-, e⟩ | ⟨g, cap, cur, e, -⟩
  · omega
  · refine ⟨g, cap, e, ?_⟩
    subst e
    have := hr.cells (g := g) rfl j (.string W[j]) (by simp [strVals, hj])
    rwa [Addr.add_lit, Nat.zero_add] at this
theorem Ord.poke {q : Nat} {y : Value} (h : w0.heap.size ≤ q ∧ ∃ G, LG w0 room L T b G w ∧ ¬ G q ∧ w.ownsRow w0.heap.size 9 1 x W.length (strVals W) ∧ ∀ k, x.ownBlock = some k → ¬ G k) (hx : x.ownBlock ≠ some q) (hw : w.setCell ⟨q, 0, none⟩ y = w') : Ord w0 room b L T W x w' := by
  obtain ⟨hq, G, h1, h2, h3, h4⟩ := h
  have hs : Stir (fun k => k = q) w w' := by rw [← hw]; exact (Stir.refl (fun k => k = q) w).set (.inl rfl) _
  refine ⟨G, h1.keep hs (fun k hk e => h2 (by rw [← show k = q from e]; exact hk)) (fun k hk => by rw [show k = q from hk]; exact hq), owns_keep h3 (fun k hk => hs.block k (h3.lt k hk).2 (fun e => hx (by rw [hk, show k = q from e]))), h4⟩
end
/-- a fate of noughts in a variable of its own -/
theorem fte_zero (W : World) : ∃ w1 u1 u2 u3,
    (W.alloc (.cells #[.int .i64 0, .int .i64 0, .int .u8 0] 34) = w1 ∧ w1.setCell ⟨W.heap.size, 0, none⟩ (.int .i64 0) = u1 ∧ u1.setCell ⟨W.heap.size, 1, none⟩ (.int .i64 0) = u2 ∧ u2.setCell ⟨W.heap.size, 2, none⟩ (.int .u8 0) = u3) ∧
    (w1.cell? ⟨W.heap.size, 0, none⟩ = some (.int .i64 0) ∧ u1.cell? ⟨W.heap.size, 1, none⟩ = some (.int .i64 0) ∧ u2.cell? ⟨W.heap.size, 2, none⟩ = some (.int .u8 0)) ∧
    (w1.frozen? ⟨W.heap.size, 0, none⟩ = false ∧ u1.frozen? ⟨W.heap.size, 1, none⟩ = false ∧ u2.frozen? ⟨W.heap.size, 2, none⟩ = false) ∧
    u3.heap[W.heap.size]? = some (.cells #[.int .i64 0, .int .i64 0, .int .u8 0] 34 (0, 0)) ∧ Below W.heap.size W u3 := by
  obtain ⟨w1, e1⟩ : ∃ u, W.alloc (.cells #[.int .i64 0, .int .i64 0, .int .u8 0] 34) = u := ⟨_, rfl⟩
  have h1 : w1.heap[W.heap.size]? = some (.cells #[.int .i64 0, .int .i64 0, .int .u8 0] 34) := by rw [← e1]; exact heap_alloc_new _ _
  obtain ⟨u1, e2⟩ : ∃ u, w1.setCell ⟨W.heap.size, 0, none⟩ (.int .i64 0) = u := ⟨_, rfl⟩
  have h2 : u1.heap[W.heap.size]? = some (.cells #[.int .i64 0, .int .i64 0, .int .u8 0] 34) := by rw [← e2, heap_set h1]; rfl
  obtain ⟨u2, e3⟩ : ∃ u, u1.setCell ⟨W.heap.size, 1, none⟩ (.int .i64 0) = u := ⟨_, rfl⟩
  have h3 : u2.heap[W.heap.size]? = some (.cells #[.int .i64 0, .int .i64 0, .int .u8 0] 34) := by rw [← e3, heap_set h2]; rfl
  obtain ⟨u3, e4⟩ : ∃ u, u2.setCell ⟨W.heap.size, 2, none⟩ (.int .u8 0) = u := ⟨_, rfl⟩
  have h4 : u3.heap[W.heap.size]? = some (.cells #[.int .i64 0, .int .i64 0, .int .u8 0] 34) := by rw [← e4, heap_set h3]; rfl
  refine ⟨w1, u1, u2, u3, ⟨e1, e2, e3, e4⟩, ⟨?_, ?_, ?_⟩, ⟨?_, ?_, ?_⟩, h4, ?_⟩
  · simp [World.cell?, h1]
  · simp [World.cell?, h2]
  · simp [World.cell?, h3]
  · simp [World.frozen?, h1]
  · simp [World.frozen?, h2]
  · simp [World.frozen?, h3]
  · rw [← e4, ← e3, ← e2, ← e1]
    exact ((((Below.refl _ W).alloc (Nat.le_refl _) _).setCell (p := ⟨W.heap.size, 0, none⟩) (Nat.le_refl _) _).setCell (p := ⟨W.heap.size, 1, none⟩) (Nat.le_refl _) _).setCell (p := ⟨W.heap.size, 2, none⟩) (Nat.le_refl _) _
end Go.Proofs.Ytiiplchakanomaa

