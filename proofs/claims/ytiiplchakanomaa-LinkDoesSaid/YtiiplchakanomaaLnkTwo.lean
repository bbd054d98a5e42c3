/-
  The program's link beside the document's.
-/
import Derived.Test.YtiiplchakanomaaLnkX
import Derived.Test.YtiiplchakanomaaLnkRc
namespace Go.Proofs.Ytiiplchakanomaa
open Go.RowKit Go

/-- a link that a law has made: all of its blocks are new -/
structure RG (w0 : World) (room : Nat) (L : List ByteArray) (T : List Lte) (b : Nat) (G : Nat → Prop) (w : World) : Prop where
  link : ∃ v u, RAt room L T b v u G w
  ge : ∀ k, G k → w0.heap.size ≤ k
  below : Below w0.heap.size w0 w
section
variable {w0 w w' : World} {b room : Nat} {L : List ByteArray} {T : List Lte} {G : Nat → Prop}
theorem RG.lt (h : RG w0 room L T b G w) : ∀ k, G k → k < w.heap.size := by
  obtain ⟨v, u, h1⟩ := h.link
  exact h1.lt
theorem RG.later (h : RG w0 room L T b G w) (hB : Below w.heap.size w w') : RG w0 room L T b G w' := by
  obtain ⟨v, u, h1⟩ := h.link
  exact ⟨⟨v, u, h1.later hB⟩, h.ge, h.below.trans (hB.mono h.below.size)⟩
/-- what turns none of its blocks, nor one that was there ahead -/
theorem RG.keep {F : Nat → Prop} (h : RG w0 room L T b G w) (hs : Stir F w w') (hF : ∀ k, G k → ¬ F k) (hg : ∀ k, F k → w0.heap.size ≤ k) : RG w0 room L T b G w' := by
  obtain ⟨v, u, h1⟩ := h.link
  exact ⟨⟨v, u, h1.keep hs hF⟩, h.ge, h.below.trans (hs.below hg h.below.size)⟩
/-- a link behind a call -/
def RD (w0 : World) (room : Nat) (L : List ByteArray) (T : List Lte) (b : Nat) (G : Nat → Prop) (w w' : World) : Prop :=
  ∃ G', RG w0 room L T b G' w' ∧ (∀ k, G' k → G k ∨ w.heap.size ≤ k) ∧ Stir G w w'
theorem RG.of_put {L' : List ByteArray} {T' : List Lte} (h : RG w0 room L T b G w) (k : RPut room L' T' b G w w') : RD w0 room L' T' b G w w' := by
  obtain ⟨v, u, G', h1, h2, h3⟩ := k
  exact ⟨G', ⟨⟨v, u, h1⟩, fun k hk => (h2 k hk).elim (h.ge k) (Nat.le_trans h.below.size), h.below.trans (h3.below h.ge h.below.size)⟩, h2, h3⟩
theorem rg_send (h : RG w0 room L T b G w) (hr : room ≤ 4096) (hT : T.length ≤ 100000) (s : ByteArray) (f : Fte) (h9 : f.n ≤ 9223372036854775807) :
    Calls Try.prog 10 #[.pointer (some ⟨b, 0, none⟩), .string s, fteV f] w fun e w' => e = .returned (.int .i64 (sendE f)) ∧ RD w0 room (sendL room L s f) (sendT T s f) b G w w' := by
  obtain ⟨v, u, h1⟩ := h.link
  exact (rsend_any h1 hr hT s f h9).mono fun e w' k => ⟨k.1, h.of_put k.2⟩
theorem rg_step (h : RG w0 room L T b G w) (hr : room ≤ 4096) (hT : T.length ≤ 100000) (hL : LateOk T) :
    Calls Try.prog 12 #[.pointer (some ⟨b, 0, none⟩)] w fun e w' => e = .returned (.tuple #[]) ∧ RD w0 room (stepL room L T) (leftT T) b G w w' := by
  obtain ⟨v, u, h1⟩ := h.link
  exact (rstep_any h1 hr hT hL).mono fun e w' k => ⟨k.1, h.of_put k.2⟩
theorem rg_take (h : RG w0 room L T b G w) (hn : L.length ≤ 4096) :
    Calls Try.prog 14 #[.pointer (some ⟨b, 0, none⟩)] w fun e w' => e = .returned (.tuple #[.string (L.headD ⟨#[]⟩), .bool (!L.isEmpty)]) ∧ RD w0 room L.tail T b G w w' := by
  obtain ⟨v, u, h1⟩ := h.link
  exact (rtake_any h1 hn).mono fun e w' k => ⟨k.1, h.of_put k.2⟩
end
/-- both -/
def B2 (w0 : World) (room : Nat) (L : List ByteArray) (T : List Lte) (L' : List ByteArray) (T' : List Lte) (b m : Nat) (w : World) : Prop :=
  ∃ G R, LG w0 room L T b G w ∧ RG w0 room L' T' m R w ∧ ∀ k, G k → ¬ R k
section
variable {w0 w w' : World} {b m room : Nat} {L L1 L2 : List ByteArray} {T T1 T2 : List Lte} {G : Nat → Prop}
theorem B2.later (h : B2 w0 room L T L1 T1 b m w) (hB : Below w.heap.size w w') : B2 w0 room L T L1 T1 b m w' := by
  obtain ⟨G, R, h1, h2, h3⟩ := h
  exact ⟨G, R, h1.later hB, h2.later hB, h3⟩
theorem B2.below (h : B2 w0 room L T L1 T1 b m w) : Below w0.heap.size w0 w := by
  obtain ⟨G, R, h1, h2, h3⟩ := h
  exact h1.below
theorem B2.le (h : B2 w0 room L T L1 T1 b m w) : w0.heap.size ≤ b ∧ w0.heap.size ≤ m := by
  obtain ⟨G, R, h1, h2, h3⟩ := h
  obtain ⟨v, u, h4⟩ := h1.link
  obtain ⟨v', u', h5⟩ := h2.link
  exact ⟨h1.ge b h4.own, h2.ge m h5.own⟩
/-- what lies beside both -/
def Far (q : Nat) (L : List ByteArray) (w0 : World) (room : Nat) (T : List Lte) (L1 : List ByteArray) (T1 : List Lte) (b m : Nat) (w : World) : Prop :=
  ∃ G R, LG w0 room L T b G w ∧ RG w0 room L1 T1 m R w ∧ (∀ k, G k → ¬ R k) ∧ ¬ G q ∧ ¬ R q ∧ q < w.heap.size
/-- both, and a block q that is as it was -/
def B3 (w0 : World) (room : Nat) (L : List ByteArray) (T : List Lte) (L' : List ByteArray) (T' : List Lte) (b m q : Nat) (ob : Obj) (w : World) : Prop :=
  Far q L w0 room T L' T' b m w ∧ w.heap[q]? = some ob
theorem B3.two {q : Nat} {ob : Obj} (h : B3 w0 room L T L1 T1 b m q ob w) : B2 w0 room L T L1 T1 b m w := by
  obtain ⟨⟨G, R, h1, h2, h3, -⟩, -⟩ := h
  exact ⟨G, R, h1, h2, h3⟩
theorem B3.later {q : Nat} {ob : Obj} (h : B3 w0 room L T L1 T1 b m q ob w) (hB : Below w.heap.size w w') : B3 w0 room L T L1 T1 b m q ob w' := by
  obtain ⟨⟨G, R, h1, h2, h3, h4, h5, h6⟩, h7⟩ := h
  exact ⟨⟨G, R, h1.later hB, h2.later hB, h3, h4, h5, Nat.lt_of_lt_of_le h6 hB.size⟩, keeps_of hB h7⟩
theorem B2.holds {q : Nat} {ob : Obj} (h : B2 w0 room L T L1 T1 b m w) (hq : w.heap.size = q) (hB : Below w.heap.size w w') (ho : w'.heap[q]? = some ob) : B3 w0 room L T L1 T1 b m q ob w' := by
  obtain ⟨G, R, h1, h2, h3⟩ := h
  subst hq
  exact ⟨⟨G, R, h1.later hB, h2.later hB, h3, fun hg => Nat.lt_irrefl _ (h1.lt _ hg), fun hg => Nat.lt_irrefl _ (h2.lt _ hg), lt_of_heap ho⟩, ho⟩
end
section
variable {w0 w : World} {b m q room : Nat} {L L1 : List ByteArray} {T T1 : List Lte} {ob : Obj}
theorem B3.send (h : B3 w0 room L T L1 T1 b m q ob w) (hr : room ≤ 4096) (hT : T.length ≤ 100000) (s : ByteArray) (hs : s.size ≤ 140737488351232) (f : Fte) (h9 : f.n ≤ 9223372036854775807) :
    Calls Try.prog 9 #[.pointer (some ⟨b, 0, none⟩), .string s, fteV f] w fun e w' => e = .returned (.int .i64 (sendE f)) ∧ B3 w0 room (sendL room L s f) (sendT T s f) L1 T1 b m q ob w' := by
  obtain ⟨⟨G, R, h1, h2, h3, h4, h5, h6⟩, h7⟩ := h
  refine (lg_send h1 hr hT s hs f h9).mono fun e w' k => ⟨k.1, ?_⟩
  obtain ⟨-, G', k1, k2, k3⟩ := k
  refine ⟨⟨G', R, k1, h2.keep k3 (fun i hi hg => h3 i hg hi) h1.ge, fun i hi hr => ?_, fun hg => ?_, h5, Nat.lt_of_lt_of_le h6 k3.size⟩, k3.keep h7 h4⟩
  · exact (k2 i hi).elim (fun hg => h3 i hg hr) (fun hg => Nat.lt_irrefl _ (Nat.lt_of_lt_of_le (h2.lt i hr) hg))
  · exact (k2 q hg).elim h4 (fun hg => Nat.lt_irrefl _ (Nat.lt_of_lt_of_le h6 hg))
theorem B3.step (h : B3 w0 room L T L1 T1 b m q ob w) (hr : room ≤ 4096) (hT : T.length ≤ 100000) (hL : LateOk T) :
    Calls Try.prog 11 #[.pointer (some ⟨b, 0, none⟩)] w fun e w' => e = .returned (.tuple #[]) ∧ B3 w0 room (stepL room L T) (leftT T) L1 T1 b m q ob w' := by
  obtain ⟨⟨G, R, h1, h2, h3, h4, h5, h6⟩, h7⟩ := h
  refine (lg_step h1 hr hT hL).mono fun e w' k => ⟨k.1, ?_⟩
  obtain ⟨-, G', k1, k2, k3⟩ := k
  refine ⟨⟨G', R, k1, h2.keep k3 (fun i hi hg => h3 i hg hi) h1.ge, fun i hi hr => ?_, fun hg => ?_, h5, Nat.lt_of_lt_of_le h6 k3.size⟩, k3.keep h7 h4⟩
  · exact (k2 i hi).elim (fun hg => h3 i hg hr) (fun hg => Nat.lt_irrefl _ (Nat.lt_of_lt_of_le (h2.lt i hr) hg))
  · exact (k2 q hg).elim h4 (fun hg => Nat.lt_irrefl _ (Nat.lt_of_lt_of_le h6 hg))
theorem B3.take (h : B3 w0 room L T L1 T1 b m q ob w) (hn : L.length ≤ 4096) :
    Calls Try.prog 13 #[.pointer (some ⟨b, 0, none⟩)] w fun e w' => e = .returned (.tuple #[.string (L.headD ⟨#[]⟩), .bool (!L.isEmpty)]) ∧ B3 w0 room L.tail T L1 T1 b m q ob w' := by
  obtain ⟨⟨G, R, h1, h2, h3, h4, h5, h6⟩, h7⟩ := h
  refine (lg_take h1 hn).mono fun e w' k => ⟨k.1, ?_⟩
  obtain ⟨-, G', k1, k2, k3⟩ := k
  refine ⟨⟨G', R, k1, h2.keep k3 (fun i hi hg => h3 i hg hi) h1.ge, fun i hi hr => ?_, fun hg => ?_, h5, Nat.lt_of_lt_of_le h6 k3.size⟩, k3.keep h7 h4⟩
  · exact (k2 i hi).elim (fun hg => h3 i hg hr) (fun hg => Nat.lt_irrefl _ (Nat.lt_of_lt_of_le (h2.lt i hr) hg))
  · exact (k2 q hg).elim h4 (fun hg => Nat.lt_irrefl _ (Nat.lt_of_lt_of_le h6 hg))
theorem B3.cut (h : B3 w0 room L T L1 T1 b m q ob w) :
    Calls Try.prog 15 #[.pointer (some ⟨b, 0, none⟩)] w fun e w' => e = .returned (.tuple #[]) ∧ B3 w0 room [] [] L1 T1 b m q ob w' := by
  obtain ⟨⟨G, R, h1, h2, h3, h4, h5, h6⟩, h7⟩ := h
  refine (lg_cut h1).mono fun e w' k => ⟨k.1, ?_⟩
  obtain ⟨-, G', k1, k2, k3⟩ := k
  refine ⟨⟨G', R, k1, h2.keep k3 (fun i hi hg => h3 i hg hi) h1.ge, fun i hi hr => ?_, fun hg => ?_, h5, Nat.lt_of_lt_of_le h6 k3.size⟩, k3.keep h7 h4⟩
  · exact (k2 i hi).elim (fun hg => h3 i hg hr) (fun hg => Nat.lt_irrefl _ (Nat.lt_of_lt_of_le (h2.lt i hr) hg))
  · exact (k2 q hg).elim h4 (fun hg => Nat.lt_irrefl _ (Nat.lt_of_lt_of_le h6 hg))
theorem B3.rsend (h : B3 w0 room L T L1 T1 b m q ob w) (hr : room ≤ 4096) (hT : T1.length ≤ 100000) (s : ByteArray) (f : Fte) (h9 : f.n ≤ 9223372036854775807) :
    Calls Try.prog 10 #[.pointer (some ⟨m, 0, none⟩), .string s, fteV f] w fun e w' => e = .returned (.int .i64 (sendE f)) ∧ B3 w0 room L T (sendL room L1 s f) (sendT T1 s f) b m q ob w' := by
  obtain ⟨⟨G, R, h1, h2, h3, h4, h5, h6⟩, h7⟩ := h
  refine (rg_send h2 hr hT s f h9).mono fun e w' k => ⟨k.1, ?_⟩
  obtain ⟨-, G', k1, k2, k3⟩ := k
  refine ⟨⟨G, G', h1.keep k3 (fun i hi hg => h3 i hi hg) h2.ge, k1, fun i hi hr => ?_, h4, fun hg => ?_, Nat.lt_of_lt_of_le h6 k3.size⟩, k3.keep h7 h5⟩
  · exact (k2 i hr).elim (fun hg => h3 i hi hg) (fun hg => Nat.lt_irrefl _ (Nat.lt_of_lt_of_le (h1.lt i hi) hg))
  · exact (k2 q hg).elim h5 (fun hg => Nat.lt_irrefl _ (Nat.lt_of_lt_of_le h6 hg))
theorem B3.rstep (h : B3 w0 room L T L1 T1 b m q ob w) (hr : room ≤ 4096) (hT : T1.length ≤ 100000) (hL : LateOk T1) :
    Calls Try.prog 12 #[.pointer (some ⟨m, 0, none⟩)] w fun e w' => e = .returned (.tuple #[]) ∧ B3 w0 room L T (stepL room L1 T1) (leftT T1) b m q ob w' := by
  obtain ⟨⟨G, R, h1, h2, h3, h4, h5, h6⟩, h7⟩ := h
  refine (rg_step h2 hr hT hL).mono fun e w' k => ⟨k.1, ?_⟩
  obtain ⟨-, G', k1, k2, k3⟩ := k
  refine ⟨⟨G, G', h1.keep k3 (fun i hi hg => h3 i hi hg) h2.ge, k1, fun i hi hr => ?_, h4, fun hg => ?_, Nat.lt_of_lt_of_le h6 k3.size⟩, k3.keep h7 h5⟩
  · exact (k2 i hr).elim (fun hg => h3 i hi hg) (fun hg => Nat.lt_irrefl _ (Nat.lt_of_lt_of_le (h1.lt i hi) hg))
  · exact (k2 q hg).elim h5 (fun hg => Nat.lt_irrefl _ (Nat.lt_of_lt_of_le h6 hg))
theorem B3.rtake (h : B3 w0 room L T L1 T1 b m q ob w) (hn : L1.length ≤ 4096) :
    Calls Try.prog 14 #[.pointer (some ⟨m, 0, none⟩)] w fun e w' => e = .returned (.tuple #[.string (L1.headD ⟨#[]⟩), .bool (!L1.isEmpty)]) ∧ B3 w0 room L T L1.tail T1 b m q ob w' := by
  obtain ⟨⟨G, R, h1, h2, h3, h4, h5, h6⟩, h7⟩ := h
  refine (rg_take h2 hn).mono fun e w' k => ⟨k.1, ?_⟩
  obtain ⟨-, G', k1, k2, k3⟩ := k
  refine ⟨⟨G, G', h1.keep k3 (fun i hi hg => h3 i hi hg) h2.ge, k1, fun i hi hr => ?_, h4, fun hg => ?_, Nat.lt_of_lt_of_le h6 k3.size⟩, k3.keep h7 h5⟩
  · exact (k2 i hr).elim (fun hg => h3 i hi hg) (fun hg => Nat.lt_irrefl _ (Nat.lt_of_lt_of_le (h1.lt i hi) hg))
  · exact (k2 q hg).elim h5 (fun hg => Nat.lt_irrefl _ (Nat.lt_of_lt_of_le h6 hg))
theorem B3.waits (h : B3 w0 room L T L1 T1 b m q ob w) :
    Calls Try.prog 16 #[.pointer (some ⟨b, 0, none⟩)] w fun e w' => e = .returned (.tuple #[.int .i64 L.length, .int .i64 T.length]) ∧ B3 w0 room L T L1 T1 b m q ob w' := by
  obtain ⟨G, R, h1, -⟩ := h.two
  exact (lg_waits h1).mono fun e w' k => ⟨k.1, h.later k.2⟩
/-- what the document's link shows -/
theorem B3.shows (h : B3 w0 room L T L1 T1 b m q ob w) : ∃ a c a' c', w.cell? ⟨m, 1, none⟩ = some (.slice a L1.length c) ∧ w.cell? ⟨m, 2, none⟩ = some (.slice a' T1.length c') := by
  obtain ⟨G, R, -, h2, -⟩ := h.two
  obtain ⟨v, u, h3⟩ := h2.link
  obtain ⟨a, c, rfl⟩ := h3.waits.shape
  obtain ⟨a', c', rfl⟩ := row_shape h3.late
  exact ⟨a, c, a', c', RObj.c1 h3.obj, RObj.c2 h3.obj⟩
/-- the document's link is made anew -/
theorem B3.anew (h : B3 w0 room L T L1 T1 b m q ob w) {w' : World} (hw : w.alloc (.cells #[.int .i64 room, .slice none 0 0, .slice none 0 0] 32) = w') : B3 w0 room L T [] [] b w.heap.size q ob w' := by
  obtain ⟨⟨G, R, h1, h2, h3, h4, h5, h6⟩, h7⟩ := h
  have hB : Below w.heap.size w w' := by rw [← hw]; exact (Below.refl _ w).alloc (Nat.le_refl _) _
  refine ⟨⟨G, fun k => k = w.heap.size, h1.later hB, ⟨⟨.slice none 0 0, .slice none 0 0, ⟨by rw [← hw]; exact heap_alloc_new w _, offRow.nil _ _, World.ownsRow_nil _ _ _ _, rfl, fun k hk => (by cases hk), fun k hk => (by cases hk), fun k hk => ?_⟩⟩, fun k hk => ?_, h1.below.trans (hB.mono h1.below.size)⟩, fun k hk e => ?_, h4, fun e => ?_, Nat.lt_of_lt_of_le h6 hB.size⟩, keeps_of hB h7⟩
  · rw [show k = w.heap.size from hk, ← hw]; simp
  · rw [show k = w.heap.size from hk]; exact h1.below.size
  · rw [show k = w.heap.size from e] at hk; exact Nat.lt_irrefl _ (h1.lt _ hk)
  · rw [show q = w.heap.size from e] at h6; exact Nat.lt_irrefl _ h6
theorem B2.new {G : Nat → Prop} (h : LG w0 room L T b G w) {w' : World} (hw : w.alloc (.cells #[.int .i64 room, .slice none 0 0, .slice none 0 0] 32) = w') : B2 w0 room L T [] [] b w.heap.size w' := by
  have hB : Below w.heap.size w w' := by rw [← hw]; exact (Below.refl _ w).alloc (Nat.le_refl _) _
  refine ⟨G, fun k => k = w.heap.size, h.later hB, ⟨⟨.slice none 0 0, .slice none 0 0, ⟨by rw [← hw]; exact heap_alloc_new w _, offRow.nil _ _, World.ownsRow_nil _ _ _ _, rfl, fun k hk => (by cases hk), fun k hk => (by cases hk), fun k hk => ?_⟩⟩, fun k hk => ?_, h.below.trans (hB.mono h.below.size)⟩, fun k hk e => ?_⟩
  · rw [show k = w.heap.size from hk, ← hw]; simp
  · rw [show k = w.heap.size from hk]; exact h.below.size
  · rw [show k = w.heap.size from e] at hk; exact Nat.lt_irrefl _ (h.lt _ hk)
end
end Go.Proofs.Ytiiplchakanomaa

