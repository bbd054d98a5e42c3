/-
  A log that is cloned: the clone goes on, the old one and its disk are turned.
-/
import Derived.Test.YteboacjniokfpaaGreatDoorNvZ
namespace Go.Proofs.YteboacjniokfpaaGreatDoor
open Go.RowKit Go Go.Maps SM

section
variable {w0 w w' : World} {l b g m l' b' g' m' q r o k : Nat} {ob : Option (Array Value × TypeId)} {x y : LS}
/-- the disk is cloned -/
structure C1 (w0 : World) (l b g m b' g' m' q r o k : Nat) (ob : Option (Array Value × TypeId)) (x y : LS) (w : World) : Prop where
  old : LB w0 l b g m q r o k ob x y w
  disk : DiskAt b' g' m' x.disk w
  far : ∃ N v, LIs w0.heap.size l b g m v x w ∧ (∀ i, LFoot l b g m v i → i < N) ∧ N ≤ b' ∧ N ≤ g' ∧ N ≤ m' ∧ N ≤ w.heap.size ∧ w0.heap.size ≤ N
/-- the log too -/
structure C2 (w0 : World) (l b g m l' b' g' m' q r o k : Nat) (ob : Option (Array Value × TypeId)) (x y : LS) (w : World) : Prop where
  new : LB w0 l' b' g' m' q r o k ob x y w
  old : LW w0 l b g m x w
  far : ∃ N v v', LIs w0.heap.size l' b' g' m' v' x w ∧ (∀ i, LFoot l' b' g' m' v' i → N ≤ i) ∧ LIs w0.heap.size l b g m v x w ∧ ∀ i, LFoot l b g m v i → i < N
/-- behind the old one's call -/
structure C3 (w0 : World) (b g m l' b' g' m' q r o k : Nat) (ob : Option (Array Value × TypeId)) (x y : LS) (w : World) : Prop where
  new : LB w0 l' b' g' m' q r o k ob x y w
  far : ∃ N v' so, LIs w0.heap.size l' b' g' m' v' x w ∧ (∀ i, LFoot l' b' g' m' v' i → N ≤ i) ∧ DiskAt b g m so w ∧ so.made ≤ 40 * k ∧ (∀ i, Foot b g m i → i < N) ∧ Over w0.heap.size b g m
theorem lfoot_lt {v : Value} {base : Nat} (h : LIs base l b g m v x w) : ∀ i, LFoot l b g m v i → i < w.heap.size := by
  rintro i (rfl | e | e)
  · exact lt_of_heap h.1.obj
  · exact h.1.disk.lt e
  · exact (h.1.row.lt i e).2
theorem LB.clone1 (h : LB w0 l b g m q r o k ob x y w) :
    Calls Tryz.prog 22 #[.pointer (some ⟨b, 0, none⟩)] w fun e w' => ∃ b' g' m', e = .returned (.pointer (some ⟨b', 0, none⟩)) ∧ C1 w0 l b g m b' g' m' q r o k ob x y w' := by
  obtain ⟨v, hv⟩ := h.lw.is
  refine (clone_any' h.lw.disk).mono fun _ _ hh => ?_
  obtain ⟨b', g', m', h1, h2, h3, h4⟩ := hh
  exact ⟨b', g', m', h1, h.later h4, h2, w.heap.size, v, hv.below h4, lfoot_lt hv, h3.1, h3.2.1, h3.2.2, h4.size, h.lw.below.size⟩
theorem C1.clone2 (h : C1 w0 l b g m b' g' m' q r o k ob x y w) :
    Calls Tryz.prog 23 #[.pointer (some ⟨l, 0, none⟩), .pointer (some ⟨b', 0, none⟩)] w fun e w' => ∃ l', e = .returned (.pointer (some ⟨l', 0, none⟩)) ∧ C2 w0 l b g m l' b' g' m' q r o k ob x y w' := by
  obtain ⟨N, v, hv, h1, h2, h3, h4, h5, h6⟩ := h.far
  refine (nvclone_any hv h.disk).mono fun _ _ hh => ?_
  obtain ⟨l', v', e, h7, h8, hB⟩ := hh
  have hl := h.old.later hB
  have hz := h.old.lw.below.size
  have h9 := h7.lower hz
  have hf : ∀ i, LFoot l' b' g' m' v' i → N ≤ i := by
    rintro i (rfl | (rfl | rfl | rfl) | e)
    · omega
    · exact h2
    · exact h3
    · exact h4
    · have := (h7.1.row.lt i e).1; omega
  have hov : Over w0.heap.size b' g' m' := ⟨by omega, by omega, by omega⟩
  exact ⟨l', e, ⟨⟨⟨v', h9⟩, by omega, hov, hl.lw.below⟩, hl.rb, h.old.made1, h.old.made2, hl.op⟩, hl.lw, N, v, v', h9, hf, hv.below hB, h1⟩
/-- blocks of another log are turned -/
theorem LB.other {F : Nat → Prop} {v' : Value} (h : LB w0 l' b' g' m' q r o k ob x y w) (hv : LIs w0.heap.size l' b' g' m' v' x w) (hs : Stir F w w') (hk : LKeep w w') (hF : ∀ i, F i → w0.heap.size ≤ i) (hd : ∀ i, LFoot l' b' g' m' v' i → ¬ F i) :
    LB w0 l' b' g' m' q r o (k + 1) ob x y w' ∧ LIs w0.heap.size l' b' g' m' v' x w' := by
  have h9 := hv.stay hs hd
  exact ⟨h.turn ⟨⟨v', h9⟩, h.lw.low, h.lw.over, h.lw.below.trans (hs.below hF h.lw.below.size)⟩ hk (by omega), h9⟩
theorem C2.append (h : C2 w0 l b g m l' b' g' m' q r o k ob x y w) (hk : k < 1000000) (s : ByteArray) (hs : s.size ≤ 140737488355328) :
    Calls Tryz.prog 7 #[.pointer (some ⟨l, 0, none⟩), .string s] w fun e w' => (∃ z, e = .returned (.int .i64 z)) ∧ C3 w0 b g m l' b' g' m' q r o (k + 1) ob x y w' := by
  obtain ⟨N, v, v', h1, h2, h3, h4⟩ := h.far
  have hm := h.new.made1
  refine (append_any h3 (by omega) h.old.below.size s hs).mono fun _ _ hh => ?_
  obtain ⟨v2, e, h5, h6⟩ := hh
  obtain ⟨h7, h8⟩ := h.new.other h1 h6 (h3.kept h6) (lfoot_low h.old.low h.old.over (fun i hi => (h3.1.row.lt i hi).1)) (fun i hi hj => by have := h2 i hi; have := h4 i hj; omega)
  have := made_app x s
  exact ⟨⟨_, e⟩, h7, N, v', _, h8, h2, h5.1.disk, by omega, fun i hi => h4 i (.inr (.inl hi)), h.old.over⟩
theorem C3.write (h : C3 w0 b g m l' b' g' m' q r o k ob x y w) (hk : k < 1000000) (n : Int) (hn : I64 n) (s : ByteArray) :
    Calls Tryz.prog 24 #[.pointer (some ⟨b, 0, none⟩), .int .i64 n, .string s] w fun e w' => (∃ z, e = .returned (.int .i64 z)) ∧ C3 w0 b g m l' b' g' m' q r o (k + 1) ob x y w' := by
  obtain ⟨N, v', so, h1, h2, h3, h4, h5, h6⟩ := h.far
  refine (write_any h3 (by omega) n hn s).mono fun _ _ hh => ?_
  obtain ⟨e, h7, h8⟩ := hh
  obtain ⟨h9, h10⟩ := h.new.other h1 h8 (h3.kept h8) (fun i hi => h6.foot i hi) (fun i hi hj => by have := h2 i hi; have := h5 i hj; omega)
  have := made_write' so n s
  exact ⟨⟨_, e⟩, h9, N, v', _, h10, h2, h7, by omega, h5, h6⟩
theorem C3.crash (h : C3 w0 b g m l' b' g' m' q r o k ob x y w) (hk : k < 1000000) {s : ByteArray} (hs : s.size ≤ 140737488355328) :
    Calls Tryz.prog 15 #[.pointer (some ⟨b, 0, none⟩), .string s] w fun e w' => (∃ z, e = .returned (.int .i64 z)) ∧ LB w0 l' b' g' m' q r o (k + 1) ob x y w' := by
  obtain ⟨N, v', so, h1, h2, h3, h4, h5, h6⟩ := h.far
  refine (crash_any h3 (by omega) hs).mono fun _ _ hh => ?_
  obtain ⟨e, h7, h8⟩ := hh
  obtain ⟨h9, h10⟩ := h.new.other h1 h8 (h3.kept h8) (fun i hi => h6.foot i hi) (fun i hi hj => by have := h2 i hi; have := h5 i hj; omega)
  exact ⟨⟨_, e⟩, h9⟩
end
end Go.Proofs.YteboacjniokfpaaGreatDoor

