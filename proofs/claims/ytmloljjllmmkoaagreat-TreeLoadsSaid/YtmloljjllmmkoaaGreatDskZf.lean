/-
  A disk beside the reference's, and the call at hand, of whatever type: what each call of the two keeps.
-/
import Derived.Test.YtmloljjllmmkoaaGreatMD
namespace Go.Proofs.YtmloljjllmmkoaaGreat
open Go.RowKit Go Go.Maps SM

def Kind4 (e : TypeId) : Prop := e ≠ 153 ∧ e ≠ 5 ∧ e ≠ 108 ∧ e ≠ 9
/-- a disk, the reference's, and the call at hand, if there is one -/
structure HF (w0 : World) (b g m r q k : Nat) (ob : Option (Array Value × TypeId)) (s t : DS) (w : World) : Prop where
  dk : DiskAt b g m s w
  ref : RefK k r w0.heap.size t w
  over : Over w0.heap.size b g m
  below : Below w0.heap.size w0 w
  ok : t.Ok
  made1 : s.made ≤ k
  made2 : t.made ≤ k
  op : ∀ z, ob = some z → w.heap[q]? = some (.cells z.1 z.2 (0, 0)) ∧ Kind4 z.2
section
variable {w0 w w' : World} {b g m r q k : Nat} {ob : Option (Array Value × TypeId)} {s t : DS} {z : Array Value × TypeId}
theorem HF.later (h : HF w0 b g m r q k ob s t w) (hB : Below w.heap.size w w') : HF w0 b g m r q k ob s t w' := by
  obtain ⟨zs, v0, v1, v2, kp, hz, hr⟩ := h.ref
  exact ⟨h.dk.below hB, ⟨zs, v0, v1, v2, kp, hz, hr.below hB⟩, h.over, h.below.trans (hB.mono h.below.size), h.ok, h.made1, h.made2, fun z e => ⟨keeps_of hB (h.op z e).1, (h.op z e).2⟩⟩
theorem HF.le (h : HF w0 b g m r q k ob s t w) {k' : Nat} (hk : k ≤ k') : HF w0 b g m r q k' ob s t w := by
  obtain ⟨zs, v0, v1, v2, kp, hz, hr⟩ := h.ref
  exact ⟨h.dk, ⟨zs, v0, v1, v2, kp, Nat.le_trans hz hk, hr⟩, h.over, h.below, h.ok, Nat.le_trans h.made1 hk, Nat.le_trans h.made2 hk, h.op⟩
theorem HF.drop (h : HF w0 b g m r q k ob s t w) (q' : Nat) : HF w0 b g m r q' k none s t w := ⟨h.dk, h.ref, h.over, h.below, h.ok, h.made1, h.made2, fun _ e => by cases e⟩
theorem HF.holds (h : HF w0 b g m r q k ob s t w) {q' : Nat} (e : w.heap[q']? = some (.cells z.1 z.2 (0, 0))) (hz : Kind4 z.2) : HF w0 b g m r q' k (some z) s t w := ⟨h.dk, h.ref, h.over, h.below, h.ok, h.made1, h.made2, fun _ e' => by cases e'; exact ⟨e, hz⟩⟩
theorem HF.turn (h : HF w0 b g m r q k ob s t w) {s' : DS} (hd : DiskAt b g m s' w') (hs : Stir (Foot b g m) w w') (hm : s'.made ≤ s.made + 1) : HF w0 b g m r q (k + 1) ob s' t w' := by
  obtain ⟨zs, v0, v1, v2, kp, hz, hr⟩ := h.ref
  have h1 := h.made1
  have h2 := h.made2
  exact ⟨hd, ⟨zs, v0, v1, v2, kp, by omega, hr.disk h.dk hs⟩, h.over, step_below h.below hs h.over h.below.size, h.ok, by omega, by omega, fun z e => ⟨hs.keep (h.op z e).1 (h.dk.not_cells (h.op z e).1 (h.op z e).2.1 (h.op z e).2.2.1), (h.op z e).2⟩⟩
theorem HF.rturn (h : HF w0 b g m r q k ob s t w) {t' : DS} (hr : RefK (k + 1) r w0.heap.size t' w') (hs : RStir w0.heap.size w w') (hk : t'.Ok) (hm : t'.made ≤ t.made + 1) : HF w0 b g m r q (k + 1) ob s t' w' := by
  have h1 := h.made1
  have h2 := h.made2
  exact ⟨h.dk.ref hs, hr, h.over, hs.below h.below h.below.size, hk, by omega, by omega, fun z e => ⟨hs.keep (h.op z e).1 (h.op z e).2.2.2.1 (h.op z e).2.2.2.2, (h.op z e).2⟩⟩

theorem HF.read (h : HF w0 b g m r q k ob s t w) (n : Int) (hn : I64 n) :
    Calls Tryz.prog 166 #[.pointer (some ⟨b, 0, none⟩), .int .i64 n] w fun e w' => e = .returned (.tuple #[.string (s.readS n), .int .i64 (s.readE n)]) ∧ HF w0 b g m r q k ob s t w' :=
  (read_any h.dk n hn).mono fun _ _ hh => ⟨hh.1, h.later hh.2⟩
theorem HF.write (h : HF w0 b g m r q k ob s t w) (hk : k < 1000000) (n : Int) (hn : I64 n) (x : ByteArray) :
    Calls Tryz.prog 41 #[.pointer (some ⟨b, 0, none⟩), .int .i64 n, .string x] w fun e w' => e = .returned (.int .i64 (s.writeE n x)) ∧ HF w0 b g m r q (k + 1) ob (s.write n x) t w' :=
  (write_any h.dk (by have := h.made1; omega) n hn x).mono fun _ _ hh => ⟨hh.1, h.turn hh.2.1 hh.2.2 (made_write ..)⟩
theorem HF.sync (h : HF w0 b g m r q k ob s t w) (hk : k < 1000000) :
    Calls Tryz.prog 87 #[.pointer (some ⟨b, 0, none⟩)] w fun e w' => e = .returned (.int .i64 s.syncE) ∧ HF w0 b g m r q (k + 1) ob s.sync t w' :=
  (sync_any h.dk (by have := h.made1; omega)).mono fun _ _ hh => ⟨hh.1, h.turn hh.2.1 hh.2.2 (made_sync ..)⟩
theorem HF.rread (h : HF w0 b g m r q k ob s t w) (hk : k < 1000000) (n : Int) (hn : I64 n) :
    Calls Tryz.prog 124 #[.pointer (some ⟨r, 0, none⟩), .int .i64 n] w fun e w' => e = .returned (.tuple #[.string (t.readS n), .int .i64 (t.readE n)]) ∧ w = w' := by
  obtain ⟨zs, v0, v1, v2, kp, hz, hr⟩ := h.ref
  exact rread_at hr h.ok (by have := h.made2; omega) n hn
theorem HF.rwrite (h : HF w0 b g m r q k ob s t w) (hk : k < 1000000) (n : Int) (hn : I64 n) (x : ByteArray) :
    Calls Tryz.prog 27 #[.pointer (some ⟨r, 0, none⟩), .int .i64 n, .string x] w fun e w' => e = .returned (.int .i64 (t.writeE n x)) ∧ HF w0 b g m r q (k + 1) ob s (t.write n x) w' := by
  obtain ⟨zs, v0, v1, v2, kp, hz, hr⟩ := h.ref
  refine (rwrite_at hr h.ok (by have := h.made2; omega) n hn x).mono fun _ _ hh => ?_
  obtain ⟨h1, ⟨v1', kp', h2⟩, h3⟩ := hh
  exact ⟨h1, h.rturn ⟨_, _, _, _, _, by omega, h2⟩ (hr.stir h3) (h.ok.write n x) (made_write ..)⟩
theorem HF.rsync (h : HF w0 b g m r q k ob s t w) (hk : k < 1000000) :
    Calls Tryz.prog 90 #[.pointer (some ⟨r, 0, none⟩)] w fun e w' => e = .returned (.int .i64 t.syncE) ∧ HF w0 b g m r q (k + 1) ob s t.sync w' := by
  obtain ⟨zs, v0, v1, v2, kp, hz, hr⟩ := h.ref
  refine (rsync_at hr h.ok (by have := h.made2; omega)).mono fun _ _ hh => ?_
  obtain ⟨h1, ⟨v1', kp', h2⟩, h3⟩ := hh
  exact ⟨h1, h.rturn ⟨_, _, _, _, _, by omega, h2⟩ (hr.stir h3) h.ok.sync (made_sync ..)⟩
/-- what the law reads of the reference -/
theorem HF.cells (h : HF w0 b g m r q k ob s t w) : ∃ a c, w.cell? ⟨r, 1, none⟩ = some (.slice a t.loose.length c) ∧ w.cell? ⟨r, 3, none⟩ = some (.int .i64 t.made) ∧ w.cell? ⟨r, 6, none⟩ = some (.bool t.dead) := by
  obtain ⟨zs, v0, v1, v2, kp0, hz, hr⟩ := h.ref
  obtain ⟨a, c, rfl⟩ := row_shape hr.lo
  exact ⟨a, c, RO.c1 hr.obj, RO.c3 hr.obj, RO.c6 hr.obj⟩
/-- and one that was cloned -/
structure HTwo (w0 : World) (b g m b' g' m' r q k : Nat) (ob : Option (Array Value × TypeId)) (s1 s t : DS) (w : World) : Prop where
  half : HF w0 b' g' m' r q k ob s t w
  old : DiskAt b g m s1 w
  far : ∀ i, Foot b' g' m' i → ¬ Foot b g m i
  over : Over w0.heap.size b g m
  made : s1.made ≤ k
variable {b' g' m' : Nat} {s1 : DS}
theorem HTwo.turn (h : HTwo w0 b g m b' g' m' r q k ob s1 s t w) {s2 : DS} (hd : DiskAt b g m s2 w') (hs : Stir (Foot b g m) w w') (hm : s2.made ≤ s1.made + 1) : HTwo w0 b g m b' g' m' r q (k + 1) ob s2 s t w' := by
  obtain ⟨zs, v0, v1, v2, kp, hz, hr⟩ := h.half.ref
  have h1 := h.half.made1
  have h2 := h.half.made2
  have h3 := h.made
  exact ⟨⟨h.half.dk.stay hs h.far, ⟨zs, v0, v1, v2, kp, by omega, hr.disk h.old hs⟩, h.half.over, step_below h.half.below hs h.over h.half.below.size, h.half.ok, by omega, by omega, fun z e => ⟨hs.keep (h.half.op z e).1 (h.old.not_cells (h.half.op z e).1 (h.half.op z e).2.1 (h.half.op z e).2.2.1), (h.half.op z e).2⟩⟩, hd, h.far, h.over, by omega⟩
theorem HTwo.later (h : HTwo w0 b g m b' g' m' r q k ob s1 s t w) (hB : Below w.heap.size w w') : HTwo w0 b g m b' g' m' r q k ob s1 s t w' := ⟨h.half.later hB, h.old.below hB, h.far, h.over, h.made⟩
theorem HTwo.write (h : HTwo w0 b g m b' g' m' r q k ob s1 s t w) (hk : k < 1000000) (n : Int) (hn : I64 n) (x : ByteArray) :
    Calls Tryz.prog 41 #[.pointer (some ⟨b, 0, none⟩), .int .i64 n, .string x] w fun e w' => e = .returned (.int .i64 (s1.writeE n x)) ∧ HTwo w0 b g m b' g' m' r q (k + 1) ob (s1.write n x) s t w' :=
  (write_any h.old (by have := h.made; omega) n hn x).mono fun _ _ hh => ⟨hh.1, h.turn hh.2.1 hh.2.2 (made_write ..)⟩
theorem HTwo.sync (h : HTwo w0 b g m b' g' m' r q k ob s1 s t w) (hk : k < 1000000) :
    Calls Tryz.prog 87 #[.pointer (some ⟨b, 0, none⟩)] w fun e w' => e = .returned (.int .i64 s1.syncE) ∧ HTwo w0 b g m b' g' m' r q (k + 1) ob s1.sync s t w' :=
  (sync_any h.old (by have := h.made; omega)).mono fun _ _ hh => ⟨hh.1, h.turn hh.2.1 hh.2.2 (made_sync ..)⟩
/-- new ones -/
theorem hf_new {n : Nat} (h1 : 1 ≤ n) (h2 : n ≤ 16384) (hB : Below w0.heap.size w0 w) (hd : DiskAt b g m (fresh (blank n)) w) (ho : Over w0.heap.size b g m) (hr : RNew w r n w') : HF w0 b g m r 0 0 none (fresh (blank n)) (fresh (blank n)) w' := by
  obtain ⟨hl, a, c, e1, e2, e3⟩ := hr
  have hz := hB.size
  have hln : (blank n).length = n := by simp [blank]
  refine ⟨hd.below e3, ⟨[], .slice a n c, .slice none 0 0, .slice none 0 0, ⟨#[]⟩, Nat.le_refl _, ⟨e1, ?_, World.ownsRow_nil _ _ _ _, World.ownsRow_nil _ _ _ _, fun k => by simp [fresh], Nat.zero_le _, fun h => absurd rfl h, Nat.zero_le _, Nat.le_trans hz hl⟩⟩, ho, hB.trans (e3.mono hz), blank_ok h1 h2, Nat.le_refl _, Nat.le_refl _, fun _ e => by cases e⟩
  show w'.ownsRow w0.heap.size 9 1 (.slice a n c) (blank n).length (strVals (blank n))
  rw [hln]
  exact e2.mono hz
end
end Go.Proofs.YtmloljjllmmkoaaGreat

