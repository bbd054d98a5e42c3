/-
  BlkP / BlkPc.
-/
import Derived.Test.YtmloljjllmmkoaaGreatBX
import Derived.Test.YtmloljjllmmkoaaGreatBlkK
import Derived.Test.YtmloljjllmmkoaaGreatBY
namespace Go.Proofs.YtmloljjllmmkoaaGreat
open Go.RowKit Go Go.Maps SM

def Kind8 (e : TypeId) : Prop := (e ≠ 153 ∧ e ≠ 5 ∧ e ≠ 57 ∧ e ≠ 102 ∧ e ≠ 104) ∧ ¬ K8 e
theorem VKeep.owns {w w' : World} (k : VKeep w w') {base : Nat} {e : TypeId} {size : Nat} {v : Value} {n : Nat} {xs : List Value} (h : w.ownsRow base e size v n xs) (h1 : e ≠ 153) (h2 : e ≠ 5) (h3 : e ≠ 57) (h4 : e ≠ 102) (h5 : e ≠ 104) : w'.ownsRow base e size v n xs :=
  owns_same8 h (fun i hi => by
    obtain ⟨C, hC⟩ := owns_block h hi
    rw [hC]
    exact k.keep hC h1 h2 h3 h4 h5)
theorem VKeep.size {w w' : World} (k : VKeep w w') : w.heap.size ≤ w'.heap.size := by obtain ⟨F, hs, _⟩ := k; exact hs.size
theorem VKeep.trans {w w' w'' : World} (h : VKeep w w') (k : VKeep w' w'') : VKeep w w'' := by
  obtain ⟨F, hs, hF⟩ := h
  obtain ⟨G, ks, kG⟩ := k
  refine ⟨fun i => F i ∨ (G i ∧ i < w.heap.size), (hs.weaken (fun _ e => .inl e)).trans ks (fun i e => ?_), ?_⟩
  · by_cases hi : i < w.heap.size
    · exact .inl (.inr ⟨e, hi⟩)
    · exact .inr (by omega)
  · rintro i C e f (hi | ⟨hi, hl⟩) hC
    · exact hF i C e f hi hC
    · by_cases hf : F i
      · exact hF i C e f hf hC
      · exact kG i C e f hi (hs.keep hC hf)
/-- what is so of every volume in memory -/
theorem VW.fine {w0 w : World} {l b g m c : Nat} {x : VS} (h : VW w0 l b g m c x w) : FineV x := by
  obtain ⟨F, hv⟩ := h.is
  have hk := hv.keys
  exact ⟨hv.disk.1, hv.big, hv.nle, hk.2.1, hk.1⟩
section
variable {q r B c : Nat} {zs : List Int} {v0 v2 : Value} {x : VS} {w w' : World}
theorem RVC.vkept (h : RVC q r B zs v0 v2 x c w) (k : VKeep w w') : RVC q r B zs v0 v2 x c w' := by
  obtain ⟨v1, kp, hr⟩ := h.ref
  obtain ⟨G, v, hc⟩ := h.kept
  exact ⟨k.keep h.obj (by decide) (by decide) (by decide) (by decide) (by decide),
    ⟨v1, kp, ⟨k.keep hr.obj (by decide) (by decide) (by decide) (by decide) (by decide), k.owns hr.st (by decide) (by decide) (by decide) (by decide) (by decide), k.owns hr.lo (by decide) (by decide) (by decide) (by decide) (by decide), k.owns hr.ba (by decide) (by decide) (by decide) (by decide) (by decide), hr.bads, hr.few, hr.keep, hr.kple, hr.low⟩⟩,
    ⟨G, v, ⟨k.keep hc.obj (by decide) (by decide) (by decide) (by decide) (by decide), k.owns hc.row (by decide) (by decide) (by decide) (by decide) (by decide), hc.own, hc.apart, hc.low⟩⟩, h.low⟩
/-- the reference's disk is turned -/
theorem RVC.dturn {s' : DS} {zs' : List Int} {v2' : Value} (h : RVC q r B zs v0 v2 x c w) (hd : ∃ v1 kp, RefAt r B s' zs' v0 v1 v2' kp w') (hs : Stir (RF r v0) w w') : RVC q r B zs' v0 v2' { x with disk := s' } c w' ∧ RS8 B w w' := by
  obtain ⟨v1, kp, hr⟩ := h.ref
  obtain ⟨G, v, hc⟩ := h.kept
  have hm : ∀ i, RF r v0 i → ∃ C t f, w.heap[i]? = some (.cells C t f) ∧ (t = 108 ∨ t = 9 ∨ t = 64) ∧ B ≤ i := fun i hi => h.mine i (.inr hi)
  refine ⟨⟨hs.keep h.obj (hr.not_vol h.obj), hd, ⟨G, v, hc.stay hs (fun b hb hf => ?_)⟩, h.low⟩, _, hs, fun i hi => ?_⟩
  · obtain ⟨C, t, f, e, ht, _⟩ := hm b hf
    obtain ⟨C', t', f', e', ht', _⟩ := kept_kinds hc b hb
    exact apart_kinds e e' ht ht'
  · obtain ⟨C, t, f, e, ht, hb⟩ := hm i hi
    exact ⟨C, t, f, e, .inl ht, hb⟩
theorem RVC.cells (h : RVC q r B zs v0 v2 x c w) : w.cell? ⟨r, 3, none⟩ = some (.int .i64 x.disk.made) ∧ w.cell? ⟨q, 1, none⟩ = some (.string x.text) ∧ w.cell? ⟨q, 2, none⟩ = some (.int .i64 x.num) ∧ w.cell? ⟨q, 4, none⟩ = some (.bool x.dead) := by
  obtain ⟨v1, kp, hr⟩ := h.ref
  exact ⟨RO.c3 hr.obj, RVO.c1 h.obj, RVO.c2 h.obj, RVO.c4 h.obj⟩
end
/-- the reference's volume -/
def RB8 (q r B k : Nat) (y : VS) (w : World) : Prop := ∃ zs v0 v2 c, zs.length ≤ k ∧ RVC q r B zs v0 v2 y c w
section
variable {q r B k : Nat} {y y' : VS} {w w' : World}
theorem RB8.below (h : RB8 q r B k y w) (hB : Below w.heap.size w w') : RB8 q r B k y w' := by
  obtain ⟨zs, v0, v2, c, h1, h2⟩ := h
  exact ⟨zs, v0, v2, c, h1, h2.below hB⟩
theorem RB8.kept (h : RB8 q r B k y w) (hk : VKeep w w') : RB8 q r B k y w' := by
  obtain ⟨zs, v0, v2, c, h1, h2⟩ := h
  exact ⟨zs, v0, v2, c, h1, h2.vkept hk⟩
theorem RB8.le {k' : Nat} (h : RB8 q r B k y w) (hk : k ≤ k') : RB8 q r B k' y w := by
  obtain ⟨zs, v0, v2, c, h1, h2⟩ := h
  exact ⟨zs, v0, v2, c, Nat.le_trans h1 hk, h2⟩
end
section
variable {w0 w w' : World} {l b g m c : Nat} {x : VS}
theorem VW.s8 (h : VW w0 l b g m c x w) (k : RS8 w0.heap.size w w') : VW w0 l b g m c x w' := by
  have hk := k
  obtain ⟨F, hs, hF⟩ := k
  obtain ⟨F', hv⟩ := h.is
  refine ⟨⟨F', hv.stay hs (fun i hi hf => ?_)⟩, h.low, h.over, hk.below h.below h.below.size⟩
  obtain ⟨C, t, f, e, ht, _⟩ := hF i hf
  rcases vfoot_kinds hv hi e with rfl | rfl | rfl | rfl | rfl <;> rcases ht with (e | e | e) | e | e <;> exact absurd e (by decide)
end

/-- the two volumes, and the call at hand -/
structure BB (w0 : World) (l b g m c q r o k : Nat) (ob : Option (Array Value × TypeId)) (x y : VS) (w : World) : Prop where
  vw : VW w0 l b g m c x w
  rb : RB8 q r w0.heap.size k y w
  made1 : x.disk.made ≤ 40 * k
  made2 : y.disk.made ≤ 40 * k
  op : ∀ z, ob = some z → w.heap[o]? = some (.cells z.1 z.2 (0, 0)) ∧ Kind8 z.2
section
variable {w0 w w' : World} {l b g m c q r o k : Nat} {ob : Option (Array Value × TypeId)} {x y : VS} {z : Array Value × TypeId}
theorem RS8.op (k : RS8 w0.heap.size w w') {i : Nat} {t : TypeId} {C : Array Value} {f : Nat × Nat} (h : w.heap[i]? = some (.cells C t f)) (hk : Kind8 t) : w'.heap[i]? = some (.cells C t f) := k.keep h hk.2
theorem VKeep.op (k : VKeep w w') {i : Nat} {t : TypeId} {C : Array Value} {f : Nat × Nat} (h : w.heap[i]? = some (.cells C t f)) (hk : Kind8 t) : w'.heap[i]? = some (.cells C t f) := k.keep h hk.1.1 hk.1.2.1 hk.1.2.2.1 hk.1.2.2.2.1 hk.1.2.2.2.2
theorem BB.later (h : BB w0 l b g m c q r o k ob x y w) (hB : Below w.heap.size w w') : BB w0 l b g m c q r o k ob x y w' :=
  ⟨h.vw.later hB, h.rb.below hB, h.made1, h.made2, fun z e => ⟨keeps_of hB (h.op z e).1, (h.op z e).2⟩⟩
theorem BB.le (h : BB w0 l b g m c q r o k ob x y w) {k' : Nat} (hk : k ≤ k') : BB w0 l b g m c q r o k' ob x y w := ⟨h.vw, h.rb.le hk, by have := h.made1; omega, by have := h.made2; omega, h.op⟩
theorem BB.drop (h : BB w0 l b g m c q r o k ob x y w) (o' : Nat) : BB w0 l b g m c q r o' k none x y w := ⟨h.vw, h.rb, h.made1, h.made2, fun _ e => by cases e⟩
theorem BB.holds (h : BB w0 l b g m c q r o k ob x y w) {o' : Nat} (e : w.heap[o']? = some (.cells z.1 z.2 (0, 0))) (hz : Kind8 z.2) : BB w0 l b g m c q r o' k (some z) x y w := ⟨h.vw, h.rb, h.made1, h.made2, fun _ e' => by cases e'; exact ⟨e, hz⟩⟩
theorem BB.turn {x' : VS} (h : BB w0 l b g m c q r o k ob x y w) (hl : VW w0 l b g m c x' w') (hk : VKeep w w') (hm : x'.disk.made ≤ x.disk.made + 30) : BB w0 l b g m c q r o (k + 1) ob x' y w' := by
  have h1 := h.made1
  have h2 := h.made2
  exact ⟨hl, (h.rb.kept hk).le (by omega), by omega, by omega, fun z e => ⟨hk.op (h.op z e).1 (h.op z e).2, (h.op z e).2⟩⟩
theorem BB.rturn {y' : VS} (h : BB w0 l b g m c q r o k ob x y w) (hr : RB8 q r w0.heap.size (k + 1) y' w') (hs : RS8 w0.heap.size w w') (hm : y'.disk.made ≤ y.disk.made + 30) : BB w0 l b g m c q r o (k + 1) ob x y' w' := by
  have h1 := h.made1
  have h2 := h.made2
  exact ⟨h.vw.s8 hs, hr, by omega, by omega, fun z e => ⟨hs.op (h.op z e).1 (h.op z e).2, (h.op z e).2⟩⟩
theorem BB.read (h : BB w0 l b g m c q r o k ob x y w) (v : Int) (hv : I64 v) :
    Calls Tryz.prog 162 #[.pointer (some ⟨l, 0, none⟩), .int .i64 v] w fun e w' => e = .returned (.tuple #[.string (x.read v).2.1, .int .i64 (x.read v).1]) ∧ BB w0 l b g m c q r o (k + 1) ob (x.read v).2.2 y w' :=
  (h.vw.read v hv).mono fun _ _ hh => ⟨hh.1, h.turn hh.2.1 hh.2.2 (by rw [made_vread]; omega)⟩
theorem BB.write (h : BB w0 l b g m c q r o k ob x y w) (hk : k < 1000000) (v : Int) (hv : I64 v) (p : ByteArray) (hp : p.size ≤ 140737488355328) :
    Calls Tryz.prog 5 #[.pointer (some ⟨l, 0, none⟩), .int .i64 v, .string p] w fun e w' => e = .returned (.int .i64 (x.write v p).1) ∧ BB w0 l b g m c q r o (k + 1) ob (x.write v p).2 y w' :=
  (h.vw.write (by have := h.made1; omega) v hv p hp).mono fun _ _ hh => ⟨hh.1, h.turn hh.2.1 hh.2.2 (by have := made_vwrite x v p; omega)⟩
theorem BB.rread (h : BB w0 l b g m c q r o k ob x y w) (hf : FineV y) (hk : k < 1000000) (v : Int) :
    Calls Tryz.prog 96 #[.pointer (some ⟨q, 0, none⟩), .int .i64 v] w fun e w' => e = .returned (.tuple #[.string (y.read v).2.1, .int .i64 (y.read v).1]) ∧ BB w0 l b g m c q r o (k + 1) ob x (y.read v).2.2 w' := by
  obtain ⟨zs, v0, v2, cc, h1, h2⟩ := h.rb
  exact (rread8_any h2 hf (by have := h.made2; omega) v).mono fun _ _ hh => ⟨hh.1, h.rturn ⟨zs, v0, v2, cc, by omega, hh.2.1⟩ hh.2.2 (by rw [made_vread]; omega)⟩
theorem BB.rwrite (h : BB w0 l b g m c q r o k ob x y w) (hf : FineV y) (hk : k < 1000000) (v : Int) (p : ByteArray) (hp : p.size ≤ 140737488355328) :
    Calls Tryz.prog 6 #[.pointer (some ⟨q, 0, none⟩), .int .i64 v, .string p] w fun e w' => e = .returned (.int .i64 (y.write v p).1) ∧ BB w0 l b g m c q r o (k + 1) ob x (y.write v p).2 w' := by
  obtain ⟨zs, v0, v2, cc, h1, h2⟩ := h.rb
  exact (rwrite8_any h2 hf (by have := h.made2; omega) v p hp).mono fun _ _ hh => ⟨hh.1, h.rturn ⟨zs, v0, v2, cc, by omega, hh.2.1⟩ hh.2.2 (by have := made_vwrite y v p; omega)⟩
/-- what the law reads of the reference -/
theorem BB.cells (h : BB w0 l b g m c q r o k ob x y w) : w.cell? ⟨r, 3, none⟩ = some (.int .i64 y.disk.made) ∧ w.cell? ⟨q, 1, none⟩ = some (.string y.text) ∧ w.cell? ⟨q, 2, none⟩ = some (.int .i64 y.num) ∧ w.cell? ⟨q, 4, none⟩ = some (.bool y.dead) := by
  obtain ⟨zs, v0, v2, cc, h1, h2⟩ := h.rb
  exact h2.cells
end
end Go.Proofs.YtmloljjllmmkoaaGreat

namespace Go.Proofs.YtmloljjllmmkoaaGreat
open Go.RowKit Go Go.Maps SM

section
variable {w0 w w' : World} {l b g m c l' b' g' m' c' q r o k : Nat} {ob : Option (Array Value × TypeId)} {x y xo : VS}
/-- the disk is cloned -/
structure B1 (w0 : World) (l b g m c b' g' m' q r o k : Nat) (ob : Option (Array Value × TypeId)) (x y : VS) (w : World) : Prop where
  old : BB w0 l b g m c q r o k ob x y w
  disk : DiskAt b' g' m' x.disk w
  far : ∃ N F, VolAt w0.heap.size l b g m c F x w ∧ (∀ i, VFoot l b g m F i → i < N) ∧ N ≤ b' ∧ N ≤ g' ∧ N ≤ m' ∧ N ≤ w.heap.size ∧ w0.heap.size ≤ N
/-- the volume too; xo: the old one -/
structure B2 (w0 : World) (l b g m c l' b' g' m' c' q r o k : Nat) (ob : Option (Array Value × TypeId)) (xo x y : VS) (w : World) : Prop where
  new : BB w0 l' b' g' m' c' q r o k ob x y w
  pair : ∃ F F', VolAt w0.heap.size l b g m c F xo w ∧ VolAt w0.heap.size l' b' g' m' c' F' x w ∧ ∀ i, VFoot l b g m F i → ¬ VFoot l' b' g' m' F' i
  low : w0.heap.size ≤ l
  over : Over w0.heap.size b g m
  made : xo.disk.made ≤ 40 * k
theorem vfoot_low {base : Nat} {F : Nat → Prop} {x : VS} (h : VolAt base l b g m c F x w) (hl : base ≤ l) (ho : Over base b g m) : ∀ i, VFoot l b g m F i → base ≤ i := fun i hi => by
  rcases hi with rfl | hi | hi
  · exact hl
  · exact ho.foot i hi
  · exact h.kept.low hi
theorem B2.step {F F' F1 : Nat → Prop} {xo' : VS} (h : B2 w0 l b g m c l' b' g' m' c' q r o k ob xo x y w) (hv : VolAt w0.heap.size l b g m c F xo w) (hn : VolAt w0.heap.size l' b' g' m' c' F' x w) (hd : ∀ i, VFoot l b g m F i → ¬ VFoot l' b' g' m' F' i)
    (hv' : VolAt w0.heap.size l b g m c F1 xo' w') (hs : Stir (VFoot l b g m F) w w') (hF : ∀ i, F1 i → F i ∨ w.heap.size ≤ i) (hm : xo'.disk.made ≤ xo.disk.made + 30) : B2 w0 l b g m c l' b' g' m' c' q r o (k + 1) ob xo' x y w' := by
  have hk := hv.vkeep hs
  have hn' := hn.stay hs (fun i hi hj => hd i hj hi)
  have h1 := h.made
  refine ⟨h.new.turn ⟨⟨F', hn'⟩, h.new.vw.low, h.new.vw.over, h.new.vw.below.trans (hs.below (vfoot_low hv h.low h.over) h.new.vw.below.size)⟩ hk (by omega), ⟨F1, F', hv', hn', fun i hi hj => ?_⟩, h.low, h.over, by omega⟩
  rcases hi with hi | hi | hi
  · exact hd i (.inl hi) hj
  · exact hd i (.inr (.inl hi)) hj
  · rcases hF i hi with e | e
    · exact hd i (.inr (.inr e)) hj
    · have := hn.lt hj; omega
theorem B2.write (h : B2 w0 l b g m c l' b' g' m' c' q r o k ob xo x y w) (hk : k < 1000000) (v : Int) (hv : I64 v) (p : ByteArray) (hp : p.size ≤ 140737488355328) :
    Calls Tryz.prog 5 #[.pointer (some ⟨l, 0, none⟩), .int .i64 v, .string p] w fun e w' => (∃ z, e = .returned (.int .i64 z)) ∧ ∃ xo', B2 w0 l b g m c l' b' g' m' c' q r o (k + 1) ob xo' x y w' := by
  obtain ⟨F, F', h1, h2, h3⟩ := h.pair
  refine (vwrite_any h1 (by have := h.made; omega) v hv p hp).mono fun _ _ hh => ?_
  obtain ⟨e, F1, h4, h5, h6⟩ := hh
  exact ⟨⟨_, e⟩, _, h.step h1 h2 h3 h4 h5 h6 (by have := made_vwrite xo v p; omega)⟩
end
end Go.Proofs.YtmloljjllmmkoaaGreat

