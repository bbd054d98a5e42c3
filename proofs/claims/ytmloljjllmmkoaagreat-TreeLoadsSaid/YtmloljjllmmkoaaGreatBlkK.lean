/-
  What a law notes of a volume, and what it says of it: kept by each call, and by each crash.
-/
import Derived.Test.YtmloljjllmmkoaaGreatBS
namespace Go.Proofs.YtmloljjllmmkoaaGreat
open Go.RowKit Go Go.Maps SM

/-- the root; of each block what it carries (is that sure?), what was written since the last Commit -/
structure NT where
  root : ByteArray
  has : Nat → ByteArray
  now : Nat → ByteArray
  sure : Nat → Bool
  loose : Nat → Bool
def NT.new : NT := ⟨none0, fun _ => none0, fun _ => none0, fun _ => false, fun _ => false⟩
def NT.note (n : NT) (k : Nat) (p : ByteArray) : NT := { n with now := fun j => if j = k then p else n.now j, loose := fun j => if j = k then true else n.loose j }
def NT.cts (n : NT) (r : ByteArray) (j : Nat) : NT where
  root := r
  has := fun k => if 1 ≤ k ∧ k < j ∧ n.loose k = true then n.now k else n.has k
  now := n.now
  sure := fun k => if 1 ≤ k ∧ k < j ∧ n.loose k = true then true else n.sure k
  loose := fun k => if 1 ≤ k ∧ k < j then false else n.loose k
def NT.hld (n : NT) (j : Nat) : NT where
  root := n.root
  has := n.has
  now := n.now
  sure := fun k => if 1 ≤ k ∧ k < j ∧ n.loose k = true then false else n.sure k
  loose := fun k => if 1 ≤ k ∧ k < j then false else n.loose k
/-- a block's four sectors, as they stay -/
def AtL (s : DS) (v : Nat) (l : List UInt8) : Prop := ∀ i, i < 4 → s.at (4 * v + i) = secB l i
structure Kept (x : VS) (n : NT) : Prop where
  sound : Sound x
  len : x.disk.stay.length = 32
  text : x.text = n.root
  each : ∀ k : Nat, 1 ≤ k → k < 8 → (n.loose k = true ∧ (n.now k).size ≤ 240 ∧ Lies x.disk k (frameL (n.now k).data.toList)) ∨
    (n.loose k = false ∧ (n.sure k = true → (n.has k).size ≤ 240 ∧ AtL x.disk k (frameL (n.has k).data.toList) ∧ Lies x.disk k (frameL (n.has k).data.toList)))
/-- the power is gone: the root that is there, what is sure -/
structure Left (s : DS) (n : NT) (r : ByteArray) (m : Nat) : Prop where
  gone : Gone s
  len : s.stay.length = 32
  root : RootG s r m
  one : 1 ≤ m
  le : m ≤ 1099511627776
  tle : r.size ≤ 40
  each : ∀ k : Nat, 1 ≤ k → k < 8 → n.sure k = true → n.loose k = false → (n.has k).size ≤ 240 ∧ AtL s k (frameL (n.has k).data.toList)
def Torn8 (s : DS) (n : NT) (next : ByteArray) (M : Nat) : Prop :=
  ∃ r m, m ≤ M ∧ ((r = n.root ∧ Left s n r m) ∨ (r ≠ n.root ∧ r = next ∧ Left s (n.cts r 8) r m))
section
variable {x : VS} {n : NT}
theorem Kept.has (h : Kept x n) {k : Nat} (h1 : 1 ≤ k) (h2 : k < 8) : x.has (k : Int) = true := by
  rw [has_is]
  have : blkN x.disk = 8 := by unfold blkN; rw [h.len]
  omega
/-- each sector is what stayed, or what was written last: what is sure stays, and the root -/
theorem Kept.lost (h : Kept x n) {s : DS} (hg : Gone s) (hl : s.stay.length = 32) {n' : NT} (hr : n'.root = n.root) (hh : n'.has = n.has) (hs : n'.sure = n.sure) (hlo : ∀ k, n'.loose k = false → n.loose k = false)
    (h2 : ∀ j, j < 2 → s.at j = x.disk.at j ∨ s.at j = x.disk.look (j : Int))
    (he : ∀ k : Nat, 1 ≤ k → k < 8 → n'.loose k = false → ∀ i, i < 4 → s.at (4 * k + i) = x.disk.at (4 * k + i) ∨ s.at (4 * k + i) = x.disk.look ((4 * k + i : Nat) : Int)) (next : ByteArray) : Torn8 s n' next x.num := by
  refine ⟨x.text, x.num, Nat.le_refl _, .inl ⟨h.text.trans hr.symm, hg, hl, h.sound.root.lost h2, h.sound.one, h.sound.le, h.sound.tle, fun k k1 k2 e1 e2 => ?_⟩⟩
  rw [hh]
  rw [hs] at e1
  rcases h.each k k1 k2 with ⟨e, _⟩ | ⟨_, e⟩
  · rw [hlo k e2] at e; cases e
  · obtain ⟨a, b, c⟩ := e e1
    refine ⟨a, fun i hi => ?_⟩
    rcases he k k1 k2 e2 i hi with d | d
    · rw [d, b i hi]
    · rw [d, c i hi]
theorem Kept.write (h : Kept x n) {k : Nat} (h1 : 1 ≤ k) (h2 : k < 8) {p : ByteArray} (hp : p.size ≤ 240) (next : ByteArray) :
    (Kept (x.write (k : Int) p).2 (n.note k p) ∧ (x.write (k : Int) p).2.num = x.num) ∨ ((x.write (k : Int) p).2.disk.dead = true ∧ Torn8 (x.write (k : Int) p).2.disk (n.note k p) next x.num) := by
  rcases h.sound.write (h.has h1 h2) hp with ⟨_, a, b, c, d, e, f⟩ | ⟨_, g, l, f⟩
  · rw [Int.toNat_natCast] at e f
    refine .inl ⟨⟨a, by rw [d]; exact h.len, b.trans h.text, fun j j1 j2 => ?_⟩, c⟩
    by_cases ej : j = k
    · subst ej
      exact .inl ⟨by simp [NT.note], by simpa [NT.note] using hp, by simpa [NT.note] using e⟩
    · have hsame : ∀ l, Lies x.disk j l → Lies (x.write (k : Int) p).2.disk j l := fun l hl i hi => by
        rw [f (4 * j + i) (fun t ht => by omega)]
        exact hl i hi
      have hat : ∀ l, AtL x.disk j l → AtL (x.write (k : Int) p).2.disk j l := fun l hl i hi => by
        rw [DS.at, d]
        exact hl i hi
      have e1 : (n.note k p).loose j = n.loose j := by simp [NT.note, ej]
      have e2 : (n.note k p).now j = n.now j := by simp [NT.note, ej]
      have e3 : (n.note k p).sure j = n.sure j := rfl
      have e4 : (n.note k p).has j = n.has j := rfl
      rw [e1, e2, e3, e4]
      rcases h.each j j1 j2 with ⟨g1, g2, g3⟩ | ⟨g1, g2⟩
      · exact .inl ⟨g1, g2, hsame _ g3⟩
      · exact .inr ⟨g1, fun s => ⟨(g2 s).1, hat _ (g2 s).2.1, hsame _ (g2 s).2.2⟩⟩
  · rw [Int.toNat_natCast] at f
    refine .inr ⟨g.dead, h.lost (n' := n.note k p) g (by rw [l]; exact h.len) rfl rfl rfl (fun j hj => ?_) (fun j hj => f j (by rw [h.len]; omega) (fun t ht => by omega)) (fun j j1 j2 hj i hi => f _ (by rw [h.len]; omega) (fun t ht => ?_)) next⟩
    · by_cases e : j = k
      · simp [NT.note, e] at hj
      · simpa [NT.note, e] using hj
    · by_cases e : j = k
      · simp [NT.note, e] at hj
      · omega
theorem Kept.commit (h : Kept x n) {t : ByteArray} (ht : t.size ≤ 40) (hn : x.num < 1099511627776) :
    ((x.commit t).1 = 0 ∧ Kept (x.commit t).2 (n.cts t 8) ∧ (x.commit t).2.num = x.num + 1) ∨ (((x.commit t).1 = 2) ∧ (x.commit t).2.disk.dead = true ∧ Torn8 (x.commit t).2.disk n t (x.num + 1)) := by
  rcases h.sound.commit ht hn with ⟨e, a, b, c, d, f⟩ | ⟨e, g, l, f⟩
  · refine .inl ⟨e, ⟨a, d.trans h.len, b, fun k k1 k2 => .inr ⟨by simp [NT.cts, k1, k2], fun hs => ?_⟩⟩, c⟩
    rcases h.each k k1 k2 with ⟨g1, g2, g3⟩ | ⟨g1, g2⟩
    · have e1 : (n.cts t 8).has k = n.now k := by simp [NT.cts, k1, k2, g1]
      rw [e1]
      exact ⟨g2, fun i hi => by rw [(f _ (by omega) (by rw [h.len]; omega)).1]; exact g3 i hi, fun i hi => by rw [(f _ (by omega) (by rw [h.len]; omega)).2]; exact g3 i hi⟩
    · have e1 : (n.cts t 8).has k = n.has k := by simp [NT.cts, g1]
      have e2 : (n.cts t 8).sure k = n.sure k := by simp [NT.cts, g1]
      rw [e2] at hs
      obtain ⟨g3, g4, g5⟩ := g2 hs
      rw [e1]
      exact ⟨g3, fun i hi => by rw [(f _ (by omega) (by rw [h.len]; omega)).1]; exact g5 i hi, fun i hi => by rw [(f _ (by omega) (by rw [h.len]; omega)).2]; exact g5 i hi⟩
  · refine .inr ⟨e, g.dead, ?_⟩
    rcases f with ⟨hr, hf⟩ | ⟨hr, hf⟩
    · obtain ⟨r, m, hm, hh⟩ := h.lost g (l.trans h.len) (n' := n) rfl rfl rfl (fun _ h => h) (fun j hj => hf j (by rw [h.len]; omega)) (fun k k1 k2 _ i hi => hf _ (by rw [h.len]; omega)) t
      exact ⟨r, m, by omega, hh⟩
    · refine ⟨t, x.num + 1, Nat.le_refl _, ?_⟩
      by_cases et : t = n.root
      · refine .inl ⟨et, g, l.trans h.len, hr, by omega, by omega, ht, fun k k1 k2 e1 e2 => ?_⟩
        rcases h.each k k1 k2 with ⟨g1, _⟩ | ⟨_, g2⟩
        · rw [e2] at g1; cases g1
        · obtain ⟨g3, _, g5⟩ := g2 e1
          exact ⟨g3, fun i hi => by rw [hf _ (by omega) (by rw [h.len]; omega)]; exact g5 i hi⟩
      · refine .inr ⟨et, rfl, g, l.trans h.len, hr, by omega, by omega, ht, fun k k1 k2 hs _ => ?_⟩
        rcases h.each k k1 k2 with ⟨g1, g2, g3⟩ | ⟨g1, g2⟩
        · have e1 : (n.cts t 8).has k = n.now k := by simp [NT.cts, k1, k2, g1]
          rw [e1]
          exact ⟨g2, fun i hi => by rw [hf _ (by omega) (by rw [h.len]; omega)]; exact g3 i hi⟩
        · have e1 : (n.cts t 8).has k = n.has k := by simp [NT.cts, g1]
          have e2 : (n.cts t 8).sure k = n.sure k := by simp [NT.cts, g1]
          rw [e2] at hs
          obtain ⟨g3, _, g5⟩ := g2 hs
          rw [e1]
          exact ⟨g3, fun i hi => by rw [hf _ (by omega) (by rw [h.len]; omega)]; exact g5 i hi⟩
def VS.armed (x : VS) (k : Int) (keep : ByteArray) : VS := { x with disk := x.disk.setArm k keep }
def VS.crashed (x : VS) (keep : ByteArray) : VS := { x with disk := x.disk.crash keep }
def VS.revived (x : VS) : VS := { x with disk := x.disk.revive }
theorem Kept.arm (h : Kept x n) {k : Int} (hk : k ≤ 9223372036854775807) {keep : ByteArray} (hkp : keep.size ≤ 140737488355328) : Kept (x.armed k keep) n := by
  have ho := h.sound.alive.ok.setArm hk hkp
  obtain ⟨e1, e2, e3, e4⟩ : (x.disk.setArm k keep).stay = x.disk.stay ∧ (x.disk.setArm k keep).dead = x.disk.dead ∧ (x.disk.setArm k keep).bad = x.disk.bad ∧ (x.disk.setArm k keep).loose = x.disk.loose := by
    unfold DS.setArm
    split
    · exact ⟨rfl, rfl, rfl, rfl⟩
    · split <;> exact ⟨rfl, rfl, rfl, rfl⟩
  have ea : ∀ j, (x.disk.setArm k keep).at j = x.disk.at j := fun j => by rw [DS.at, e1]; rfl
  have el : ∀ j, (x.disk.setArm k keep).look j = x.disk.look j := fun j => by unfold DS.look; rw [e1, e4]
  have hs := h.sound
  have hA : Alive (x.disk.setArm k keep) := ⟨ho, e2.trans hs.alive.dead, fun j => by rw [e3]; exact hs.alive.bad j⟩
  refine ⟨?_, by show (x.disk.setArm k keep).stay.length = 32; rw [e1]; exact h.len, h.text, fun j j1 j2 => ?_⟩
  · obtain ⟨s1, s2, s3, s4, s5, s6, s7, s8⟩ := hs
    refine ⟨hA, by show badV (x.disk.setArm k keep) = false; unfold badV blkN; rw [e1]; exact s2, s3, s4, s5, ⟨?_, ?_, ?_, ?_⟩, ?_, ?_⟩
    · rw [show (x.armed k keep).disk = x.disk.setArm k keep from rfl, ea]; exact s6.stay
    · rw [show (x.armed k keep).disk = x.disk.setArm k keep from rfl, el]; exact s6.look
    · rw [show (x.armed k keep).disk = x.disk.setArm k keep from rfl, ea, el]; exact s6.same
    · rw [show (x.armed k keep).disk = x.disk.setArm k keep from rfl, el]; exact s6.less
    · exact s7
    · intro q hq
      obtain ⟨a, b, c⟩ := s8 q hq
      refine ⟨?_, b, fun i hi => (el _).trans (c i hi)⟩
      show 1 ≤ q.1 ∧ q.1 < (blkN (x.disk.setArm k keep) : Int)
      unfold blkN
      rw [e1]
      exact a
  · rcases h.each j j1 j2 with ⟨g1, g2, g3⟩ | ⟨g1, g2⟩
    · exact .inl ⟨g1, g2, fun i hi => (el _).trans (g3 i hi)⟩
    · exact .inr ⟨g1, fun s => ⟨(g2 s).1, fun i hi => (ea _).trans ((g2 s).2.1 i hi), fun i hi => (el _).trans ((g2 s).2.2 i hi)⟩⟩
theorem Kept.crash (h : Kept x n) (keep next : ByteArray) : (x.crashed keep).disk.dead = true ∧ Torn8 (x.crashed keep).disk n next x.num := by
  have e : (x.crashed keep).disk = x.disk.goes keep := by simp [VS.crashed, DS.crash, h.sound.alive.dead]
  rw [e]
  obtain ⟨g, l, f⟩ := h.sound.alive.goes keep
  exact ⟨rfl, h.lost g (l.trans h.len) (n' := n) rfl rfl rfl (fun _ h => h) (fun j hj => f j (by rw [h.len]; omega)) (fun k k1 k2 _ i hi => f _ (by rw [h.len]; omega)) next⟩
end
section
variable {x : VS} {n : NT}
theorem made_arm8 (k : Int) (keep : ByteArray) : (x.armed k keep).disk.made ≤ x.disk.made := by
  show (x.disk.setArm k keep).made ≤ _
  unfold DS.setArm
  split
  · exact Nat.le_refl _
  · split <;> exact Nat.le_refl _
theorem made_crash8 (keep : ByteArray) : (x.crashed keep).disk.made ≤ x.disk.made := by
  show (x.disk.crash keep).made ≤ _
  unfold DS.crash
  split <;> exact Nat.le_refl _
theorem Left.opens {s : DS} {r : ByteArray} {m : Nat} (h : Left s n r m) : vopenE s.revive = 0 ∧ vopenX s.revive = ⟨s.revive, r, m, [], false⟩ ∧ Sound ⟨s.revive, r, m, [], false⟩ :=
  h.gone.opens (by unfold badV blkN; rw [h.len]; rfl) h.root h.one h.le h.tle
theorem Left.look {s : DS} {r : ByteArray} {m : Nat} (h : Left s n r m) (j : Nat) : s.revive.look (j : Int) = s.at j := look_none (s := s.revive) h.gone.none_
/-- what is sure is told -/
theorem Left.sure {s : DS} {r : ByteArray} {m : Nat} (h : Left s n r m) {k : Nat} (h1 : 1 ≤ k) (h2 : k < 8) (a : n.sure k = true) (b : n.loose k = false) : (n.has k).size ≤ 240 ∧ AtL s.revive k (frameL (n.has k).data.toList) ∧ Lies s.revive k (frameL (n.has k).data.toList) := by
  obtain ⟨c, d⟩ := h.each k h1 h2 a b
  exact ⟨c, fun i hi => d i hi, fun i hi => (h.look _).trans (d i hi)⟩
theorem Left.kept {s : DS} {r : ByteArray} {m : Nat} (h : Left s n r m) (hr : r = n.root) {y : VS} (hs : Sound y) (hd : y.disk = s.revive) (ht : y.text = r) : Kept y (n.hld 8) := by
  refine ⟨hs, by rw [hd]; exact h.len, ht.trans hr, fun k k1 k2 => .inr ⟨by simp [NT.hld, k1, k2], fun e => ?_⟩⟩
  have hl : n.loose k = false := by
    cases hl : n.loose k with
    | false => rfl
    | true => simp [NT.hld, k1, k2, hl] at e
  have e2 : n.sure k = true := by simpa [NT.hld, hl] using e
  rw [hd]
  exact h.sure k1 k2 e2 hl
end
theorem len_crash8 (s : DS) (keep : ByteArray) : (s.crash keep).stay.length = s.stay.length := by
  unfold DS.crash
  split
  · rfl
  · exact length_laid _ _ _
theorem len_arm8 (s : DS) (n : Int) (keep : ByteArray) : (s.setArm n keep).stay.length = s.stay.length := by
  unfold DS.setArm
  split
  · rfl
  · split <;> rfl
section
variable {w0 w : World} {l b g m c : Nat} {x : VS}
end
end Go.Proofs.YtmloljjllmmkoaaGreat

