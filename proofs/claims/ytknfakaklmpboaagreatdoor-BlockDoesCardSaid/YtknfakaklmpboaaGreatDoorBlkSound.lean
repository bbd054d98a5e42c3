/-
  A volume on a disk without bad sectors: what is kept is what the disk has; Read, Write, Commit, Open; THE HEART OF P8.6.
-/
import Derived.Test.YtknfakaklmpboaaGreatDoorBlkDisk
namespace Go.Proofs.YtknfakaklmpboaaGreatDoor
open Go

/-- a block's bytes, as its sectors were written last -/
def Lies (s : DS) (v : Nat) (l : List UInt8) : Prop := ∀ i, i < 4 → s.look ((4 * v + i : Nat) : Int) = secB l i
theorem secL_full {l : List UInt8} {i : Nat} (h : 64 * i + 64 ≤ l.length) : secL l i = (l.drop (64 * i)).take 64 := by
  have : ((l.drop (64 * i)).take 64).length = 64 := by rw [List.length_take, List.length_drop]; omega
  rw [secL, this, Nat.sub_self, List.replicate_zero, List.append_nil]
theorem loads_lies {s : DS} (h : Alive s) {v : Nat} {l : List UInt8} (hl : Lies s v l) (hv : 4 * v + 4 ≤ s.stay.length) (h256 : l.length = 256) : ∀ k i, i + k ≤ 4 → loads s (4 * v) k i = (0, (l.drop (64 * i)).take (64 * k))
  | 0, i, _ => by simp [loads]
  | k + 1, i, hi => by
    have he : s.readE ((4 * v + i : Nat) : Int) = 0 := h.readE (by omega)
    rw [loads_go he, loads_lies h hl hv h256 k (i + 1) (by omega), h.readS (by omega), hl i (by omega)]
    have e : (secB l i).data.toList = (l.drop (64 * i)).take 64 := by
      rw [← secL_full (by omega)]
      simp [secB]
    rw [e, show 64 * (k + 1) = 64 + 64 * k by omega, List.take_add, List.drop_drop, show 64 * (i + 1) = 64 * i + 64 by omega]
theorem loadV_lies {s : DS} (h : Alive s) {v : Nat} {l : List UInt8} (hl : Lies s v l) (hv : 4 * v + 4 ≤ s.stay.length) (h256 : l.length = 256) : loadV s v = (0, l) := by
  rw [loadV, loads_lies h hl hv h256 4 0 (by omega)]
  simp [List.take_of_length_le, h256]
theorem lies_one {s : DS} (h : Alive s) {v : Nat} {l l' : List UInt8} (hl : Lies s v l) (hl' : Lies s v l') (hv : 4 * v + 4 ≤ s.stay.length) (h1 : l.length = 256) (h2 : l'.length = 256) : l = l' := by
  have a := loadV_lies h hl hv h1
  rw [loadV_lies h hl' hv h2] at a
  exact (Prod.mk.inj a).2.symm
/-- the root, as it stays, and as it is read; the other sector has none that is newer -/
structure Rooted (s : DS) (t : ByteArray) (n : Nat) : Prop where
  stay : s.at (n % 2) = rootB t n
  look : s.look ((n % 2 : Nat) : Int) = rootB t n
  same : s.at (1 - n % 2) = s.look ((1 - n % 2 : Nat) : Int)
  less : isRoot (s.look ((1 - n % 2 : Nat) : Int)) (1 - n % 2) = true → rNum (s.look ((1 - n % 2 : Nat) : Int)) < n
structure Sound (x : VS) : Prop where
  alive : Alive x.disk
  big : badV x.disk = false
  one : 1 ≤ x.num
  le : x.num ≤ 1099511627776
  tle : x.text.size ≤ 40
  root : Rooted x.disk x.text x.num
  live : x.dead = false
  kept : ∀ q ∈ x.kept, (1 ≤ q.1 ∧ q.1 < (blkN x.disk : Int)) ∧ q.2.size ≤ 240 ∧ Lies x.disk q.1.toNat (frameL q.2.data.toList)
theorem big_is {s : DS} (h : badV s = false) : 8 ≤ blkN s ∧ blkN s ≤ 4096 ∧ 32 ≤ s.stay.length := by
  rw [badV, Bool.or_eq_false_iff, decide_eq_false_iff_not, decide_eq_false_iff_not] at h
  have : blkN s = s.stay.length / 4 := rfl
  omega
theorem has_is {x : VS} {v : Int} : x.has v = true ↔ 1 ≤ v ∧ v < (blkN x.disk : Int) := by simp [VS.has]
theorem has_fit {x : VS} {v : Int} (h : 1 ≤ v ∧ v < (blkN x.disk : Int)) : 4 * v.toNat + 4 ≤ x.disk.stay.length ∧ 1 ≤ v.toNat := by
  have : blkN x.disk = x.disk.stay.length / 4 := rfl
  omega
section
variable {K V : Type} [DecidableEq K]
theorem mem_dropL {L : List (K × V)} {k : K} {q : K × V} (h : q ∈ CI.dropL L k) : q ∈ L ∧ q.1 ≠ k := by
  simpa [CI.dropL] using h
theorem mem_putL8 {L : List (K × V)} {room : Nat} {k : K} {v : V} {q : K × V} (h : q ∈ CI.putL room L k v) : q = (k, v) ∨ (q ∈ L ∧ q.1 ≠ k) := by
  rcases List.mem_cons.1 (List.mem_of_mem_take h) with h | h
  · exact .inl h
  · exact .inr (mem_dropL h)
theorem mem_getL {L : List (K × V)} {k : K} {v : V} (h : CI.getL L k = some v) : (k, v) ∈ L := by
  unfold CI.getL at h
  cases e : L.find? (fun x => x.1 = k) with
  | none => rw [e] at h; cases h
  | some q =>
    rw [e] at h
    have h1 := List.mem_of_find?_eq_some e
    have h2 : q.1 = k := by simpa using List.find?_some e
    have h3 : q.2 = v := by simpa using h
    rw [← h2, ← h3]; exact h1
theorem mem_useL {L : List (K × V)} {k : K} {q : K × V} (h : q ∈ CI.useL L k) : q ∈ L := by
  unfold CI.useL at h
  cases e : CI.getL L k with
  | none => rw [e] at h; exact h
  | some v =>
    rw [e] at h
    rcases List.mem_cons.1 h with h | h
    · rw [h]; exact mem_getL e
    · exact (mem_dropL h).1
end
section
variable {x : VS}
/-- what a Read tells of a block that carries something -/
theorem Sound.read (h : Sound x) {v : Int} (hv : x.has v = true) {p : ByteArray} (hp : p.size ≤ 240) (hc : Lies x.disk v.toNat (frameL p.data.toList)) :
    (x.read v).1 = 0 ∧ (x.read v).2.1 = p ∧ Sound (x.read v).2.2 ∧ (x.read v).2.2.disk = x.disk ∧ (x.read v).2.2.text = x.text ∧ (x.read v).2.2.num = x.num := by
  have hr := has_is.1 hv
  obtain ⟨hf, _⟩ := has_fit hr
  have hpl : p.data.toList.length ≤ 240 := by rw [len_of]; exact hp
  have hl := loadV_lies h.alive hc hf (length_frameL hpl)
  unfold VS.read
  rw [hv, h.live]
  cases hg : CI.getL x.kept v with
  | some p' =>
    obtain ⟨_, h2, h3⟩ := h.kept _ (mem_getL hg)
    have e := lies_one h.alive h3 hc hf (length_frameL (by rw [len_of]; exact h2)) (length_frameL hpl)
    have e2 : p' = p := by
      have a := unframe_frame h2
      rw [show frameB p' = frameB p from congrArg ofB e, unframe_frame hp] at a
      exact (Option.some.inj a).symm
    subst e2
    exact ⟨rfl, rfl, ⟨h.alive, h.big, h.one, h.le, h.tle, h.root, rfl, fun q hq => h.kept q (mem_useL hq)⟩, rfl, rfl, rfl⟩
  | none =>
    simp only [hl, ne_eq, not_true_eq_false, if_false, Bool.true_eq_false, Bool.false_eq_true]
    rw [show bsL (frameL p.data.toList) = frameB p from rfl, unframe_frame hp]
    refine ⟨rfl, rfl, ⟨h.alive, h.big, h.one, h.le, h.tle, h.root, rfl, fun q hq => ?_⟩, rfl, rfl, rfl⟩
    rcases mem_putL8 hq with rfl | hq
    · exact ⟨hr, hp, hc⟩
    · exact h.kept q hq.1
theorem Sound.read_bare (h : Sound x) {v : Int} (hv : x.has v = true) {l : List UInt8} (hl : Lies x.disk v.toNat l) (h256 : l.length = 256) (hn : unframe (bsL l) = none) :
    (x.read v).1 = 82 ∧ (x.read v).2.2 = x := by
  have hr := has_is.1 hv
  obtain ⟨hf, _⟩ := has_fit hr
  have hld := loadV_lies h.alive hl hf h256
  unfold VS.read
  rw [hv, h.live]
  cases hg : CI.getL x.kept v with
  | some p' =>
    obtain ⟨_, h2, h3⟩ := h.kept _ (mem_getL hg)
    have e := lies_one h.alive h3 hl hf (length_frameL (by rw [len_of]; exact h2)) h256
    rw [← e, show bsL (frameL p'.data.toList) = frameB p' from rfl, unframe_frame h2] at hn
    cases hn
  | none =>
    simp only [hld, ne_eq, not_true_eq_false, if_false, Bool.true_eq_false, Bool.false_eq_true]
    rw [hn]
    exact ⟨rfl, rfl⟩
theorem loads_alive {s : DS} (h : Alive s) (f : Nat) : ∀ k i, f + i + k ≤ s.stay.length → (loads s f k i).1 = 0
  | 0, _, _ => rfl
  | k + 1, i, hi => by
    rw [loads_go (h.readE (by omega))]
    exact loads_alive h f k (i + 1) (by omega)
/-- whatever a Read tells, it changes nothing but what is kept -/
theorem Sound.read_any (h : Sound x) (v : Int) : Sound (x.read v).2.2 ∧ (x.read v).2.2.disk = x.disk ∧ (x.read v).2.2.text = x.text ∧ (x.read v).2.2.num = x.num := by
  by_cases hv : x.has v = true
  · have hr := has_is.1 hv
    obtain ⟨hf, _⟩ := has_fit hr
    have h0 : (loadV x.disk v.toNat).1 = 0 := loads_alive h.alive _ 4 0 (by omega)
    by_cases hc : ∃ p, CI.getL x.kept v = some p
    · obtain ⟨p, hg⟩ := hc
      obtain ⟨_, h2, h3⟩ := h.kept _ (mem_getL hg)
      obtain ⟨_, _, a⟩ := h.read hv h2 h3
      exact a
    · have hg : CI.getL x.kept v = none := by
        cases e : CI.getL x.kept v with
        | none => rfl
        | some p => exact absurd ⟨p, e⟩ hc
      have hcs : unframe (bsL (loadV x.disk v.toNat).2) = none ∨ ∃ p, unframe (bsL (loadV x.disk v.toNat).2) = some p := by
        cases unframe (bsL (loadV x.disk v.toNat).2) with
        | none => exact .inl rfl
        | some p => exact .inr ⟨p, rfl⟩
      rcases hcs with hu | ⟨p, hu⟩
      · have e : (x.read v).2.2 = x := by
          unfold VS.read
          rw [hv, h.live, hg]
          simp [h0, hu]
        rw [e]
        exact ⟨h, rfl, rfl, rfl⟩
      · have e : (x.read v).2.2 = { x with kept := CI.putL 32 x.kept v p } := by
          unfold VS.read
          rw [hv, h.live, hg]
          simp [h0, hu]
        rw [e]
        obtain ⟨u1, u2⟩ := unframe_is hu
        refine ⟨⟨h.alive, h.big, h.one, h.le, h.tle, h.root, h.live, fun q hq => ?_⟩, rfl, rfl, rfl⟩
        rcases mem_putL8 hq with rfl | hq
        · refine ⟨hr, u2, ?_⟩
          have e4 : (loadV x.disk v.toNat).2 = frameL p.data.toList := by
            have := congrArg (fun b : ByteArray => b.data.toList) u1
            simpa [bsL, frameB, ofB] using this
          have g : ∀ i, i < 4 → x.disk.readE ((4 * v.toNat + i : Nat) : Int) = 0 := fun i hi => h.alive.readE (by omega)
          have g2 : ∀ i, i < 4 → x.disk.readS ((4 * v.toNat + i : Nat) : Int) = x.disk.look ((4 * v.toNat + i : Nat) : Int) := fun i hi => h.alive.readS (by omega)
          have g3 : ∀ i, i < 4 → (x.disk.look ((4 * v.toNat + i : Nat) : Int)).data.toList.length = 64 := fun i hi => by rw [len_of]; exact h.alive.look_size (by omega)
          rw [loadV, loads_go (g 0 (by omega)), loads_go (g 1 (by omega)), loads_go (g 2 (by omega)), loads_go (g 3 (by omega)), g2 0 (by omega), g2 1 (by omega), g2 2 (by omega), g2 3 (by omega)] at e4
          have a0 := g3 0 (by omega)
          have a1 := g3 1 (by omega)
          have a2 := g3 2 (by omega)
          have a3 := g3 3 (by omega)
          simp only [loads, List.append_nil] at e4
          intro i hi
          apply b_ext
          have hlen : (frameL p.data.toList).length = 256 := length_frameL (by rw [len_of]; exact u2)
          have es : (secB (frameL p.data.toList) i).data.toList = ((frameL p.data.toList).drop (64 * i)).take 64 := by
            rw [← secL_full (by omega)]; simp [secB]
          rw [es, ← e4]
          have h4 : i = 0 ∨ i = 1 ∨ i = 2 ∨ i = 3 := by omega
          rcases h4 with rfl | rfl | rfl | rfl
          · rw [Nat.mul_zero, List.drop_zero, List.take_append_of_le_length (by omega), List.take_of_length_le (by omega)]
          · rw [List.drop_append, List.drop_of_length_le (by omega), List.nil_append, a0, Nat.sub_self, List.drop_zero, List.take_append_of_le_length (by omega), List.take_of_length_le (by omega)]
          · rw [List.drop_append, List.drop_of_length_le (by omega), List.nil_append, a0, show 64 * 2 - 64 = 64 by omega, List.drop_append, List.drop_of_length_le (by omega), List.nil_append, a1, Nat.sub_self, List.drop_zero, List.take_append_of_le_length (by omega), List.take_of_length_le (by omega)]
          · rw [List.drop_append, List.drop_of_length_le (by omega), List.nil_append, a0, show 64 * 3 - 64 = 128 by omega, List.drop_append, List.drop_of_length_le (by omega), List.nil_append, a1, show 128 - 64 = 64 by omega, List.drop_append, List.drop_of_length_le (by omega), List.nil_append, a2, Nat.sub_self, List.drop_zero, List.take_of_length_le (by omega)]
        · exact h.kept q hq.1
  · have e : (x.read v).2.2 = x := by
      unfold VS.read
      rw [Bool.eq_false_iff.2 hv]; rfl
    rw [e]
    exact ⟨h, rfl, rfl, rfl⟩

/-- a block is written -/
theorem Sound.write (h : Sound x) {v : Int} (hv : x.has v = true) {p : ByteArray} (hp : p.size ≤ 240) :
    ((x.write v p).1 = 0 ∧ Sound (x.write v p).2 ∧ (x.write v p).2.text = x.text ∧ (x.write v p).2.num = x.num ∧ (x.write v p).2.disk.stay = x.disk.stay ∧ Lies (x.write v p).2.disk v.toNat (frameL p.data.toList) ∧
      ∀ j : Nat, (∀ t, t < 4 → j ≠ 4 * v.toNat + t) → (x.write v p).2.disk.look (j : Int) = x.disk.look (j : Int)) ∨
    ((x.write v p).1 = 2 ∧ Gone (x.write v p).2.disk ∧ (x.write v p).2.disk.stay.length = x.disk.stay.length ∧
      ∀ j : Nat, j < x.disk.stay.length → (∀ t, t < 4 → j ≠ 4 * v.toNat + t) → (x.write v p).2.disk.at j = x.disk.at j ∨ (x.write v p).2.disk.at j = x.disk.look (j : Int)) := by
  have hr := has_is.1 hv
  obtain ⟨hf, h1⟩ := has_fit hr
  have hb := big_is h.big
  unfold VS.write
  rw [hv, h.live, if_neg (by decide), if_neg (by omega), if_neg (by decide)]
  unfold storeV
  rcases puts_alive (from_ := 4 * v.toNat) (all := frameL p.data.toList) 4 0 h.alive (by omega) with ⟨e, hw⟩ | ⟨e, hk⟩
  · rw [if_neg (by rw [e]; simp)]
    generalize (puts (4 * v.toNat) (frameL p.data.toList) 4 0 x.disk).2 = s1 at hw
    have ho : ∀ j : Nat, (∀ t, t < 4 → j ≠ 4 * v.toNat + t) → s1.look (j : Int) = x.disk.look (j : Int) := fun j hj => hw.out j (fun t _ t2 => hj t (by omega))
    have hN : blkN s1 = blkN x.disk := by unfold blkN; rw [hw.stay]
    have hat : ∀ j, s1.at j = x.disk.at j := fun j => by unfold DS.at; rw [hw.stay]
    have h2 : x.num % 2 < 2 := Nat.mod_lt _ (by decide)
    have hnew : Lies s1 v.toNat (frameL p.data.toList) := fun i hi => hw.new i (by omega) (by omega)
    refine .inl ⟨rfl, ⟨hw.alive, by unfold badV; rw [hN]; exact h.big, h.one, h.le, h.tle, ?_, rfl, fun q hq => ?_⟩, rfl, rfl, hw.stay, hnew, ho⟩
    · have e1 := ho (x.num % 2) (fun t ht => by omega)
      have e2 := ho (1 - x.num % 2) (fun t ht => by omega)
      exact ⟨by rw [hat]; exact h.root.stay, by rw [e1]; exact h.root.look, by rw [hat, e2]; exact h.root.same, by rw [e2]; exact h.root.less⟩
    · show (1 ≤ q.1 ∧ q.1 < (blkN s1 : Int)) ∧ _
      rw [hN]
      rcases mem_putL8 hq with rfl | ⟨hq, hne⟩
      · exact ⟨hr, hp, hnew⟩
      · obtain ⟨a, b, c⟩ := h.kept q hq
        exact ⟨a, b, fun i hi => by rw [← c i hi]; exact ho _ (fun t ht => by omega)⟩
  · rw [if_pos (by rw [e]; decide)]
    exact .inr ⟨e, hk.gone, hk.len, fun j hj hn => hk.out j hj (fun t _ t2 => hn t (by omega))⟩

/-- the root that stays when the power is gone -/
structure RootG (s : DS) (t : ByteArray) (n : Nat) : Prop where
  stay : s.at (n % 2) = rootB t n
  less : isRoot (s.at (1 - n % 2)) (1 - n % 2) = true → rNum (s.at (1 - n % 2)) < n
theorem Rooted.lost {s s' : DS} {t : ByteArray} {n : Nat} (h : Rooted s t n) (hl : ∀ j, j < 2 → s'.at j = s.at j ∨ s'.at j = s.look (j : Int)) : RootG s' t n := by
  have h2 : n % 2 < 2 := Nat.mod_lt _ (by decide)
  refine ⟨?_, ?_⟩
  · rcases hl (n % 2) h2 with e | e
    · rw [e, h.stay]
    · rw [e, h.look]
  · rcases hl (1 - n % 2) (by omega) with e | e
    · rw [e, h.same]; exact h.less
    · rw [e]; exact h.less
theorem turn_mod (n : Nat) : 1 - (n + 1) % 2 = n % 2 ∧ 1 - n % 2 = (n + 1) % 2 := by omega
theorem Sound.next {s' : DS} {n : Nat} {t t' : ByteArray} (ht : t.size ≤ 40) (hn : n ≤ 1099511627776) (hl : s'.look ((n % 2 : Nat) : Int) = rootB t n) (ha : s'.at (n % 2) = rootB t n) (hl2 : s'.look (((n + 1) % 2 : Nat) : Int) = rootB t' (n + 1)) (ha2 : s'.at ((n + 1) % 2) = rootB t' (n + 1)) : Rooted s' t' (n + 1) := by
  refine ⟨ha2, hl2, ?_, ?_⟩
  · rw [(turn_mod n).1, ha, hl]
  · rw [(turn_mod n).1, hl, (root_says ht hn).1]
    intro _; omega
/-- THE HEART OF P8.6: a Commit -/
theorem Sound.commit (h : Sound x) {t : ByteArray} (ht : t.size ≤ 40) (hn : x.num < 1099511627776) :
    ((x.commit t).1 = 0 ∧ Sound (x.commit t).2 ∧ (x.commit t).2.text = t ∧ (x.commit t).2.num = x.num + 1 ∧ (x.commit t).2.disk.stay.length = x.disk.stay.length ∧
      ∀ j : Nat, 2 ≤ j → j < x.disk.stay.length → (x.commit t).2.disk.at j = x.disk.look (j : Int) ∧ (x.commit t).2.disk.look (j : Int) = x.disk.look (j : Int)) ∨
    ((x.commit t).1 = 2 ∧ Gone (x.commit t).2.disk ∧ (x.commit t).2.disk.stay.length = x.disk.stay.length ∧
      ((RootG (x.commit t).2.disk x.text x.num ∧ ∀ j : Nat, j < x.disk.stay.length → (x.commit t).2.disk.at j = x.disk.at j ∨ (x.commit t).2.disk.at j = x.disk.look (j : Int)) ∨
       (RootG (x.commit t).2.disk t (x.num + 1) ∧ ∀ j : Nat, 2 ≤ j → j < x.disk.stay.length → (x.commit t).2.disk.at j = x.disk.look (j : Int)))) := by
  have hb := big_is h.big
  have h2 : x.num % 2 < 2 := Nat.mod_lt _ (by decide)
  obtain ⟨m1, m2⟩ := turn_mod x.num
  unfold VS.commit
  rw [h.live, if_neg (by omega), if_neg (by decide), if_neg (by omega)]
  rcases h.alive.sync with ⟨e, hs⟩ | ⟨e, hs⟩
  · rw [if_neg (by rw [e]; simp)]
    have hq : ∀ j, j < x.disk.sync.stay.length → x.disk.sync.at j = x.disk.sync.look (j : Int) := fun j hj => by
      obtain ⟨a, b⟩ := hs.each j (by have := hs.len; omega)
      rw [a, b]
    have hlk : ∀ j, j < x.disk.stay.length → x.disk.sync.look (j : Int) = x.disk.look (j : Int) := fun j hj => (hs.each j hj).2
    have hlen := hs.len
    rcases rootPut_is hs.alive ht (x.num + 1) (by omega) hq with ⟨e1, ha, hl, he⟩ | ⟨e1, hg, hl, he, hr⟩
    · rw [if_neg (by rw [e1]; simp)]
      generalize (rootPut t (x.num + 1) x.disk.sync).2 = s2 at ha hl he
      have hN : blkN s2 = blkN x.disk := by unfold blkN; rw [hl, hlen]
      have hother : ∀ j : Nat, 2 ≤ j → j < x.disk.stay.length → s2.at j = x.disk.look (j : Int) ∧ s2.look (j : Int) = x.disk.look (j : Int) := fun j h3 hj => by
        obtain ⟨a, b⟩ := he j (by omega)
        rw [if_neg (by omega), hlk j hj] at a b
        exact ⟨a, b⟩
      refine .inl ⟨rfl, ⟨ha, by unfold badV; rw [hN]; exact h.big, by show 1 ≤ x.num + 1; omega, by show x.num + 1 ≤ _; omega, ht, ?_, rfl, fun q hq2 => ?_⟩, rfl, rfl, by rw [hl, hlen], hother⟩
      · obtain ⟨a, b⟩ := he (x.num % 2) (by omega)
        rw [if_neg (by omega), hlk _ (by omega), h.root.look] at a b
        obtain ⟨a', b'⟩ := he ((x.num + 1) % 2) (by omega)
        rw [if_pos rfl] at a' b'
        exact Sound.next h.tle h.le b a b' a'
      · obtain ⟨a, b, c⟩ := h.kept q hq2
        obtain ⟨hf, h1⟩ := has_fit a
        refine ⟨by show 1 ≤ q.1 ∧ q.1 < (blkN s2 : Int); rw [hN]; exact a, b, fun i hi => ?_⟩
        rw [← c i hi]
        exact (hother _ (by omega) (by omega)).2
    · rw [if_pos (by rw [e1]; decide)]
      refine .inr ⟨e1, hg, by rw [← hlen]; exact hl, ?_⟩
      have hold : (rootPut t (x.num + 1) x.disk.sync).2.at (x.num % 2) = rootB x.text x.num := by
        rw [he _ (by omega) (by omega), hlk _ (by omega), h.root.look]
      rcases hr with hr | hr
      · left
        rw [hlk _ (by omega)] at hr
        refine ⟨⟨hold, ?_⟩, fun j hj => ?_⟩
        · show isRoot ((rootPut t (x.num + 1) x.disk.sync).2.at (1 - x.num % 2)) _ = true → rNum ((rootPut t (x.num + 1) x.disk.sync).2.at (1 - x.num % 2)) < _
          rw [m2, hr, ← m2]
          exact h.root.less
        · by_cases e3 : j = (x.num + 1) % 2
          · right
            show (rootPut t (x.num + 1) x.disk.sync).2.at j = _
            rw [e3, hr]
          · right
            show (rootPut t (x.num + 1) x.disk.sync).2.at j = _
            rw [he j (by omega) e3, hlk j hj]
      · right
        refine ⟨⟨hr, ?_⟩, fun j h3 hj => ?_⟩
        · show isRoot ((rootPut t (x.num + 1) x.disk.sync).2.at (1 - (x.num + 1) % 2)) _ = true → rNum ((rootPut t (x.num + 1) x.disk.sync).2.at (1 - (x.num + 1) % 2)) < _
          rw [m1, hold, (root_says h.tle h.le).1]
          intro _; omega
        · show (rootPut t (x.num + 1) x.disk.sync).2.at j = _
          rw [he j (by omega) (by omega), hlk j hj]
  · rw [if_pos (by rw [e]; decide)]
    refine .inr ⟨e, hs.gone, hs.len, .inl ⟨h.root.lost (fun j hj => hs.each j (by omega)), hs.each⟩⟩

/-- what is opened -/
theorem opens {s : DS} {t : ByteArray} {n : Nat} (h : Alive s) (hb : badV s = false) (hr : Rooted s t n) (h1 : 1 ≤ n) (hn : n ≤ 1099511627776) (ht : t.size ≤ 40) : vopenE s = 0 ∧ vopenX s = ⟨s, t, n, [], false⟩ ∧ Sound ⟨s, t, n, [], false⟩ := by
  have hb3 := big_is hb
  have hroots : roots s = (80, n, t) := by
    have hroot := root_is ht h1 hn
    obtain ⟨a, _, c⟩ := root_says ht hn
    have hl := hr.look
    have hls := hr.less
    have e0 : s.readE ((0 : Nat) : Int) = 0 := h.readE (by omega)
    have e1 : s.readE ((1 : Nat) : Int) = 0 := h.readE (by omega)
    have s0 : s.readS ((0 : Nat) : Int) = s.look ((0 : Nat) : Int) := h.readS (by omega)
    have s1 : s.readS ((1 : Nat) : Int) = s.look ((1 : Nat) : Int) := h.readS (by omega)
    unfold roots stepRoot
    rw [e0, e1, s0, s1]
    rcases Nat.mod_two_eq_zero_or_one n with e | e
    · rw [e] at hl hroot hls
      rw [← hl] at hroot a c
      simp only [ne_eq, not_true_eq_false, if_false]
      rw [if_pos (show (isRoot (s.look ((0 : Nat) : Int)) 0 && decide (0 < rNum (s.look ((0 : Nat) : Int)))) = true by rw [hroot, a]; simp; omega), a, c]
      rw [if_neg]
      intro hx
      rw [Bool.and_eq_true, decide_eq_true_eq] at hx
      have := hls hx.1
      simp at this hx
      omega
    · rw [e] at hl hroot hls
      rw [← hl] at hroot a c
      simp only [ne_eq, not_true_eq_false, if_false]
      have hlt : ∀ z : Int × Nat × ByteArray, z.1 = 80 → z.2.1 < n → (if (isRoot (s.look ((1 : Nat) : Int)) 1 && decide (z.2.1 < rNum (s.look ((1 : Nat) : Int)))) = true then (z.1, rNum (s.look ((1 : Nat) : Int)), rText (s.look ((1 : Nat) : Int))) else z) = (80, n, t) := fun z z1 z2 => by
        rw [if_pos (by rw [hroot, a]; simp; omega), a, c, z1]
      apply hlt
      · split <;> rfl
      · split
        · rename_i hx
          rw [Bool.and_eq_true, decide_eq_true_eq] at hx
          exact hls hx.1
        · show 0 < n; omega
  refine ⟨?_, ?_, ⟨h, hb, h1, hn, ht, hr, rfl, fun q hq => by cases hq⟩⟩
  · unfold vopenE
    rw [hb, h.dead, hroots, if_neg (by decide), if_neg (by decide), if_neg (by show ¬ n = 0; omega)]
  · unfold vopenX
    rw [hroots]
theorem Sound.opens (h : Sound x) : vopenE x.disk = 0 ∧ vopenX x.disk = ⟨x.disk, x.text, x.num, [], false⟩ ∧ Sound ⟨x.disk, x.text, x.num, [], false⟩ := Go.Proofs.YtknfakaklmpboaaGreatDoor.opens h.alive h.big h.root h.one h.le h.tle
/-- what is opened behind a crash -/
theorem Gone.opens {s : DS} {t : ByteArray} {n : Nat} (h : Gone s) (hb : badV s = false) (hr : RootG s t n) (h1 : 1 ≤ n) (hn : n ≤ 1099511627776) (ht : t.size ≤ 40) : vopenE s.revive = 0 ∧ vopenX s.revive = ⟨s.revive, t, n, [], false⟩ ∧ Sound ⟨s.revive, t, n, [], false⟩ := by
  have hl : ∀ j : Nat, s.revive.look (j : Int) = s.at j := fun j => look_none (s := s.revive) h.none_
  refine Go.Proofs.YtknfakaklmpboaaGreatDoor.opens ⟨h.ok.revive, rfl, h.bad⟩ hb ⟨hr.stay, by rw [hl]; exact hr.stay, (hl _).symm, by rw [hl]; exact hr.less⟩ h1 hn ht
end
end Go.Proofs.YtknfakaklmpboaaGreatDoor

