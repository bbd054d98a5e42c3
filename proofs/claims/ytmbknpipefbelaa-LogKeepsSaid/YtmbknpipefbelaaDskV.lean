/-
  What each law on disks leans on: bounds; a disk to which nothing but writes and syncs was done.
-/
import Derived.Test.YtmbknpipefbelaaDskF
import Derived.Test.YtmbknpipefbelaaDskQ
import Derived.OwnWalk
namespace Go.Proofs.Ytmbknpipefbelaa
open Go.RowKit Go Go.Maps SM

theorem clamp (z a c : Int) (h : a ≤ c) : ∃ P Q : Int, (min z c = P ∧ (if c < z then c else z) = P ∧ (if z < c then z else c) = P) ∧ (max a P = Q ∧ (if a < P then P else a) = Q ∧ (if P < a then a else P) = Q) ∧ a ≤ Q ∧ Q ≤ c :=
  ⟨min z c, max a (min z c), ⟨rfl, by omega, by omega⟩, ⟨rfl, by omega, by omega⟩, by omega, by omega⟩
/-- how many sectors a law's disk has -/
theorem clampN (z : Int) : ∃ (P : Int) (n : Nat), (min z 40 = P ∧ (if (40 : Int) < z then 40 else z) = P ∧ (if z < 40 then z else 40) = P) ∧ (max 1 P = (n : Int) ∧ (if (1 : Int) < P then P else 1) = (n : Int) ∧ (if P < 1 then 1 else P) = (n : Int)) ∧ 1 ≤ n ∧ n ≤ 40 := by
  obtain ⟨P, Q, h1, ⟨h2, h3, h4⟩, h5, h6⟩ := clamp z 1 40 (by omega)
  exact ⟨P, Q.toNat, h1, ⟨by omega, by omega, by omega⟩, by omega, by omega⟩

/-- two texts that are not one, as the walk asks it -/
theorem texts_ne {a b : ByteArray} (h : a ≠ b) : (a.toList == b.toList) = false ∧ (a.toList != b.toList) = true := by
  have : (a.toList == b.toList) = false := by
    rw [ByteArray.toList_eq, ByteArray.toList_eq]
    exact beq_eq_false_iff_ne.2 (fun e => h (ByteArray.ext (Array.toList_inj.1 e)))
  exact ⟨this, by rw [bne, this]; rfl⟩
/-- a byte -/
def byteOf (n : Int) : UInt8 := UInt8.ofNat n.toNat
theorem byteOf_is {n : Int} (h : ByteOk n) : ((byteOf n).toNat : Int) = n := by
  obtain ⟨h1, h2⟩ := h
  simp [byteOf]; omega
/-- the power is there, nothing is armed, nothing is bad -/
structure Calm (n k : Nat) (s : DS) : Prop where
  ok : s.Ok
  dead : s.dead = false
  armed : s.armed = 0
  bad : ∀ j, s.bad j = false
  len : s.stay.length = n
  made : s.made ≤ k
section
variable {n k : Nat} {s : DS}
theorem calm_fresh {n : Nat} (h1 : 1 ≤ n) (h2 : n ≤ 16384) : Calm n 0 (fresh (blank n)) := ⟨blank_ok h1 h2, rfl, rfl, fun _ => rfl, by simp [fresh, blank], Nat.le_refl _⟩
theorem Calm.may (h : Calm n k s) (j : Int) : s.may j = if j < 0 ∨ (n : Int) ≤ j then 61 else 0 := by
  unfold DS.may
  rw [h.dead, h.len]
  rfl
theorem Calm.mono (h : Calm n k s) {k' : Nat} (hk : k ≤ k') : Calm n k' s := ⟨h.ok, h.dead, h.armed, h.bad, h.len, Nat.le_trans h.made hk⟩
theorem Calm.write_is (h : Calm n k s) (j : Int) (x : ByteArray) : s.write j x = if (0 ≤ j ∧ j < n) ∧ x.size = 64 then s.lays j x else s := by
  unfold DS.write DS.fits
  rw [h.may, h.bad, h.armed]
  by_cases h1 : j < 0 ∨ (n : Int) ≤ j
  · have : ¬ ((0 ≤ j ∧ j < n) ∧ x.size = 64) := by omega
    simp [h1, this]
  · have h2 : 0 ≤ j ∧ j < n := by omega
    by_cases h3 : x.size = 64
    · simp [h1, h2, h3]
    · simp [h1, h3]
theorem Calm.writeE_is (h : Calm n k s) (j : Int) {x : ByteArray} (hx : x.size = 64) : s.writeE j x = if j < 0 ∨ (n : Int) ≤ j then 61 else 0 := by
  unfold DS.writeE
  rw [h.may, h.bad, h.armed]
  by_cases h1 : j < 0 ∨ (n : Int) ≤ j <;> simp [h1, hx]
theorem Calm.write (h : Calm n k s) (j : Int) (x : ByteArray) : Calm n (k + 1) (s.write j x) := by
  rw [h.write_is]
  split
  · rename_i hc
    exact ⟨h.ok.lays hc.1.1 (by rw [h.len]; exact hc.1.2) hc.2, h.dead, by simp [DS.lays, DS.tick, h.armed], h.bad, h.len, by have := h.made; simp [DS.lays, DS.tick]; omega⟩
  · exact h.mono (by omega)
theorem Calm.sync_is (h : Calm n k s) : s.sync = s.tick.settled := by
  unfold DS.sync
  rw [h.dead, h.armed]
  rfl
theorem Calm.syncE_is (h : Calm n k s) : s.syncE = 0 := by
  unfold DS.syncE
  rw [h.dead, h.armed]
  rfl
theorem Calm.sync (h : Calm n k s) : Calm n (k + 1) s.sync := by
  rw [h.sync_is]
  exact ⟨h.ok.tick.settled, h.dead, by simp [DS.tick, DS.settled, h.armed], h.bad, by simp [DS.settled, DS.tick, length_laid, h.len], by have := h.made; simp [DS.settled, DS.tick]; omega⟩
theorem Calm.sync_loose (h : Calm n k s) : s.sync.loose = [] := by rw [h.sync_is]; rfl
theorem Calm.crashE_is (h : Calm n k s) : s.crashE = 0 := by simp [DS.crashE, h.dead]
theorem Calm.crash_is (h : Calm n k s) (keep : ByteArray) : s.crash keep = s.goes keep := by simp [DS.crash, h.dead]
theorem Calm.readE_is (h : Calm n k s) {j : Int} (h0 : 0 ≤ j) (h1 : j < n) : s.readE j = 0 := by
  unfold DS.readE
  rw [h.may, h.bad]
  simp; omega
theorem Calm.readS_is (h : Calm n k s) {j : Int} (h0 : 0 ≤ j) (h1 : j < n) : s.readS j = s.look j := by
  unfold DS.readS
  rw [h.readE_is h0 h1]
  rfl
/-- with no sector loose a crash changes nothing that stays -/
theorem Calm.crash_stay (h : Calm n k s) (hl : s.loose = []) (keep : ByteArray) : (s.crash keep).stay = s.stay := by
  rw [h.crash_is]
  show laid _ s.loose s.stay = s.stay
  rw [hl, laid_nil]
theorem Calm.back (h : Calm n k s) (hl : s.loose = []) (keep : ByteArray) : Calm n k (s.crash keep).revive := by
  refine ⟨(h.ok.crash keep).revive, rfl, rfl, ?_, ?_, ?_⟩
  · rw [h.crash_is]; exact h.bad
  · show (s.crash keep).stay.length = n
    rw [h.crash_stay hl, h.len]
  · rw [h.crash_is]; exact h.made
theorem Calm.back_look (h : Calm n k s) (hl : s.loose = []) (keep : ByteArray) {j : Nat} (hj : j < s.stay.length) : (s.crash keep).revive.look j = s.stay[j] := by
  have h1 : (s.crash keep).revive.loose = [] := by rw [h.crash_is]; rfl
  have h2 : (s.crash keep).revive.stay = s.stay := h.crash_stay hl keep
  unfold DS.look
  rw [h1, h2]
  simp [seek, hj]
end
/-- a part of what stays -/
theorem img_part {st : List ByteArray} (h : ∀ b ∈ st, b.size = 64) {j : Nat} (hj : j < st.length) : (img st).extract (64 * j) (64 * j + 64) = st[j] := by
  apply ByteArray.ext
  apply Array.toList_inj.1
  rw [← flat_at h j hj]
  simp [ByteArray.data_extract, List.extract_eq_take_drop, img]
theorem part_run (W : World) (I : ByteArray) (j : Nat) (h : 64 * (j : Int) + 64 ≤ I.size) :
    (Instr.slice 9 (.string I) (some (.int .i64 (64 * (j : Int)))) (some (.int .i64 (64 * (j : Int) + 64))) none).run Try.prog W = .ok (.string (I.extract (64 * j) (64 * j + 64))) W := by
  have := run_slice_string W 9 I .i64 .i64 (64 * (j : Int)) (64 * (j : Int) + 64) Try.underlying9 (by omega) (by omega) h
  rw [show (64 * (j : Int)).toNat = 64 * j by omega, show (64 * (j : Int) + 64).toNat = 64 * j + 64 by omega] at this
  exact this
end Go.Proofs.Ytmbknpipefbelaa
