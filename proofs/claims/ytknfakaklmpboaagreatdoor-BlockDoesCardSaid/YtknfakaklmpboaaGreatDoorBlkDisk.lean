/-
  Sectors are written, synced, lost, on a disk of which some may be loose: what each sector is behind that.
-/
import Derived.Test.YtknfakaklmpboaaGreatDoorBlkState
import Derived.Test.YtknfakaklmpboaaGreatDoorNA
namespace Go.Proofs.YtknfakaklmpboaaGreatDoor
open Go

/-- power is there, nothing is bad -/
structure Alive (s : DS) : Prop where
  ok : s.Ok
  dead : s.dead = false
  bad : ∀ j, s.bad j = false
def DS.at (s : DS) (j : Nat) : ByteArray := s.stay.getD j none0
section
variable {s : DS}
theorem at_get {j : Nat} (h : j < s.stay.length) : s.at j = s.stay[j] := by
  rw [DS.at, List.getD_eq_getElem?_getD, List.getElem?_eq_getElem h]; rfl
theorem look_seek (j : Nat) : s.look (j : Int) = match seek (j : Int) s.loose 0 with | some z => z.2 | none => s.at j := by
  unfold DS.look DS.at
  rw [Int.toNat_natCast]
  rfl
theorem look_none {j : Nat} (h : s.loose = []) : s.look (j : Int) = s.at j := by
  rw [look_seek, h]; rfl
theorem Alive.may (h : Alive s) {n : Nat} (hn : n < s.stay.length) : s.may (n : Int) = 0 := by
  have h1 : (n : Int) < (s.stay.length : Int) := by omega
  have h2 : ¬ (s.stay.length : Int) ≤ (n : Int) := by omega
  have h3 : ¬ (n : Int) < 0 := by omega
  simp [DS.may, h.dead, h2, h3]
theorem Alive.readE (h : Alive s) {n : Nat} (hn : n < s.stay.length) : s.readE (n : Int) = 0 := by
  unfold DS.readE
  rw [h.may hn, h.bad]; rfl
theorem Alive.readS (h : Alive s) {n : Nat} (hn : n < s.stay.length) : s.readS (n : Int) = s.look (n : Int) := by
  unfold DS.readS
  rw [if_pos (h.readE hn)]
theorem Alive.look_size (h : Alive s) {n : Nat} (hn : n < s.stay.length) : (s.look (n : Int)).size = 64 := h.ok.look_size (by omega) (by omega)
theorem look_lays8 (n : Nat) (x : ByteArray) (j : Nat) : (s.lays (n : Int) x).look (j : Int) = if j = n then x else s.look (j : Int) := by
  rw [look_seek, look_seek]
  show (match seek (j : Int) (putL (n : Int) x s.loose) 0 with | some z => z.2 | none => s.at j) = _
  rw [seek_putL]
  by_cases e : j = n
  · subst e; simp
  · rw [if_neg (by omega), if_neg e]
theorem at_laid (f : Nat → Bool) (j : Nat) (hj : j < s.stay.length) : (laid f s.loose s.stay).getD j none0 = s.at j ∨ (laid f s.loose s.stay).getD j none0 = s.look (j : Int) := by
  rw [look_seek, List.getD_eq_getElem?_getD, List.getElem?_eq_getElem (by rw [length_laid]; exact hj), Option.getD_some, get_laid _ _ _ _ hj, at_get hj]
  cases seek (j : Int) s.loose 0 with
  | none => exact .inl rfl
  | some z =>
    cases hf : f z.1 with
    | true => exact .inr (by simp [hf])
    | false => exact .inl (by simp [hf])
theorem at_all (j : Nat) (hj : j < s.stay.length) : (laid (fun _ => true) s.loose s.stay).getD j none0 = s.look (j : Int) := by
  rw [look_seek, List.getD_eq_getElem?_getD, List.getElem?_eq_getElem (by rw [length_laid]; exact hj), Option.getD_some, get_laid _ _ _ _ hj, at_get hj]
  cases seek (j : Int) s.loose 0 with
  | none => rfl
  | some z => simp
/-- the power is gone; each sector is what stayed, or what was written last -/
structure Lost (s s' : DS) : Prop where
  gone : Gone s'
  len : s'.stay.length = s.stay.length
  each : ∀ j, j < s.stay.length → s'.at j = s.at j ∨ s'.at j = s.look (j : Int)
theorem Alive.goes (h : Alive s) (keep : ByteArray) : Lost s (s.goes keep) :=
  ⟨⟨h.ok.goes keep, rfl, h.bad, rfl⟩, length_laid _ _ _, fun j hj => at_laid _ j hj⟩
theorem Alive.tick (h : Alive s) : Alive s.tick := ⟨h.ok.tick, h.dead, h.bad⟩
/-- all stays -/
structure Synced (s s' : DS) : Prop where
  alive : Alive s'
  len : s'.stay.length = s.stay.length
  each : ∀ j, j < s.stay.length → s'.at j = s.look (j : Int) ∧ s'.look (j : Int) = s.look (j : Int)
theorem Alive.sync (h : Alive s) : (s.syncE = 0 ∧ Synced s s.sync) ∨ (s.syncE = 2 ∧ Lost s s.sync) := by
  by_cases ha : s.armed = 1
  · right
    have e : s.sync = s.tick.goes s.keep := by simp [DS.sync, h.dead, ha]
    refine ⟨by simp [DS.syncE, h.dead, ha], ?_⟩
    rw [e]
    have a := h.tick.goes s.keep
    exact ⟨a.gone, a.len, a.each⟩
  · left
    have e : s.sync = s.tick.settled := by simp [DS.sync, h.dead, ha]
    refine ⟨by simp [DS.syncE, h.dead, ha], ?_⟩
    rw [e]
    refine ⟨⟨h.ok.tick.settled, h.dead, h.bad⟩, by simp [DS.settled, DS.tick, length_laid], fun j hj => ?_⟩
    have h1 : s.tick.settled.at j = s.look (j : Int) := at_all (s := s) j hj
    exact ⟨h1, by rw [look_none (s := s.tick.settled) rfl, h1]⟩
theorem Alive.calm_sync (h : Alive s) (ha : s.armed = 0) : s.syncE = 0 ∧ s.sync.armed = 0 := by
  have e : s.sync = s.tick.settled := by simp [DS.sync, h.dead, ha]
  exact ⟨by simp [DS.syncE, h.dead, ha], by rw [e]; simp [DS.settled, DS.tick, ha]⟩
end

/-- sectors from_ + i on, k of them, have been written -/
structure Wrote (from_ : Nat) (all : List UInt8) (i k : Nat) (s s' : DS) : Prop where
  alive : Alive s'
  stay : s'.stay = s.stay
  out : ∀ j : Nat, (∀ t, i ≤ t → t < i + k → j ≠ from_ + t) → s'.look (j : Int) = s.look (j : Int)
  new : ∀ t, i ≤ t → t < i + k → s'.look ((from_ + t : Nat) : Int) = secB all t
/-- the power went meanwhile -/
structure Broke (from_ : Nat) (all : List UInt8) (i k : Nat) (s s' : DS) : Prop where
  gone : Gone s'
  len : s'.stay.length = s.stay.length
  out : ∀ j : Nat, j < s.stay.length → (∀ t, i ≤ t → t < i + k → j ≠ from_ + t) → s'.at j = s.at j ∨ s'.at j = s.look (j : Int)
  in_ : ∀ t, i ≤ t → t < i + k → from_ + t < s.stay.length → s'.at (from_ + t) = s.at (from_ + t) ∨ s'.at (from_ + t) = s.look ((from_ + t : Nat) : Int) ∨ s'.at (from_ + t) = secB all t
section
variable {from_ : Nat} {all : List UInt8}
theorem puts_alive : ∀ (k i : Nat) {s : DS}, Alive s → from_ + i + k ≤ s.stay.length →
    ((puts from_ all k i s).1 = 0 ∧ Wrote from_ all i k s (puts from_ all k i s).2) ∨ ((puts from_ all k i s).1 = 2 ∧ Broke from_ all i k s (puts from_ all k i s).2)
  | 0, i, s, h, _ => .inl ⟨rfl, h, rfl, fun _ _ => rfl, fun t h1 h2 => by omega⟩
  | k + 1, i, s, h, hf => by
    have hn : from_ + i < s.stay.length := by omega
    have hfit : s.fits ((from_ + i : Nat) : Int) (secB all i) = true := by
      unfold DS.fits
      rw [h.may hn, size_secB, h.bad]; rfl
    have hwE : s.writeE ((from_ + i : Nat) : Int) (secB all i) = if s.armed = 1 then 2 else 0 := by
      unfold DS.writeE
      rw [h.may hn, size_secB, h.bad, if_neg (by decide), if_neg (by decide), if_neg (by decide)]
    have h1 : Alive (s.lays ((from_ + i : Nat) : Int) (secB all i)) := ⟨h.ok.lays (by omega) (by omega) (size_secB _ _), h.dead, h.bad⟩
    have hlk := fun j => look_lays8 (s := s) (from_ + i) (secB all i) j
    rw [puts, hwE]
    by_cases ha : s.armed = 1
    · have hw : s.write ((from_ + i : Nat) : Int) (secB all i) = (s.lays ((from_ + i : Nat) : Int) (secB all i)).goes s.keep := by
        unfold DS.write
        rw [hfit, if_pos rfl, if_pos ha]
      rw [hw, if_pos ha, if_neg (by decide)]
      have hl := h1.goes s.keep
      refine .inr ⟨rfl, hl.gone, hl.len, fun j hj ho => ?_, fun t t1 t2 ht => ?_⟩
      · rcases hl.each j hj with e | e
        · exact .inl e
        · rw [hlk, if_neg (ho i (Nat.le_refl _) (by omega))] at e
          exact .inr e
      · rcases hl.each (from_ + t) ht with e | e
        · exact .inl e
        · rw [hlk] at e
          by_cases e2 : from_ + t = from_ + i
          · obtain rfl : t = i := by omega
            rw [if_pos rfl] at e
            exact .inr (.inr e)
          · rw [if_neg e2] at e
            exact .inr (.inl e)
    · have hw : s.write ((from_ + i : Nat) : Int) (secB all i) = s.lays ((from_ + i : Nat) : Int) (secB all i) := by
        unfold DS.write
        rw [hfit, if_pos rfl, if_neg ha]
      rw [hw, if_neg ha, if_pos rfl]
      rcases puts_alive k (i + 1) h1 (by show from_ + (i + 1) + k ≤ s.stay.length; omega) with ⟨e, hw⟩ | ⟨e, hb⟩
      · refine .inl ⟨e, hw.alive, hw.stay, fun j ho => ?_, fun t t1 t2 => ?_⟩
        · rw [hw.out j (fun t t1 t2 => ho t (by omega) (by omega)), hlk, if_neg (ho i (Nat.le_refl _) (by omega))]
        · by_cases e2 : t = i
          · subst e2
            rw [hw.out (from_ + t) (fun t' t1 t2 => by omega), hlk, if_pos rfl]
          · exact hw.new t (by omega) (by omega)
      · refine .inr ⟨e, hb.gone, hb.len, fun j hj ho => ?_, fun t t1 t2 ht => ?_⟩
        · have := hb.out j hj (fun t t1 t2 => ho t (by omega) (by omega))
          rw [hlk, if_neg (ho i (Nat.le_refl _) (by omega))] at this
          exact this
        · by_cases e2 : t = i
          · subst e2
            rcases hb.out (from_ + t) ht (fun t' t1 t2 => by omega) with e3 | e3
            · exact .inl e3
            · rw [hlk, if_pos rfl] at e3
              exact .inr (.inr e3)
          · have := hb.in_ t (by omega) (by omega) ht
            rw [hlk, if_neg (by omega)] at this
            exact this
theorem puts_calm8 : ∀ (k i : Nat) {s : DS}, Alive s → s.armed = 0 → from_ + i + k ≤ s.stay.length → (puts from_ all k i s).1 = 0 ∧ (puts from_ all k i s).2.armed = 0
  | 0, _, _, _, ha, _ => ⟨rfl, ha⟩
  | k + 1, i, s, h, ha, hf => by
    have hn : from_ + i < s.stay.length := by omega
    have hfit : s.fits ((from_ + i : Nat) : Int) (secB all i) = true := by
      unfold DS.fits
      rw [h.may hn, size_secB, h.bad]; rfl
    have hwE : s.writeE ((from_ + i : Nat) : Int) (secB all i) = 0 := by
      unfold DS.writeE
      rw [h.may hn, size_secB, h.bad, if_neg (by decide), if_neg (by decide), if_neg (by decide), ha, if_neg (by decide)]
    have hw : s.write ((from_ + i : Nat) : Int) (secB all i) = s.lays ((from_ + i : Nat) : Int) (secB all i) := by
      unfold DS.write
      rw [hfit, if_pos rfl, ha, if_neg (by decide)]
    rw [puts, hwE, if_pos rfl, hw]
    exact puts_calm8 k (i + 1) ⟨h.ok.lays (by omega) (by omega) (size_secB _ _), h.dead, h.bad⟩ (by simp [DS.lays, DS.tick, ha]) (by show from_ + (i + 1) + k ≤ s.stay.length; omega)
end

/-! ### a root -/
theorem secB_root {t : ByteArray} (h : t.size ≤ 40) (n : Nat) : secB (rootL t.data.toList n) 0 = rootB t n := by
  have hl := length_rootL (t := t.data.toList) (by rw [len_of]; exact h) n
  apply b_ext
  simp only [secB, secL, rootB, ofB_list, Nat.mul_zero, List.drop_zero]
  rw [List.take_of_length_le (by omega), hl, Nat.sub_self, List.replicate_zero, List.append_nil]
/-- what a root's writing comes to -/
theorem rootPut_is {s : DS} (h : Alive s) {t : ByteArray} (ht : t.size ≤ 40) (n : Nat) (hs : 2 ≤ s.stay.length) (hq : ∀ j, j < s.stay.length → s.at j = s.look (j : Int)) :
    ((rootPut t n s).1 = 0 ∧ Alive (rootPut t n s).2 ∧ (rootPut t n s).2.stay.length = s.stay.length ∧ ∀ j, j < s.stay.length → (rootPut t n s).2.at j = (if j = n % 2 then rootB t n else s.look (j : Int)) ∧ (rootPut t n s).2.look (j : Int) = (if j = n % 2 then rootB t n else s.look (j : Int))) ∨
    ((rootPut t n s).1 = 2 ∧ Gone (rootPut t n s).2 ∧ (rootPut t n s).2.stay.length = s.stay.length ∧ (∀ j, j < s.stay.length → j ≠ n % 2 → (rootPut t n s).2.at j = s.look (j : Int)) ∧ ((rootPut t n s).2.at (n % 2) = s.look ((n % 2 : Nat) : Int) ∨ (rootPut t n s).2.at (n % 2) = rootB t n)) := by
  have h2 : n % 2 < 2 := Nat.mod_lt _ (by decide)
  have hz : ∀ j, (∀ t', 0 ≤ t' → t' < 0 + 1 → j ≠ n % 2 + t') ↔ j ≠ n % 2 := fun j => ⟨fun h => h 0 (by omega) (by omega), fun h t' _ _ => by
    obtain rfl : t' = 0 := by omega
    exact h⟩
  unfold rootPut put
  rcases puts_alive (from_ := n % 2) (all := rootL t.data.toList n) 1 0 h (by omega) with ⟨e, hw⟩ | ⟨e, hb⟩
  · rw [if_pos e]
    generalize (puts (n % 2) (rootL t.data.toList n) 1 0 s).2 = s1 at hw
    have hl1 : ∀ j, j < s.stay.length → s1.look (j : Int) = if j = n % 2 then rootB t n else s.look (j : Int) := fun j hj => by
      by_cases e : j = n % 2
      · rw [if_pos e, e, ← secB_root ht]
        exact hw.new 0 (by omega) (by omega)
      · rw [if_neg e]
        exact hw.out j ((hz j).2 e)
    have ha1 : ∀ j, s1.at j = s.at j := fun j => by unfold DS.at; rw [hw.stay]
    have hlen : s1.stay.length = s.stay.length := by rw [hw.stay]
    rcases hw.alive.sync with ⟨e1, hs1⟩ | ⟨e1, hs1⟩
    · left
      refine ⟨e1, hs1.alive, by rw [hs1.len, hlen], fun j hj => ?_⟩
      obtain ⟨a, b⟩ := hs1.each j (by omega)
      rw [hl1 j hj] at a b
      exact ⟨a, b⟩
    · right
      refine ⟨e1, hs1.gone, by rw [hs1.len, hlen], fun j hj hne => ?_, ?_⟩
      · rcases hs1.each j (by omega) with a | a
        · rw [a, ha1, hq j hj]
        · rw [a, hl1 j hj, if_neg hne]
      · rcases hs1.each (n % 2) (by omega) with a | a
        · left; rw [a, ha1, hq _ (by omega)]
        · right; rw [a, hl1 _ (by omega), if_pos rfl]
  · rw [if_neg (by rw [e]; decide)]
    right
    refine ⟨e, hb.gone, hb.len, fun j hj hne => ?_, ?_⟩
    · rcases hb.out j hj ((hz j).2 hne) with a | a
      · rw [a, hq j hj]
      · exact a
    · rcases hb.in_ 0 (by omega) (by omega) (by omega) with a | a | a
      · left; rw [Nat.add_zero] at a; rw [a, hq _ (by omega)]
      · left; exact a
      · right; rw [secB_root ht] at a; exact a
theorem rootPut_calm {s : DS} (h : Alive s) (ha : s.armed = 0) (t : ByteArray) (n : Nat) (hs : 2 ≤ s.stay.length) : (rootPut t n s).1 = 0 ∧ (rootPut t n s).2.armed = 0 := by
  have h2 : n % 2 < 2 := Nat.mod_lt _ (by decide)
  obtain ⟨e1, e2⟩ := puts_calm8 (from_ := n % 2) (all := rootL t.data.toList n) 1 0 h ha (by omega)
  unfold rootPut put
  rw [if_pos e1]
  rcases puts_alive (from_ := n % 2) (all := rootL t.data.toList n) 1 0 h (by omega) with ⟨_, hw⟩ | ⟨e, _⟩
  · exact hw.alive.calm_sync e2
  · rw [e1] at e; cases e
end Go.Proofs.YtknfakaklmpboaaGreatDoor

