/-
  Sectors of a half are written, one behind the other, on a disk of which nothing is loose or bad: what is there in between, behind a crash, behind a Sync.
-/
import Derived.Test.YtmbknpipefbelaaNvDisk
namespace Go.Proofs.Ytmbknpipefbelaa
open Go

/-- sectors lo to hi of these bytes are loose, and nothing else -/
structure Mid (st : List ByteArray) (from_ : Nat) (all : List UInt8) (lo hi : Nat) (s : DS) : Prop where
  ok : s.Ok
  stay : s.stay = st
  dead : s.dead = false
  bad : ∀ j, s.bad j = false
  loose : ∀ q ∈ s.loose, ∃ j, lo ≤ j ∧ j < hi ∧ q = (((from_ + j : Nat) : Int), secB all j)
  each : ∀ j, lo ≤ j → j < hi → seek ((from_ + j : Nat) : Int) s.loose 0 ≠ none
/-- some of them may stay -/
def Mixed (st : List ByteArray) (from_ : Nat) (all : List UInt8) (lo hi : Nat) (st' : List ByteArray) : Prop :=
  st'.length = st.length ∧ ∀ j : Nat, st'[j]? = st[j]? ∨ ∃ i, lo ≤ i ∧ i < hi ∧ j = from_ + i ∧ st'[j]? = some (secB all i)
section
variable {st : List ByteArray} {from_ lo hi : Nat} {all : List UInt8} {s : DS}
theorem mid_start (h : s.Ok) (hd : s.dead = false) (hb : ∀ j, s.bad j = false) (hl : s.loose = []) : Mid s.stay from_ all lo lo s :=
  ⟨h, rfl, hd, hb, by simp [hl], fun j h1 h2 => by omega⟩
theorem Mid.laid_is (h : Mid st from_ all lo hi s) (f : Nat → Bool) : Mixed st from_ all lo hi (laid f s.loose st) := by
  refine ⟨length_laid _ _ _, fun j => ?_⟩
  by_cases hj : j < st.length
  · rw [List.getElem?_eq_getElem (by rw [length_laid]; exact hj), List.getElem?_eq_getElem hj, get_laid _ _ _ _ hj]
    cases e : seek (j : Int) s.loose 0 with
    | none => exact .inl rfl
    | some z =>
      obtain ⟨i, hi', _, e2⟩ := seek_some e
      obtain ⟨k, h1, h2, e3⟩ := h.loose _ (List.getElem_mem hi')
      rw [e2] at e3
      obtain ⟨e4, e5⟩ := Prod.mk.inj e3
      have e6 : j = from_ + k := by omega
      cases hf : f z.1 with
      | false => exact .inl (by simp [hf])
      | true =>
        have e7 : z.2 = secB all k := e5
        exact .inr ⟨k, h1, h2, e6, by simp [hf, e7]⟩
  · rw [List.getElem?_eq_none (by rw [length_laid]; omega), List.getElem?_eq_none (by omega)]
    exact .inl rfl
theorem Mid.all_laid (h : Mid st from_ all lo hi s) {j : Nat} (h1 : lo ≤ j) (h2 : j < hi) (h3 : from_ + j < st.length) : (laid (fun _ => true) s.loose st)[from_ + j]? = some (secB all j) := by
  rw [List.getElem?_eq_getElem (by rw [length_laid]; exact h3), get_laid _ _ _ _ h3]
  cases e : seek ((from_ + j : Nat) : Int) s.loose 0 with
  | none => exact absurd e (h.each j h1 h2)
  | some z =>
    obtain ⟨i, hi', _, e2⟩ := seek_some e
    obtain ⟨k, _, _, e3⟩ := h.loose _ (List.getElem_mem hi')
    rw [e2] at e3
    obtain ⟨e4, e5⟩ := Prod.mk.inj e3
    obtain rfl : j = k := by omega
    have e7 : z.2 = secB all j := e5
    simp [e7]
theorem Mid.may (h : Mid st from_ all lo hi s) {n : Nat} (hn : n < st.length) : s.may (n : Int) = 0 := by
  have : (n : Int) < (s.stay.length : Int) := by rw [h.stay]; omega
  have h2 : ¬ (s.stay.length : Int) ≤ (n : Int) := by omega
  have h3 : ¬ (n : Int) < 0 := by omega
  simp [DS.may, h.dead, h2, h3]
theorem Mid.fits (h : Mid st from_ all lo hi s) (hn : from_ + hi < st.length) : s.fits ((from_ + hi : Nat) : Int) (secB all hi) = true := by
  unfold DS.fits
  rw [h.may hn, size_secB, h.bad]
  rfl
theorem Mid.writeE (h : Mid st from_ all lo hi s) (hn : from_ + hi < st.length) : s.writeE ((from_ + hi : Nat) : Int) (secB all hi) = if s.armed = 1 then 2 else 0 := by
  unfold DS.writeE
  rw [h.may hn, size_secB, h.bad, if_neg (by decide), if_neg (by decide), if_neg (by decide)]
/-- one sector more -/
theorem Mid.lays (h : Mid st from_ all lo hi s) (hn : from_ + hi < st.length) (hlo : lo ≤ hi) : Mid st from_ all lo (hi + 1) (s.lays ((from_ + hi : Nat) : Int) (secB all hi)) := by
  refine ⟨h.ok.lays (by omega) (by rw [h.stay]; omega) (size_secB _ _), h.stay, h.dead, h.bad, fun q hq => ?_, fun j h1 h2 => ?_⟩
  · rcases mem_putL hq with rfl | hq
    · exact ⟨hi, hlo, by omega, rfl⟩
    · obtain ⟨j, h1, h2, e⟩ := h.loose q hq
      exact ⟨j, h1, by omega, e⟩
  · show seek _ (putL _ _ s.loose) 0 ≠ none
    rw [seek_putL]
    by_cases e : j = hi
    · subst e; simp
    · rw [if_neg (by omega)]
      exact h.each j h1 (by omega)
theorem Mid.write_goes (h : Mid st from_ all lo hi s) (hn : from_ + hi < st.length) (ha : s.armed ≠ 1) : s.write ((from_ + hi : Nat) : Int) (secB all hi) = s.lays ((from_ + hi : Nat) : Int) (secB all hi) := by
  unfold DS.write
  rw [h.fits hn, if_pos rfl, if_neg ha]
theorem Mid.write_torn (h : Mid st from_ all lo hi s) (hn : from_ + hi < st.length) (ha : s.armed = 1) : s.write ((from_ + hi : Nat) : Int) (secB all hi) = (s.lays ((from_ + hi : Nat) : Int) (secB all hi)).goes s.keep := by
  unfold DS.write
  rw [h.fits hn, if_pos rfl, if_pos ha]
/-- the power goes -/
theorem Mid.goes (h : Mid st from_ all lo hi s) (keep : ByteArray) : Mixed st from_ all lo hi (s.goes keep).stay := by
  show Mixed st from_ all lo hi (laid (keepsAt keep) s.loose s.stay)
  rw [h.stay]
  exact h.laid_is _
/-- the power is gone: nothing is loose -/
structure Torn (st : List ByteArray) (from_ : Nat) (all : List UInt8) (lo hi : Nat) (s : DS) : Prop where
  ok : s.Ok
  dead : s.dead = true
  bad : ∀ j, s.bad j = false
  none_ : s.loose = []
  mixed : Mixed st from_ all lo hi s.stay
theorem Mixed.le {st' : List ByteArray} {hi' : Nat} (h : Mixed st from_ all lo hi st') (hl : hi ≤ hi') : Mixed st from_ all lo hi' st' :=
  ⟨h.1, fun j => by
    rcases h.2 j with e | ⟨i, h1, h2, h3, h4⟩
    · exact .inl e
    · exact .inr ⟨i, h1, by omega, h3, h4⟩⟩
theorem Mid.torn (h : Mid st from_ all lo hi s) (keep : ByteArray) {hi' : Nat} (hl : hi ≤ hi') : Torn st from_ all lo hi' (s.goes keep) :=
  ⟨h.ok.goes keep, rfl, h.bad, rfl, (h.goes keep).le hl⟩
theorem Mid.tick (h : Mid st from_ all lo hi s) : Mid st from_ all lo hi s.tick := ⟨h.ok.tick, h.stay, h.dead, h.bad, h.loose, h.each⟩
/-- sectors are written, one behind the other -/
def puts (from_ : Nat) (all : List UInt8) : Nat → Nat → DS → Int × DS
  | 0, _, s => (0, s)
  | k + 1, i, s => if s.writeE ((from_ + i : Nat) : Int) (secB all i) = 0 then puts from_ all k (i + 1) (s.write ((from_ + i : Nat) : Int) (secB all i)) else (s.writeE ((from_ + i : Nat) : Int) (secB all i), s.write ((from_ + i : Nat) : Int) (secB all i))
theorem puts_mid : ∀ (k i : Nat) {s : DS}, Mid st from_ all lo i s → lo ≤ i → from_ + i + k ≤ st.length →
    ((puts from_ all k i s).1 = 0 ∧ Mid st from_ all lo (i + k) (puts from_ all k i s).2) ∨ ((puts from_ all k i s).1 = 2 ∧ Torn st from_ all lo (i + k) (puts from_ all k i s).2)
  | 0, i, s, h, _, _ => .inl ⟨rfl, h⟩
  | k + 1, i, s, h, hlo, hf => by
    have hn : from_ + i < st.length := by omega
    rw [puts, h.writeE hn]
    by_cases ha : s.armed = 1
    · rw [h.write_torn hn ha, if_pos ha, if_neg (by decide)]
      exact .inr ⟨rfl, (h.lays hn hlo).torn _ (by omega)⟩
    · rw [h.write_goes hn ha, if_neg ha, if_pos rfl]
      have := puts_mid k (i + 1) (h.lays hn hlo) (by omega) (by omega)
      rw [show i + 1 + k = i + (k + 1) by omega] at this
      exact this
/-- and synced -/
def put (from_ : Nat) (all : List UInt8) (lo k : Nat) (s : DS) : Int × DS :=
  if (puts from_ all k lo s).1 = 0 then ((puts from_ all k lo s).2.syncE, (puts from_ all k lo s).2.sync) else puts from_ all k lo s
/-- a disk on which all is as it should be between two calls -/
structure Quiet (s : DS) : Prop where
  ok : s.Ok
  dead : s.dead = false
  bad : ∀ j, s.bad j = false
  none_ : s.loose = []
theorem put_is (h : Quiet s) (lo k : Nat) (hf : from_ + lo + k ≤ s.stay.length) :
    ((put from_ all lo k s).1 = 0 ∧ Quiet (put from_ all lo k s).2 ∧ Mixed s.stay from_ all lo (lo + k) (put from_ all lo k s).2.stay ∧ ∀ j, lo ≤ j → j < lo + k → (put from_ all lo k s).2.stay[from_ + j]? = some (secB all j)) ∨
    ((put from_ all lo k s).1 = 2 ∧ Torn s.stay from_ all lo (lo + k) (put from_ all lo k s).2) := by
  have hm := puts_mid k lo (mid_start (from_ := from_) (all := all) (lo := lo) h.ok h.dead h.bad h.none_) (Nat.le_refl _) hf
  rcases hm with ⟨e, hm⟩ | ⟨e, ht⟩
  · unfold put
    rw [if_pos e]
    generalize (puts from_ all k lo s).2 = s1 at hm
    by_cases ha : s1.armed = 1
    · refine .inr ⟨by simp [DS.syncE, hm.dead, ha], ?_⟩
      have e2 : s1.sync = s1.tick.goes s1.keep := by simp [DS.sync, hm.dead, ha]
      show Torn _ _ _ _ _ s1.sync
      rw [e2]
      exact hm.tick.torn _ (Nat.le_refl _)
    · have e2 : s1.sync = s1.tick.settled := by simp [DS.sync, hm.dead, ha]
      refine .inl ⟨by simp [DS.syncE, hm.dead, ha], ?_⟩
      show Quiet s1.sync ∧ Mixed _ _ _ _ _ s1.sync.stay ∧ ∀ j, lo ≤ j → j < lo + k → s1.sync.stay[from_ + j]? = some (secB all j)
      have e3 : s1.sync.stay = laid (fun _ => true) s1.loose s.stay := by
        rw [e2]
        show laid (fun _ => true) s1.loose s1.stay = _
        rw [hm.stay]
      refine ⟨⟨by rw [e2]; exact hm.ok.tick.settled, by rw [e2]; exact hm.dead, by rw [e2]; exact hm.bad, by rw [e2]; rfl⟩, ?_, fun j h1 h2 => ?_⟩
      · rw [e3]; exact hm.laid_is _
      · rw [e3]; exact hm.all_laid h1 h2 (by omega)
  · unfold put
    rw [if_neg (by rw [e]; decide)]
    exact .inr ⟨e, ht⟩
end
end Go.Proofs.Ytmbknpipefbelaa
