/-
  A log on a disk of which nothing is armed or bad, as plain data.
-/
import Derived.Test.YteboacjniokfpaaGreatDoorNvO
namespace Go.Proofs.YteboacjniokfpaaGreatDoor
open Go.RowKit Go Go.Maps SM

section
variable {st : List ByteArray} {from_ lo hi : Nat} {all : List UInt8} {s : DS}
theorem puts_calm : ∀ (k i : Nat) {s : DS}, Mid st from_ all lo i s → s.armed = 0 → lo ≤ i → from_ + i + k ≤ st.length → (puts from_ all k i s).1 = 0 ∧ (puts from_ all k i s).2.armed = 0
  | 0, i, s, _, ha, _, _ => ⟨rfl, ha⟩
  | k + 1, i, s, h, ha, hlo, hf => by
    have hn : from_ + i < st.length := by omega
    rw [puts, h.writeE hn, if_neg (show ¬ s.armed = 1 by omega), if_pos rfl, h.write_goes hn (by omega)]
    exact puts_calm k (i + 1) (h.lays hn hlo) (by simp [DS.lays, DS.tick, ha]) (by omega) (by omega)
theorem put_calm (h : Quiet s) (ha : s.armed = 0) (lo k : Nat) (hf : from_ + lo + k ≤ s.stay.length) : (put from_ all lo k s).1 = 0 ∧ (put from_ all lo k s).2.armed = 0 := by
  have hm0 := mid_start (from_ := from_) (all := all) (lo := lo) h.ok h.dead h.bad h.none_
  obtain ⟨h1, h2⟩ := puts_calm k lo hm0 ha (Nat.le_refl _) hf
  rcases puts_mid k lo hm0 (Nat.le_refl _) hf with ⟨_, hm⟩ | ⟨e, _⟩
  · unfold put
    rw [if_pos h1]
    exact ⟨by simp [DS.syncE, hm.dead, h2], by simp [DS.sync, hm.dead, h2, DS.settled, DS.tick]⟩
  · rw [h1] at e; cases e
theorem heads_calm (h : Quiet s) (ha : s.armed = 0) (g u : Nat) : (heads g u s).1 = 0 ∧ (heads g u s).2.armed = 0 := put_calm h ha 0 1 (by have := h.ok.pos; omega)
theorem appD_calm (h : Quiet s) (ha : s.armed = 0) {g : Nat} {L : List ByteArray} {r : ByteArray} (hf : (recB L).length + 2 + r.size ≤ 64 * ((s.stay.length - 1) / 2)) : (appD g L r s).1 = 0 ∧ (appD g L r s).2.armed = 0 := by
  have hlen := length_recB_snoc L r
  have hfit := halfAt_fit s.stay g h.ok.pos (n := ((recB (L ++ [r])).length + 63) / 64) (by omega)
  have hb : halfAt s.stay g + (recB L).length / 64 + (((recB (L ++ [r])).length + 63) / 64 - (recB L).length / 64) ≤ s.stay.length := by omega
  obtain ⟨h1, h2⟩ := put_calm (all := recB (L ++ [r])) h ha ((recB L).length / 64) (((recB (L ++ [r])).length + 63) / 64 - (recB L).length / 64) hb
  unfold appD
  rw [if_pos h1]
  rcases put_is (from_ := halfAt s.stay g) (all := recB (L ++ [r])) h ((recB L).length / 64) (((recB (L ++ [r])).length + 63) / 64 - (recB L).length / 64) hb with ⟨_, hq, _⟩ | ⟨e, _⟩
  · exact heads_calm hq h2 g _
  · rw [h1] at e; cases e
end
/-- a log on which all is as it should be -/
structure Good (x : LS) : Prop where
  quiet : Quiet x.disk
  alive : x.dead = false
  holds : Holds x.disk.stay x.gen x.recs
section
variable {x : LS}
theorem Good.fits (h : Good x) : (recB x.recs).length ≤ 64 * halfN x.disk := h.holds.fits
def LS.takes (x : LS) (r : ByteArray) : Prop := r.size ≤ 1300 ∧ (recB x.recs).length + 2 + r.size ≤ 64 * halfN x.disk
theorem Good.app_no (h : Good x) {r : ByteArray} (hf : ¬ x.takes r) : x.app r = x ∧ x.appE r ≠ 0 ∧ x.appE r ≠ 2 := by
  unfold LS.takes at hf
  unfold LS.app LS.appE
  by_cases h1 : 1300 < r.size
  · simp [h1]
  · have h2 : x.full r = true := by simp [LS.full]; omega
    simp [h1, h.alive, h2]
theorem Good.app_is (h : Good x) {r : ByteArray} (hf : x.takes r) : x.appE r = (appD x.gen x.recs r x.disk).1 ∧ x.app r = if (appD x.gen x.recs r x.disk).1 = 0 then { x with recs := x.recs ++ [r], disk := (appD x.gen x.recs r x.disk).2 } else { x with dead := (appD x.gen x.recs r x.disk).1 == 2, disk := (appD x.gen x.recs r x.disk).2 } := by
  obtain ⟨h1, h2⟩ := hf
  have h3 : x.full r = false := by simp [LS.full]; omega
  unfold LS.app LS.appE
  simp [show ¬ 1300 < r.size by omega, h.alive, h3]
/-- a record is taken, or the power goes -/
theorem Good.app_yes (h : Good x) {r : ByteArray} (hf : x.takes r) :
    (x.appE r = 0 ∧ x.app r = { x with recs := x.recs ++ [r], disk := (appD x.gen x.recs r x.disk).2 } ∧ Good (x.app r)) ∨
    (x.appE r = 2 ∧ (x.app r).disk = (appD x.gen x.recs r x.disk).2 ∧ Gone (x.app r).disk ∧ (Holds (x.app r).disk.stay x.gen x.recs ∨ Holds (x.app r).disk.stay x.gen (x.recs ++ [r]))) := by
  obtain ⟨e1, e2⟩ := h.app_is hf
  rcases app_keeps h.quiet h.holds hf.1 hf.2 with ⟨e, hq, _, hh⟩ | ⟨e, hg, _, hh⟩
  · left
    rw [if_pos e] at e2
    rw [e2]
    exact ⟨by rw [e1, e], rfl, hq, h.alive, hh⟩
  · right
    rw [if_neg (by rw [e]; decide)] at e2
    rw [e2]
    exact ⟨by rw [e1, e], rfl, hg, hh⟩
theorem Good.app_calm (h : Good x) (ha : x.disk.armed = 0) {r : ByteArray} (hf : x.takes r) : x.appE r = 0 ∧ (x.app r).recs = x.recs ++ [r] ∧ Good (x.app r) ∧ (x.app r).disk.armed = 0 := by
  obtain ⟨h1, h2⟩ := appD_calm h.quiet ha (g := x.gen) hf.2
  obtain ⟨e1, _⟩ := h.app_is hf
  rcases h.app_yes hf with ⟨e, e2, hg⟩ | ⟨e, _⟩
  · exact ⟨e, by rw [e2], hg, by rw [e2]; exact h2⟩
  · rw [e1, h1] at e; cases e
theorem Good.start_no (_h : Good x) {n : Int} (hf : x.form n = true) : x.start n = x ∧ x.startE n = 70 := by simp [LS.start, LS.startE, hf]
theorem Good.start_is (h : Good x) {n : Int} (hf : x.form n = false) : x.startE n = (heads n.toNat 0 x.disk).1 ∧ x.start n = if (heads n.toNat 0 x.disk).1 = 0 then { gen := n.toNat, recs := [], dead := x.dead, disk := (heads n.toNat 0 x.disk).2 } else { x with dead := (heads n.toNat 0 x.disk).1 == 2, disk := (heads n.toNat 0 x.disk).2 } := by
  simp [LS.start, LS.startE, hf, h.alive]
theorem Good.start_yes (h : Good x) {n : Int} (hf : x.form n = false) :
    (x.startE n = 0 ∧ (x.start n).recs = [] ∧ (x.start n).gen = n.toNat ∧ Good (x.start n) ∧ (x.start n).disk = (heads n.toNat 0 x.disk).2) ∨
    (x.startE n = 2 ∧ Gone (x.start n).disk ∧ (Holds (x.start n).disk.stay x.gen x.recs ∨ Holds (x.start n).disk.stay n.toNat [])) := by
  obtain ⟨e1, e2⟩ := h.start_is hf
  have hn : n.toNat ≤ 1099511627776 := by simp [LS.form] at hf; omega
  rcases start_keeps h.quiet h.holds hn with ⟨e, hq, _, hh⟩ | ⟨e, hg, _, hh⟩
  · left
    rw [if_pos e] at e2
    rw [e2]
    exact ⟨by rw [e1, e], rfl, rfl, ⟨hq, h.alive, hh⟩, rfl⟩
  · right
    rw [if_neg (by rw [e]; decide)] at e2
    rw [e2]
    exact ⟨by rw [e1, e], hg, hh⟩
theorem Good.start_calm (h : Good x) (ha : x.disk.armed = 0) {n : Int} (hf : x.form n = false) : x.startE n = 0 ∧ Good (x.start n) ∧ (x.start n).disk.armed = 0 := by
  obtain ⟨h1, h2⟩ := heads_calm h.quiet ha n.toNat 0
  obtain ⟨e1, _⟩ := h.start_is hf
  rcases h.start_yes hf with ⟨e, _, _, hg, hd⟩ | ⟨e, _⟩
  · exact ⟨e, hg, by rw [hd]; exact h2⟩
  · rw [e1, h1] at e; cases e
theorem half_app (x : LS) (r : ByteArray) : halfN (x.app r).disk = halfN x.disk := by
  have h := (len_keepD x.gen (recB x.recs).length (recB (x.recs ++ [r])) x.disk).1
  have h2 : (appD x.gen x.recs r x.disk).2.stay.length = x.disk.stay.length := h
  unfold LS.app halfN
  split
  · rfl
  · split
    · rfl
    · split
      · rfl
      · split <;> simp [h2]
theorem fresh_quiet {n : Nat} (h1 : 1 ≤ n) (h2 : n ≤ 16384) : Quiet (fresh (blank n)) := ⟨blank_ok h1 h2, rfl, fun _ => rfl, rfl⟩
theorem good_new {n : Nat} (h1 : 5 ≤ n) (h2 : n ≤ 16384) : formE (fresh (blank n)) 0 = 0 ∧ Good ⟨(0 : Int).toNat, [], false, formD (fresh (blank n)) 0⟩ ∧ (formD (fresh (blank n)) 0).armed = 0 ∧ (formD (fresh (blank n)) 0).made ≤ 2 ∧ (formD (fresh (blank n)) 0).stay.length = n := by
  have hl : (fresh (blank n)).stay.length = n := by simp [fresh, blank]
  have hno : ¬ ((fresh (blank n)).stay.length < 5 ∨ (0 : Int) < 0 ∨ (1099511627776 : Int) < 0) := by rw [hl]; omega
  have hq := fresh_quiet (n := n) (by omega) h2
  obtain ⟨h3, h4⟩ := heads_calm hq rfl 0 0
  have h5 := (len_heads 0 0 (fresh (blank n))).1
  have h6 := (len_heads 0 0 (fresh (blank n))).2
  rw [formE, formD, if_neg hno, if_neg hno]
  rcases heads_is hq 0 0 with ⟨e, hq1, hm, h0⟩ | ⟨e, _⟩
  · refine ⟨h3, ⟨hq1, rfl, ?_⟩, h4, h6, h5.trans hl⟩
    exact ⟨by show 5 ≤ (heads 0 0 (fresh (blank n))).2.stay.length; rw [h5, hl]; exact h1, hq1.ok.sz, h0, Nat.zero_le _, Nat.zero_le _, by simp, by simp [recB_nil]⟩
  · rw [h3] at e; cases e
theorem form_five {n : Nat} (h : formE (fresh (blank n)) 0 = 0) : 5 ≤ n := by
  rcases Nat.lt_or_ge n 5 with h5 | h5
  · rw [formE, if_pos (.inl (by simpa [fresh, blank] using h5))] at h
    cases h
  · exact h5
end
end Go.Proofs.YteboacjniokfpaaGreatDoor

