/-
  A new volume; calls when no crash is in store.
-/
import Derived.Test.YthnpdiopaeommaaGreatBlkSound
import Derived.Test.YthnpdiopaeommaaGreatMC
namespace Go.Proofs.YthnpdiopaeommaaGreat
open Go

theorem zeros_blank : zeros 64 = zero64 := rfl
theorem fresh_alive {n : Nat} (h1 : 1 ≤ n) (h2 : n ≤ 16384) : Alive (fresh (blank n)) := ⟨blank_ok h1 h2, rfl, fun _ => rfl⟩
theorem blank_at {n j : Nat} (hj : j < n) : (fresh (blank n)).at j = zeros 64 := by
  rw [DS.at, zeros_blank]
  show (blank n).getD j none0 = _
  rw [blank, List.getD_eq_getElem?_getD, List.getElem?_replicate, if_pos hj]
  rfl
theorem no_root8 (i : Nat) : isRoot (zeros 64) i = false := no_root
/-- a new volume on a disk of noughts -/
theorem format_blank {n : Nat} (h1 : 32 ≤ n) (h2 : n ≤ 16384) {t : ByteArray} (ht : t.size ≤ 40) :
    vformE (fresh (blank n)) t = 0 ∧ Sound (vformX (fresh (blank n)) t) ∧ (vformD (fresh (blank n)) t).armed = 0 ∧ (vformD (fresh (blank n)) t).stay.length = n ∧ ∀ j, 2 ≤ j → j < n → (vformD (fresh (blank n)) t).look ((j : Nat) : Int) = zeros 64 := by
  have h0 := fresh_alive (n := n) (by omega) h2
  have hlen : (fresh (blank n)).stay.length = n := by simp [fresh, blank]
  have hb : badV (fresh (blank n)) = false := by
    unfold badV blkN
    rw [hlen, decide_eq_false (by omega), decide_eq_false (by omega)]; rfl
  have hat := fun j (hj : j < n) => blank_at (n := n) hj
  have hlk : ∀ j, j < n → (fresh (blank n)).look ((j : Nat) : Int) = zeros 64 := fun j hj => by rw [look_none rfl, hat j hj]
  have harm : (fresh (blank n)).armed = 0 := rfl
  unfold vformX vformE vformD
  generalize fresh (blank n) = s at *
  have hm0 : s.may ((0 : Nat) : Int) = 0 := h0.may (by omega)
  have hz : (zeros 64).size = 64 := size_zeros 64
  have hwE : s.writeE 0 (zeros 64) = 0 := by
    unfold DS.writeE
    rw [show s.may 0 = 0 from hm0, hz, h0.bad, if_neg (by decide), if_neg (by decide), if_neg (by decide), harm, if_neg (by decide)]
  have hw : s.write 0 (zeros 64) = s.lays ((0 : Nat) : Int) (zeros 64) := by
    unfold DS.write DS.fits
    rw [show s.may 0 = 0 from hm0, hz, h0.bad, harm, if_pos (by decide), if_neg (by decide)]
    rfl
  have ht' : ¬ 40 < t.size := by omega
  have hne : ¬ ((0 : Int) ≠ 0) := fun h => h rfl
  simp only [hb, ht', hwE, hne, if_false, Bool.false_eq_true, hw]
  have ha1 : Alive (s.lays ((0 : Nat) : Int) (zeros 64)) := ⟨h0.ok.lays (by omega) (by omega) hz, h0.dead, h0.bad⟩
  have hl1 : (s.lays ((0 : Nat) : Int) (zeros 64)).stay.length = n := hlen
  have hk1 : ∀ j, j < n → (s.lays ((0 : Nat) : Int) (zeros 64)).look ((j : Nat) : Int) = zeros 64 := fun j hj => by
    rw [look_lays8]
    split
    · rfl
    · exact hlk j hj
  have hat1 : ∀ j, j < n → (s.lays ((0 : Nat) : Int) (zeros 64)).at j = zeros 64 := hat
  have harm1 : (s.lays ((0 : Nat) : Int) (zeros 64)).armed = 0 := by simp [DS.lays, DS.tick, harm]
  generalize s.lays ((0 : Nat) : Int) (zeros 64) = s1 at *
  obtain ⟨c1, c2⟩ := rootPut_calm ha1 harm1 t 1 (by omega)
  rcases rootPut_is ha1 ht 1 (by omega) (fun j hj => by rw [hat1 j (by omega), hk1 j (by omega)]) with ⟨e, ha, hl, he⟩ | ⟨e, _⟩
  · generalize (rootPut t 1 s1).2 = s2 at *
    have hl2 : s2.stay.length = n := by rw [hl, hl1]
    have he1 := he 1 (by omega)
    have he0 := he 0 (by omega)
    rw [if_pos rfl] at he1
    rw [if_neg (by decide), hk1 0 (by omega)] at he0
    refine ⟨c1, ⟨ha, ?_, Nat.le_refl 1, show 1 ≤ 1099511627776 by decide, ht, ⟨he1.1, he1.2, show s2.at 0 = s2.look ((0 : Nat) : Int) by rw [he0.1, he0.2], fun hx => ?_⟩, rfl, fun q hq => by cases hq⟩, c2, hl2, fun j j1 j2 => ?_⟩
    · unfold badV blkN
      rw [hl2, decide_eq_false (by omega), decide_eq_false (by omega)]; rfl
    · have hx' : isRoot (s2.look ((0 : Nat) : Int)) 0 = true := hx
      rw [he0.2, no_root8] at hx'
      cases hx'
    · rw [(he j (by omega)).2, if_neg (by omega), hk1 j (by omega)]
  · rw [c1] at e; cases e
theorem bare_lies {s : DS} {v : Nat} (h : ∀ i, i < 4 → s.look ((4 * v + i : Nat) : Int) = zeros 64) : Lies s v (List.replicate 256 0) := fun i hi => by
  rw [h i hi]
  apply b_ext
  have e : secL (List.replicate 256 (0 : UInt8)) i = List.replicate 64 0 := by
    rw [secL_full (by rw [List.length_replicate]; omega), List.drop_replicate, List.take_replicate, show min 64 (256 - 64 * i) = 64 by omega]
  show (⟨(List.replicate 64 (0 : UInt8)).toArray⟩ : ByteArray).data.toList = (⟨(secL (List.replicate 256 0) i).toArray⟩ : ByteArray).data.toList
  rw [e]
section
variable {x : VS}
theorem Sound.commit_calm (h : Sound x) (ha : x.disk.armed = 0) {t : ByteArray} (ht : t.size ≤ 40) (hn : x.num < 1099511627776) : (x.commit t).1 = 0 ∧ (x.commit t).2.disk.armed = 0 := by
  have hb := big_is h.big
  obtain ⟨e1, e2⟩ := h.alive.calm_sync ha
  rcases h.alive.sync with ⟨_, hs⟩ | ⟨e, _⟩
  · obtain ⟨e3, e4⟩ := rootPut_calm hs.alive e2 t (x.num + 1) (by have := hs.len; omega)
    unfold VS.commit
    rw [h.live, if_neg (by omega), if_neg (by decide), if_neg (by omega), if_neg (by rw [e1]; simp), if_neg (by rw [e3]; simp)]
    exact ⟨rfl, e4⟩
  · rw [e1] at e; cases e
theorem Sound.commit_long (_h : Sound x) {t : ByteArray} (ht : 40 < t.size) : x.commit t = (83, x) := by
  unfold VS.commit
  rw [if_pos ht]
theorem Sound.write_calm (h : Sound x) (ha : x.disk.armed = 0) {v : Int} (hv : x.has v = true) {p : ByteArray} (hp : p.size ≤ 240) : (x.write v p).1 = 0 ∧ (x.write v p).2.disk.armed = 0 := by
  obtain ⟨hf, _⟩ := has_fit (has_is.1 hv)
  obtain ⟨e1, e2⟩ := puts_calm8 (from_ := 4 * v.toNat) (all := frameL p.data.toList) 4 0 h.alive ha (by omega)
  unfold VS.write storeV
  rw [hv, h.live, if_neg (by decide), if_neg (by omega), if_neg (by decide), if_neg (by rw [e1]; simp)]
  exact ⟨rfl, e2⟩
end
end Go.Proofs.YthnpdiopaeommaaGreat

