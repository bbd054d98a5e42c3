/-
  DskMath / DskW / DskA / DskL / DskBA / DskBK / DskC / DskS / DskD.
-/
import Derived.Test.YtmloljjllmmkoaaGreatMA
import Derived.Maps.RangeWalk
import Derived.Maps.OwnSet
import Derived.Lib.BufferWrite
import Derived.Laws.CopyRow
import Derived.BigRegion
import Derived.RegionTactic
import Derived.Deep.QuietTactic
import Derived.BigQuiet
import Derived.LoopNIn
import Derived.Deep.RegionHeld3
import Derived.Deep.LoopGhost
import Derived.Lib.Walk
import Derived.Lib.UnsafeStr
import Derived.Laws.MakeOwn
namespace Go.Proofs.YtmloljjllmmkoaaGreat
open SM

/-! ### Loose sectors -/
/-- where a sector stands among those that are loose, and what it has -/
def seek (k : Int) : List (Int × ByteArray) → Nat → Option (Nat × ByteArray)
  | [], _ => none
  | q :: r, p => if q.1 = k then some (p, q.2) else seek k r (p + 1)
/-- a sector's bytes, at its place or behind all others -/
def putL (n : Int) (x : ByteArray) : List (Int × ByteArray) → List (Int × ByteArray)
  | [] => [(n, x)]
  | q :: r => if q.1 = n then (n, x) :: r else q :: putL n x r

theorem seek_none {k : Int} : ∀ {l : List (Int × ByteArray)} {p : Nat}, (∀ q ∈ l, q.1 ≠ k) → seek k l p = none
  | [], _, _ => rfl
  | q :: r, p, h => by
    unfold seek
    rw [if_neg (h q (by simp))]
    exact seek_none fun q' hq' => h q' (by simp [hq'])
theorem none_seek {k : Int} : ∀ {l : List (Int × ByteArray)} {p : Nat}, seek k l p = none → ∀ q ∈ l, q.1 ≠ k
  | [], _, _ => by simp
  | q :: r, p, h => by
    unfold seek at h
    split at h
    · cases h
    · rename_i hn
      intro q' hq'
      rcases List.mem_cons.1 hq' with rfl | hq'
      · exact hn
      · exact none_seek h q' hq'
theorem seek_some {k : Int} {z : Nat × ByteArray} : ∀ {l : List (Int × ByteArray)} {p : Nat}, seek k l p = some z → ∃ i, ∃ h : i < l.length, z.1 = p + i ∧ l[i] = (k, z.2)
  | [], _, h => by cases h
  | q :: r, p, h => by
    unfold seek at h
    split at h
    · rename_i hq
      cases h
      exact ⟨0, by simp, by simp, by simp [← hq]⟩
    · obtain ⟨i, hi, e1, e2⟩ := seek_some h
      exact ⟨i + 1, by simp; omega, by omega, by simpa using e2⟩
theorem seek_get {k : Int} {x : ByteArray} : ∀ {l : List (Int × ByteArray)} {p i : Nat}, (l.map (·.1)).Nodup → ∀ (h : i < l.length), l[i] = (k, x) → seek k l p = some (p + i, x)
  | [], _, _, _, h, _ => by simp at h
  | q :: r, p, 0, _, _, e => by
    have : q = (k, x) := by simpa using e
    subst this
    simp [seek]
  | q :: r, p, i + 1, hd, h, e => by
    have e' : r[i]'(by simpa using h) = (k, x) := by simpa using e
    have hq : q.1 ≠ k := by
      simp only [List.map_cons, List.nodup_cons] at hd
      intro hk
      apply hd.1
      rw [hk]
      exact List.mem_map.2 ⟨(k, x), by rw [← e']; exact List.getElem_mem _, rfl⟩
    unfold seek
    rw [if_neg hq, seek_get (p := p + 1) (by simp only [List.map_cons, List.nodup_cons] at hd; exact hd.2) (by simpa using h) e']
    congr 2
    omega
theorem seek_shift {k : Int} : ∀ {l : List (Int × ByteArray)} {p d : Nat}, seek k l (p + d) = (seek k l p).map fun z => (z.1 + d, z.2)
  | [], _, _ => rfl
  | q :: r, p, d => by
    unfold seek
    split
    · rfl
    · rw [show p + d + 1 = (p + 1) + d by omega, seek_shift]
theorem seek_putL (n : Int) (x : ByteArray) (k : Int) : ∀ (l : List (Int × ByteArray)) (p : Nat), seek k (putL n x l) p = if k = n then some (((seek n l p).map (·.1)).getD (p + l.length), x) else seek k l p
  | [], p => by
    by_cases e : k = n
    · subst e; simp [putL, seek]
    · simp [putL, seek, e, Ne.symm e]
  | q :: r, p => by
    unfold putL
    by_cases h : q.1 = n
    · rw [if_pos h]
      by_cases e : k = n
      · subst e; simp [seek, h]
      · simp [seek, e, h, Ne.symm e]
    · rw [if_neg h]
      unfold seek
      rw [seek_putL n x k r (p + 1)]
      by_cases e : k = n
      · subst e
        rw [if_neg h]
        rw [if_neg h]
        simp [show p + 1 + r.length = p + (r.length + 1) by omega]
      · simp [e]
theorem length_putL (n : Int) (x : ByteArray) : ∀ (l : List (Int × ByteArray)) (p : Nat), (putL n x l).length = if (seek n l p).isSome then l.length else l.length + 1
  | [], p => by simp [putL, seek]
  | q :: r, p => by
    unfold putL seek
    by_cases h : q.1 = n
    · simp [h]
    · rw [if_neg h, if_neg h, List.length_cons, length_putL n x r (p + 1)]
      split <;> simp
theorem mem_putL {n : Int} {x : ByteArray} {q : Int × ByteArray} : ∀ {l : List (Int × ByteArray)}, q ∈ putL n x l → q = (n, x) ∨ q ∈ l
  | [], h => by simp [putL] at h; exact .inl h
  | a :: r, h => by
    unfold putL at h
    split at h
    · rcases List.mem_cons.1 h with h | h
      · exact .inl h
      · exact .inr (by simp [h])
    · rcases List.mem_cons.1 h with h | h
      · exact .inr (by simp [h])
      · rcases mem_putL h with h | h
        · exact .inl h
        · exact .inr (by simp [h])
theorem nodup_putL (n : Int) (x : ByteArray) : ∀ {l : List (Int × ByteArray)}, (l.map (·.1)).Nodup → ((putL n x l).map (·.1)).Nodup
  | [], _ => by simp [putL]
  | a :: r, h => by
    simp only [List.map_cons, List.nodup_cons] at h
    unfold putL
    split
    · rename_i e
      simp only [List.map_cons, List.nodup_cons, ← e]
      exact h
    · rename_i e
      simp only [List.map_cons, List.nodup_cons]
      refine ⟨fun hm => ?_, nodup_putL n x h.2⟩
      obtain ⟨q, hq, e2⟩ := List.mem_map.1 hm
      rcases mem_putL hq with rfl | hq
      · exact e e2.symm
      · exact h.1 (e2 ▸ List.mem_map.2 ⟨q, hq, rfl⟩)
theorem len_putL_le (n : Int) (x : ByteArray) (l : List (Int × ByteArray)) : (putL n x l).length ≤ l.length + 1 := by
  rw [length_putL n x l 0]; split <;> omega
/-- as the reference does it: each such sector is turned; if there was none, one is laid behind -/
theorem putL_map (n : Int) (x : ByteArray) : ∀ {l : List (Int × ByteArray)}, (l.map (·.1)).Nodup →
    putL n x l = (l.map fun q => if q.1 = n then (q.1, x) else q) ++ (if l.any (fun q => q.1 == n) then [] else [(n, x)])
  | [], _ => by simp [putL]
  | a :: r, h => by
    simp only [List.map_cons, List.nodup_cons] at h
    unfold putL
    by_cases e : a.1 = n
    · have hr : ∀ q ∈ r, q.1 ≠ n := fun q hq e2 => h.1 (by rw [e, ← e2]; exact List.mem_map.2 ⟨q, hq, rfl⟩)
      have hm : (r.map fun q => if q.1 = n then (q.1, x) else q) = r := by
        conv => rhs; rw [← List.map_id r]
        exact List.map_congr_left fun q hq => by simp [hr q hq]
      simp [e, hm]
    · rw [if_neg e, putL_map n x h.2]
      have : (a.1 == n) = false := beq_eq_false_iff_ne.2 e
      rw [List.any_cons, this, Bool.false_or]
      simp [e]

/-! ### What stays -/
/-- the loose sectors of some places stay -/
def laid (f : Nat → Bool) (l : List (Int × ByteArray)) (st : List ByteArray) : List ByteArray :=
  st.mapIdx fun k b => match seek (k : Int) l 0 with
    | some z => if f z.1 then z.2 else b
    | none => b
theorem length_laid (f : Nat → Bool) (l : List (Int × ByteArray)) (st : List ByteArray) : (laid f l st).length = st.length := by simp [laid]
theorem get_laid (f : Nat → Bool) (l : List (Int × ByteArray)) (st : List ByteArray) (k : Nat) (h : k < st.length) :
    (laid f l st)[k]'(by rw [length_laid]; exact h) = match seek (k : Int) l 0 with
      | some z => if f z.1 then z.2 else st[k]
      | none => st[k] := by simp [laid]
theorem laid_nil (f : Nat → Bool) (st : List ByteArray) : laid f [] st = st := by
  apply List.ext_getElem (length_laid _ _ _)
  intro k h1 h2
  rw [get_laid _ _ _ _ h2]
  rfl
theorem laid_none (l : List (Int × ByteArray)) (st : List ByteArray) : laid (fun _ => false) l st = st := by
  apply List.ext_getElem (length_laid _ _ _)
  intro k h1 h2
  rw [get_laid _ _ _ _ h2]
  split <;> simp
theorem laid_congr {f g : Nat → Bool} {l : List (Int × ByteArray)} (h : ∀ p, p < l.length → f p = g p) (st : List ByteArray) : laid f l st = laid g l st := by
  apply List.ext_getElem (by rw [length_laid, length_laid])
  intro k h1 h2
  rw [get_laid _ _ _ _ (by rw [length_laid] at h1; exact h1), get_laid _ _ _ _ (by rw [length_laid] at h1; exact h1)]
  cases hs : seek (k : Int) l 0 with
  | none => rfl
  | some z =>
    obtain ⟨i, hi, e1, _⟩ := seek_some hs
    simp only
    rw [h z.1 (by omega)]
theorem laid_size {f : Nat → Bool} {l : List (Int × ByteArray)} {st : List ByteArray} (h1 : ∀ b ∈ st, b.size = 64) (h2 : ∀ q ∈ l, q.2.size = 64) : ∀ b ∈ laid f l st, b.size = 64 := by
  intro b hb
  obtain ⟨k, hk, rfl⟩ := List.mem_iff_getElem.1 hb
  have hk' : k < st.length := by rw [length_laid] at hk; exact hk
  rw [get_laid _ _ _ _ hk']
  cases hs : seek (k : Int) l 0 with
  | none => exact h1 _ (List.getElem_mem _)
  | some z =>
    obtain ⟨i, hi, _, e2⟩ := seek_some hs
    simp only
    split
    · exact h2 (k, z.2) (e2 ▸ List.getElem_mem _)
    · exact h1 _ (List.getElem_mem _)
/-- one sector more: the reference's round -/
theorem laid_snoc {l : List (Int × ByteArray)} (hn : (l.map (·.1)).Nodup) (f : Nat → Bool) (i : Nat) (h : i < l.length) (st : List ByteArray) (h0 : 0 ≤ l[i].1) :
    laid (fun p => decide (p < i + 1) && f p) l st = if f i then (laid (fun p => decide (p < i) && f p) l st).set l[i].1.toNat l[i].2 else laid (fun p => decide (p < i) && f p) l st := by
  have hg : seek l[i].1 l 0 = some (i, l[i].2) := by simpa using seek_get (p := 0) hn h (k := l[i].1) (x := l[i].2) rfl
  have other : ∀ k z, seek k l 0 = some z → k ≠ l[i].1 → z.1 ≠ i := by
    intro k z hz hne e
    obtain ⟨j, hj, e1, e2⟩ := seek_some hz
    obtain rfl : j = i := by omega
    exact hne (by rw [e2])
  by_cases hf : f i
  · rw [if_pos hf]
    apply List.ext_getElem (by simp [length_laid])
    intro k h1 h2
    have hk : k < st.length := by rw [length_laid] at h1; exact h1
    rw [get_laid _ _ _ _ hk, List.getElem_set, get_laid _ _ _ _ hk]
    by_cases e : (l[i].1).toNat = k
    · have e' : (k : Int) = l[i].1 := by omega
      rw [if_pos e, e', hg]
      simp [hf]
    · rw [if_neg e]
      cases hs : seek (k : Int) l 0 with
      | none => rfl
      | some z =>
        have := other _ _ hs (by omega)
        simp only
        rw [show decide (z.1 < i + 1) = decide (z.1 < i) by apply decide_eq_decide.2; omega]
  · rw [if_neg hf]
    refine laid_congr (fun p hp => ?_) st
    by_cases e : p = i
    · subst e; simp [hf]
    · rw [show decide (p < i + 1) = decide (p < i) by apply decide_eq_decide.2; omega]

/-! ### The bytes of all sectors -/
def flat (st : List ByteArray) : List UInt8 := st.flatMap fun b => b.data.toList
theorem flat_nil : flat [] = [] := rfl
theorem flat_cons (b : ByteArray) (r : List ByteArray) : flat (b :: r) = b.data.toList ++ flat r := rfl
theorem flat_append (a b : List ByteArray) : flat (a ++ b) = flat a ++ flat b := by simp [flat]
theorem len_of (b : ByteArray) : b.data.toList.length = b.size := by simp
theorem length_flat : ∀ {st : List ByteArray}, (∀ b ∈ st, b.size = 64) → (flat st).length = 64 * st.length
  | [], _ => rfl
  | b :: r, h => by
    rw [flat_cons, List.length_append, length_flat (fun x hx => h x (by simp [hx])), len_of, h b (by simp), List.length_cons]
    omega
theorem flat_at : ∀ {st : List ByteArray}, (∀ b ∈ st, b.size = 64) → ∀ (k : Nat) (h : k < st.length), ((flat st).drop (64 * k)).take 64 = st[k].data.toList
  | [], _, _, h => by simp at h
  | b :: r, hs, 0, _ => by
    rw [flat_cons]
    simp only [Nat.mul_zero, List.drop_zero, List.getElem_cons_zero]
    rw [List.take_append_of_le_length (by rw [len_of, hs b (by simp)]; exact Nat.le_refl _), List.take_of_length_le (by rw [len_of, hs b (by simp)]; exact Nat.le_refl _)]
  | b :: r, hs, k + 1, h => by
    rw [flat_cons, show 64 * (k + 1) = b.data.toList.length + 64 * k by rw [len_of, hs b (by simp)]; omega, ← List.drop_drop, List.drop_left, flat_at (fun x hx => hs x (by simp [hx])) k (by simpa using h)]
    rfl
theorem flat_set : ∀ {st : List ByteArray}, (∀ b ∈ st, b.size = 64) → ∀ (k : Nat) (_ : k < st.length) (x : ByteArray), flat (st.set k x) = (flat st).take (64 * k) ++ (x.data.toList ++ (flat st).drop (64 * k + 64))
  | [], _, _, h, _ => by simp at h
  | b :: r, hs, 0, _, x => by
    rw [List.set_cons_zero, flat_cons, flat_cons]
    simp only [Nat.mul_zero, List.take_zero, List.nil_append, Nat.zero_add]
    rw [show 64 = b.data.toList.length by rw [len_of, hs b (by simp)], List.drop_left]
  | b :: r, hs, k + 1, h, x => by
    have hb : b.data.toList.length = 64 := by rw [len_of, hs b (by simp)]
    rw [List.set_cons_succ, flat_cons, flat_cons, flat_set (fun y hy => hs y (by simp [hy])) k (by simpa using h) x,
      show 64 * (k + 1) = b.data.toList.length + 64 * k by omega, List.take_length_add_append, Nat.add_assoc, List.drop_length_add_append, List.append_assoc]
theorem flat_inj : ∀ {a b : List ByteArray}, (∀ x ∈ a, x.size = 64) → (∀ x ∈ b, x.size = 64) → flat a = flat b → a = b
  | [], [], _, _, _ => rfl
  | [], y :: s, _, hb, h => by
    have := congrArg List.length h
    rw [length_flat hb, flat_nil] at this
    simp at this
  | x :: r, [], ha, _, h => by
    have := congrArg List.length h
    rw [length_flat ha, flat_nil] at this
    simp at this
  | x :: r, y :: s, ha, hb, h => by
    rw [flat_cons, flat_cons] at h
    obtain ⟨h1, h2⟩ := List.append_inj h (by rw [len_of, len_of, ha x (by simp), hb y (by simp)])
    rw [flat_inj (fun z hz => ha z (by simp [hz])) (fun z hz => hb z (by simp [hz])) h2, ByteArray.ext (Array.toList_inj.1 h1)]
/-- what stays, as a text -/
def img (st : List ByteArray) : ByteArray := ⟨(flat st).toArray⟩
theorem img_list (st : List ByteArray) : (img st).data.toList = flat st := by simp [img]
theorem img_inj {a b : List ByteArray} (ha : ∀ x ∈ a, x.size = 64) (hb : ∀ x ∈ b, x.size = 64) : img a = img b ↔ a = b := by
  constructor
  · intro h
    exact flat_inj ha hb (by rw [← img_list, h, img_list])
  · rintro rfl; rfl
theorem size_img {st : List ByteArray} (h : ∀ b ∈ st, b.size = 64) : (img st).size = 64 * st.length := by
  rw [← length_flat h, ← img_list, len_of]

/-! ### The disk -/
structure DS where
  stay : List ByteArray
  loose : List (Int × ByteArray)
  bad : Int → Bool
  made : Nat
  armed : Nat
  keep : ByteArray
  dead : Bool

structure DS.Ok (s : DS) : Prop where
  pos : 1 ≤ s.stay.length
  le : s.stay.length ≤ 16384
  sz : ∀ b ∈ s.stay, b.size = 64
  nd : (s.loose.map (·.1)).Nodup
  key : ∀ q ∈ s.loose, 0 ≤ q.1 ∧ q.1 < s.stay.length ∧ q.2.size = 64
  few : s.loose.length ≤ s.made
  arm : s.armed ≤ 9223372036854775807
  keep : s.keep.size ≤ 140737488355328

def none0 : ByteArray := ⟨#[]⟩
theorem none0_le (n : Nat) : none0.size ≤ n := Nat.zero_le n
def keepsAt (keep : ByteArray) (p : Nat) : Bool := bitI keep.data.toList (p : Int)
def DS.may (s : DS) (n : Int) : Int := if s.dead then 2 else if n < 0 ∨ (s.stay.length : Int) ≤ n then 61 else 0
def DS.look (s : DS) (n : Int) : ByteArray := match seek n s.loose 0 with
  | some z => z.2
  | none => s.stay.getD n.toNat none0
def DS.readE (s : DS) (n : Int) : Int := if s.may n ≠ 0 then s.may n else if s.bad n then 3 else 0
def DS.readS (s : DS) (n : Int) : ByteArray := if s.readE n = 0 then s.look n else none0
def DS.goes (s : DS) (keep : ByteArray) : DS := { s with stay := laid (keepsAt keep) s.loose s.stay, loose := [], armed := 0, keep := none0, dead := true }
def DS.tick (s : DS) : DS := { s with made := s.made + 1, armed := s.armed - 1 }
def DS.fits (s : DS) (n : Int) (x : ByteArray) : Bool := s.may n == 0 && x.size == 64 && !s.bad n
def DS.writeE (s : DS) (n : Int) (x : ByteArray) : Int := if s.may n ≠ 0 then s.may n else if x.size ≠ 64 then 1 else if s.bad n then 3 else if s.armed = 1 then 2 else 0
def DS.lays (s : DS) (n : Int) (x : ByteArray) : DS := { s.tick with loose := putL n x s.loose }
def DS.write (s : DS) (n : Int) (x : ByteArray) : DS := if s.fits n x then (if s.armed = 1 then (s.lays n x).goes s.keep else s.lays n x) else s
def DS.syncE (s : DS) : Int := if s.dead then 2 else if s.armed = 1 then 2 else 0
def DS.settled (s : DS) : DS := { s with stay := laid (fun _ => true) s.loose s.stay, loose := [] }
def DS.sync (s : DS) : DS := if s.dead then s else if s.armed = 1 then s.tick.goes s.keep else s.tick.settled
def DS.setBad (s : DS) (n : Int) (b : Bool) : DS := if s.may n = 0 then { s with bad := fun k => if k = n then b else s.bad k } else s
def DS.armE (s : DS) (n : Int) : Int := if s.dead then 2 else if n < 0 then 1 else 0
def DS.setArm (s : DS) (n : Int) (keep : ByteArray) : DS := if s.dead ∨ n < 0 then s else if n = 0 then { s with armed := 0, keep := none0 } else { s with armed := n.toNat, keep := keep }
def DS.crashE (s : DS) : Int := if s.dead then 2 else 0
def DS.crash (s : DS) (keep : ByteArray) : DS := if s.dead then s else s.goes keep
def DS.revive (s : DS) : DS := { s with dead := false, armed := 0, keep := none0 }
def fresh (st : List ByteArray) : DS := ⟨st, [], fun _ => false, 0, 0, none0, false⟩

section
variable {s : DS}
theorem DS.Ok.goes (h : s.Ok) (keep : ByteArray) : (s.goes keep).Ok :=
  ⟨by simpa [DS.goes, length_laid] using h.pos, by simpa [DS.goes, length_laid] using h.le, laid_size h.sz (fun q hq => (h.key q hq).2.2), by simp [DS.goes], by simp [DS.goes], by simp [DS.goes], by simp [DS.goes], none0_le _⟩
theorem DS.Ok.tick (h : s.Ok) : s.tick.Ok := ⟨h.pos, h.le, h.sz, h.nd, h.key, by have := h.few; simp [DS.tick]; omega, by have := h.arm; simp [DS.tick]; omega, h.keep⟩
theorem DS.Ok.lays (h : s.Ok) {n : Int} {x : ByteArray} (h0 : 0 ≤ n) (h1 : n < s.stay.length) (hx : x.size = 64) : (s.lays n x).Ok :=
  ⟨h.pos, h.le, h.sz, nodup_putL _ _ h.nd, fun q hq => by
    rcases mem_putL hq with rfl | hq
    · exact ⟨h0, h1, hx⟩
    · exact h.key q hq, by have := h.few; have := len_putL_le n x s.loose; simp [DS.lays, DS.tick]; omega, by have := h.arm; simp [DS.lays, DS.tick]; omega, h.keep⟩
theorem DS.may_ok {n : Int} (h : s.may n = 0) : s.dead = false ∧ 0 ≤ n ∧ n < s.stay.length := by
  unfold DS.may at h
  split at h
  · cases h
  · split at h
    · cases h
    · rename_i h1 h2
      exact ⟨by simpa using h1, by omega, by omega⟩
theorem DS.fits_ok {n : Int} {x : ByteArray} (h : s.fits n x = true) : s.may n = 0 ∧ x.size = 64 ∧ s.bad n = false := by
  simp [DS.fits] at h
  exact ⟨h.1.1, h.1.2, h.2⟩
theorem DS.Ok.write (h : s.Ok) (n : Int) (x : ByteArray) : (s.write n x).Ok := by
  unfold DS.write
  split
  · rename_i hf
    obtain ⟨h1, h2, h3⟩ := DS.fits_ok hf
    obtain ⟨_, h4, h5⟩ := DS.may_ok h1
    split
    · exact (h.lays h4 h5 h2).goes _
    · exact h.lays h4 h5 h2
  · exact h
theorem DS.Ok.settled (h : s.Ok) : s.settled.Ok :=
  ⟨by simpa [DS.settled, length_laid] using h.pos, by simpa [DS.settled, length_laid] using h.le, fun b hb => laid_size (f := fun _ => true) (l := s.loose) (st := s.stay) h.sz (fun q hq => (h.key q hq).2.2) b hb, by simp [DS.settled], by simp [DS.settled], by simp [DS.settled], h.arm, h.keep⟩
theorem DS.Ok.sync (h : s.Ok) : s.sync.Ok := by
  unfold DS.sync
  split
  · exact h
  · split
    · exact h.tick.goes _
    · exact h.tick.settled
theorem DS.Ok.setBad (h : s.Ok) (n : Int) (b : Bool) : (s.setBad n b).Ok := by
  unfold DS.setBad
  split
  · exact ⟨h.pos, h.le, h.sz, h.nd, h.key, h.few, h.arm, h.keep⟩
  · exact h
theorem DS.Ok.setArm (h : s.Ok) {n : Int} (hn : n ≤ 9223372036854775807) {keep : ByteArray} (hk : keep.size ≤ 140737488355328) : (s.setArm n keep).Ok := by
  unfold DS.setArm
  split
  · exact h
  · split
    · exact ⟨h.pos, h.le, h.sz, h.nd, h.key, h.few, by simp, none0_le _⟩
    · exact ⟨h.pos, h.le, h.sz, h.nd, h.key, h.few, by simp; omega, hk⟩
theorem DS.Ok.crash (h : s.Ok) (keep : ByteArray) : (s.crash keep).Ok := by
  unfold DS.crash
  split
  · exact h
  · exact h.goes keep
theorem DS.Ok.revive (h : s.Ok) : s.revive.Ok := ⟨h.pos, h.le, h.sz, h.nd, h.key, h.few, by simp [DS.revive], none0_le _⟩
theorem fresh_ok {st : List ByteArray} (h1 : 1 ≤ st.length) (h2 : st.length ≤ 16384) (h3 : ∀ b ∈ st, b.size = 64) : (fresh st).Ok :=
  ⟨h1, h2, h3, by simp [fresh], by simp [fresh], by simp [fresh], by simp [fresh], none0_le _⟩
theorem DS.Ok.look_size (h : s.Ok) {n : Int} (h0 : 0 ≤ n) (h1 : n < s.stay.length) : (s.look n).size = 64 := by
  unfold DS.look
  cases hs : seek n s.loose 0 with
  | none =>
    simp only
    rw [List.getD_eq_getElem?_getD, List.getElem?_eq_getElem (by omega)]
    exact h.sz _ (List.getElem_mem _)
  | some z =>
    obtain ⟨i, hi, _, e⟩ := seek_some hs
    exact (h.key (n, z.2) (e ▸ List.getElem_mem _)).2.2
/-- the step in which the power goes, as it lies in memory -/
def DS.armZ (s : DS) : Int := if s.armed = 0 then 0 else (s.made + s.armed + 9223372036854775808 : Int) % 18446744073709551616 - 9223372036854775808
theorem DS.armZ_tick (h : 0 < s.armed → 1 < s.armed) : s.tick.armZ = s.armZ := by
  unfold DS.armZ DS.tick
  by_cases e : s.armed = 0
  · simp [e]
  · have := h (by omega)
    simp only [show s.armed - 1 ≠ 0 by omega, e, if_false]
    congr 2
    omega
theorem DS.armZ_is (h : s.armed ≤ 9223372036854775807) (hm : s.made < 1099511627776) : ((s.made : Int) + 1 = s.armZ) ↔ s.armed = 1 := by
  have := h
  unfold DS.armZ
  split
  · omega
  · omega
end
end Go.Proofs.YtmloljjllmmkoaaGreat

namespace Go.Proofs.YtmloljjllmmkoaaGreat
open Go.RowKit Go Go.Maps Go.ChangeMaps SM

/-! ### The map of loose sectors -/
def wrV (p : Int) (x : ByteArray) : Value := .agg #[.int .i64 p, .string x]
def wrD (z : Nat × ByteArray) : DataW Unit := .agg [.lit (.int .i64 (z.1 : Int)), .lit (.string z.2.data.toList)]
def wrElem : Value → Option (DataW Unit × List MemPlace)
  | .agg cs => match cs.toList with
    | [.int .i64 p, .string x] => some (.agg [.lit (.int .i64 p), .lit (.string x.data.toList)], [])
    | _ => none
  | _ => none
theorem wrElem_mk (z : Nat × ByteArray) : wrElem (wrV z.1 z.2) = some (wrD z, []) := rfl
theorem wrElem_zero : wrElem (wrV 0 none0) = some (wrD (0, none0), []) := rfl
theorem wrElem_inv {v : Value} {y : DataW Unit × List MemPlace} (h : wrElem v = some y) : ∃ p x, v = wrV p x ∧ y = (.agg [.lit (.int .i64 p), .lit (.string x.data.toList)], []) := by
  unfold wrElem at h
  split at h
  · rename_i cs
    split at h
    · rename_i p x e
      cases h
      exact ⟨p, x, by rw [wrV, ← e], rfl⟩
    · cases h
  · cases h
theorem wrElem_is {v : Value} {z : Nat × ByteArray} {ps : List MemPlace} (h : wrElem v = some (wrD z, ps)) : v = wrV z.1 z.2 := by
  obtain ⟨p, x, rfl, e⟩ := wrElem_inv h
  have e1 : wrD z = .agg [.lit (.int .i64 p), .lit (.string x.data.toList)] := congrArg Prod.fst e
  simp only [wrD, DataW.agg.injEq, List.cons.injEq, DataW.lit.injEq, Lit.int.injEq, Lit.string.injEq] at e1
  obtain ⟨⟨_, e2⟩, e3, _⟩ := e1
  rw [e2, show z.2 = x from ByteArray.ext (Array.toList_inj.1 e3)]
def lit (k : Int) : Lit := .int .i64 k
theorem lit_ne {a b : Int} (h : a ≠ b) : lit a ≠ lit b := fun e => h (by simpa [lit] using e)
def I64 (k : Int) : Prop := -9223372036854775808 ≤ k ∧ k ≤ 9223372036854775807
theorem wf_lit {k : Int} (h : I64 k) : (Lit.int .i64 k).wf = true := by
  have e1 : IntKind.i64.min = -9223372036854775808 := by decide
  have e2 : IntKind.i64.max = 9223372036854775807 := by decide
  simp [Lit.wf, e1, e2]; exact h
theorem lawM : Keyed Tryz.prog 3 := int_keyed Tryz.underlying3
theorem key_of {k : Int} (h : I64 k) : keyOf Tryz.prog 3 (.int .i64 k) = some (lit k) := keyOf_int_mk Tryz.underlying3 (wf_lit h)
theorem zeroM (w : World) : (zeroValue 156).run Tryz.prog w = .ok (wrV 0 none0) w := by kernel_rfl

theorem owns_fit {H : Type} {P : Program} {k : TypeId} {R : Value → Option (DataW H × List MemPlace)} {w : World} {b n : Nat} {D : DataW H} (h : w.ownsMap P k R b n D) {n' : Nat} (hn : Maps.size D ≤ n') : w.ownsMap P k R b n' D := by
  obtain ⟨es, clock, hb, F, hs, rfl⟩ := h
  refine ⟨es, clock, hb, F, ?_, rfl⟩
  simpa [Maps.size, length_sorted] using hn

/-- what a map of loose sectors reads as -/
def Reads (D : DataW Unit) (l : List (Int × ByteArray)) : Prop := ∀ k z, D.atKey (lit k) z = match seek k l 0 with
  | some y => wrD y
  | none => z
theorem Reads.has {D : DataW Unit} {l : List (Int × ByteArray)} (h : Reads D l) (k : Int) : Maps.has D (lit k) = (seek k l 0).isSome := by
  cases e : seek k l 0 with
  | none => exact Maps.has_false_of_atKey (fun z => by rw [h k z, e])
  | some y => exact Maps.has_true_of_atKey (y := wrD y) (fun z => by rw [h k z, e])
theorem reads_nil : Reads (.map []) [] := fun _ _ => rfl
theorem Reads.put {D : DataW Unit} {l : List (Int × ByteArray)} (h : Reads D l) (hm : IsMap D) (n : Int) (x : ByteArray) :
    Reads (D.put (lit n) (wrD (((seek n l 0).map (·.1)).getD l.length, x))) (putL n x l) := by
  intro k z
  rw [seek_putL]
  by_cases e : k = n
  · subst e
    rw [atKey_put_same (k := lit k) hm (show WideAt.IsKeyLit (.int .i64 k) from trivial)]
    simp
  · rw [atKey_put_other (lit_ne e), h k z, if_neg e]

structure LooseAt (m : Nat) (l : List (Int × ByteArray)) (w : World) (D : DataW Unit) : Prop where
  own : w.ownsMap Tryz.prog 3 wrElem m l.length D
  size : Maps.size D = l.length
  reads : Reads D l
theorem looseAt_new (w : World) : LooseAt w.heap.size [] (w.alloc (.map #[] 0)) (.map []) := ⟨World.ownsMap_made _ _ _ _, rfl, reads_nil⟩
section
variable {m : Nat} {l : List (Int × ByteArray)} {w w' : World} {D : DataW Unit}
theorem LooseAt.stay {F : Nat → Prop} (h : LooseAt m l w D) (k : Stir F w w') (hn : ¬ F m) : LooseAt m l w' D := by
  obtain ⟨⟨es, clock, hb, rest⟩, h2, h3⟩ := h
  exact ⟨⟨es, clock, k.keep hb hn, rest⟩, h2, h3⟩
theorem LooseAt.below (h : LooseAt m l w D) (k : Below w.heap.size w w') : LooseAt m l w' D := h.stay (Stir.of_below (F := fun _ => False) k) (fun h => h)
theorem LooseAt.obj (h : LooseAt m l w D) : ∃ es clock, w.heap[m]? = some (.map es clock) := by
  obtain ⟨⟨es, clock, hb, _⟩, _, _⟩ := h
  exact ⟨es, clock, hb⟩
theorem LooseAt.set (h : LooseAt m l w D) {b i : Nat} (hb : m ≠ b) (x : Value) : LooseAt m l (w.setCell ⟨b, i, none⟩ x) D := ⟨h.own.setCell hb x, h.size, h.reads⟩
end

/-- 'clear(m)' -/
theorem ownsMap_clear {H : Type} {P : Program} {k e t : TypeId} {R : Value → Option (DataW H × List MemPlace)} {w : World} {b n : Nat} {D : DataW H} (h : w.ownsMap P k R b n D) (ht : P.underlying t = some (.map k e)) (ty : TypeId) :
    ∃ w', (Builtin.clear_ #[t] ty #[.map (some b)]).run P w = .ok (.tuple #[]) w' ∧ w'.ownsMap P k R b 0 (.map []) ∧ w.mapTurned w' b := by
  obtain ⟨es, clock, hb, F, hs, rfl⟩ := h
  refine ⟨setBlock w b (.map #[] clock), ?_, ⟨#[], clock, heap_setBlock_same hb _, ⟨by simp, MapKept.stamped_empty clock, by simp⟩, Nat.le_refl _, rfl⟩, ⟨es, clock, #[], clock, hb, rfl⟩⟩
  simp [Builtin.clear_, run_underlying ht, MapKept.run_getObj_map hb, MapKept.run_setObj_map _ hb, Result.andThen, setBlock]
theorem wpList_clear_own {H : Type} {P : Program} (w : World) {ops : Array Oper} {rest : List Oper} {o : Oper} {a : Act} {Q : Exit → Act → World → Prop}
    (hg : o.guard = none) (m : Operand) (t : TypeId) (hop : o.op = Op.call { callee := Callee.builtin Builtin.clear, args := #[m], argTypes := #[t] })
    (k e : TypeId) (ht : P.underlying t = some (.map k e)) (R : Value → Option (DataW H × List MemPlace)) (b n : Nat) (D : DataW H)
    (hm : a.eval m = .map (some b)) (hown : w.ownsMap P k R b n D)
    (hK : ∀ w', w'.ownsMap P k R b 0 (.map []) → w.mapTurned w' b → wpList P ops Q rest (a.put o.dst (.tuple #[])) w') :
    wpList P ops Q (o :: rest) a w := by
  refine wpList_plain hg fun K' hK' => ?_
  obtain ⟨w', hrun, r1, r2⟩ := ownsMap_clear hown ht o.type
  unfold Oper.wp
  simp [execOp, hop, resolve, invoke, builtin, hm, hrun, Result.andThen]
  exact hK' _ _ (hK w' r1 r2)

/-! ### The row of bytes -/
structure RowIs (g cap : Nat) (L : List UInt8) (w : World) (cur : Array Value) : Prop where
  at_ : ∃ f : Nat × Nat, w.heap[g]? = some (.cells cur 5 f) ∧ Free f L.length
  size : cur.size = cap
  max : cap ≤ maxLen
  le : L.length ≤ cap
  is : cur.toList.take L.length = Lib.byteCells L
section
variable {g cap : Nat} {L : List UInt8} {w w' : World} {cur : Array Value}
theorem RowIs.stay {F : Nat → Prop} (h : RowIs g cap L w cur) (k : Stir F w w') (hn : ¬ F g) : RowIs g cap L w' cur := ⟨h.at_.imp fun _ h1 => ⟨k.keep h1.1 hn, h1.2⟩, h.size, h.max, h.le, h.is⟩
theorem RowIs.set (h : RowIs g cap L w cur) {b i : Nat} (hb : g ≠ b) (x : Value) : RowIs g cap L (w.setCell ⟨b, i, none⟩ x) cur := ⟨h.at_.imp fun _ h1 => ⟨heap_set_other h1.1 hb x, h1.2⟩, h.size, h.max, h.le, h.is⟩
theorem RowIs.cell (h : RowIs g cap L w cur) {i : Nat} (hi : i < L.length) : w.cell? ⟨g, i, none⟩ = some (.int .u8 L[i].toNat) := by
  have e : cur.toList[i]? = some (.int .u8 L[i].toNat) := by
    have := congrArg (fun z => z[i]?) h.is
    simp only [List.getElem?_take, hi, if_true] at this
    rw [this]
    simp [Lib.byteCells, hi]
  have e' : cur[i]? = some (.int .u8 L[i].toNat) := by rw [← Array.getElem?_toList]; exact e
  obtain ⟨f, h1, _⟩ := h.at_
  simp only [World.cell?, h1]
  simpa using e'
theorem RowIs.of_owns {base n : Nat} {v : Value} (h : w.ownsRow base 5 1 v n (Lib.byteCells L)) (hv : v ≠ .slice none 0 0) : ∃ g cap cur, v = .slice (some ⟨g, 0, none⟩) L.length cap ∧ base ≤ g ∧ RowIs g cap L w cur := by
  have hl : n = L.length := by have := h.1; rw [Lib.byteCells_length] at this; omega
  subst hl
  rcases h.2 with ⟨e, _⟩ | ⟨g, cap, cur, e, hB, hg, h1, h2, h3, h4⟩
  · exact absurd e hv
  · exact ⟨g, cap, cur, e, hB, ⟨_, hg, .inl rfl⟩, by omega, h2, h1, by simpa using h4⟩
/-- a copy into the row -/
theorem RowIs.copied (h : RowIs g cap L w cur) {o : Nat} {s : ByteArray} (hfit : o + s.size ≤ L.length) :
    RowIs g cap (L.take o ++ (s.data.toList ++ L.drop (o + s.size))) (w.setRow g (cur.toList.take o ++ Lib.byteCells s.data.toList ++ cur.toList.drop (o + s.size)).toArray) (cur.toList.take o ++ Lib.byteCells s.data.toList ++ cur.toList.drop (o + s.size)).toArray := by
  have hs : s.data.toList.length = s.size := by simp
  have hc : cur.toList.length = cap := by simpa using h.size
  have hc2 := h.size
  have hle := h.le
  have hlen : (L.take o ++ (s.data.toList ++ L.drop (o + s.size))).length = L.length := by simp; omega
  refine ⟨h.at_.imp fun _ h1 => ⟨setRow_heap _ _ _ _ _ _ h1.1, by rw [hlen]; exact h1.2⟩, ?_, h.max, by rw [hlen]; exact h.le, ?_⟩
  · have := h.size
    simp [Lib.byteCells_length]; omega
  · rw [hlen, List.toList_toArray]
    apply List.ext_getElem?
    intro i
    have hi := congrArg (fun z => z[i]?) h.is
    simp only [List.getElem?_take, Lib.byteCells, List.getElem?_map] at hi
    by_cases hiL : i < L.length
    · rw [if_pos hiL] at hi
      rw [List.getElem?_take, if_pos hiL, Lib.byteCells, Lib.byteCells, List.getElem?_map, List.append_assoc]
      have e1 : (cur.toList.take o).length = o := by simp; omega
      have e2 : (L.take o).length = o := by simp; omega
      have e3 : (s.data.toList.map fun b : UInt8 => Value.int .u8 (b.toNat : Int)).length = s.size := by rw [List.length_map, hs]
      simp only [List.getElem?_append, e1, e2, e3, hs]
      by_cases h1 : i < o
      · rw [if_pos h1, if_pos h1, List.getElem?_take, if_pos h1, List.getElem?_take, if_pos h1, hi]
      · rw [if_neg h1, if_neg h1]
        by_cases h2 : i - o < s.size
        · rw [if_pos h2, if_pos h2, List.getElem?_map]
        · rw [if_neg h2, if_neg h2, List.getElem?_drop, List.getElem?_drop, show o + s.size + (i - o - s.size) = i by omega, hi]
    · rw [List.getElem?_take, if_neg hiL, List.getElem?_eq_none (by rw [Lib.byteCells_length, hlen]; omega)]
/-- a part of the row, as a text -/
theorem RowIs.conv (h : RowIs g cap L w cur) {o n c : Nat} (hfit : o + n ≤ L.length) :
    (convert 85 9 (.slice (some ⟨g, o, none⟩) n c)).run Tryz.prog w = .ok (.string ⟨((L.drop o).take n).toArray⟩) w := by
  have hl : ((L.drop o).take n).length = n := by simp; omega
  have := run_convert_bytes_back w 85 9 5 ⟨g, o, none⟩ c ((L.drop o).take n) Tryz.underlying85 Tryz.underlying5 Tryz.underlying9 (fun j hj => by
    rw [Addr.add_lit, h.cell (i := o + j) (by omega)]
    simp)
  rw [hl] at this
  exact this
end

/-! ### The object -/
def DObj (g cap m : Nat) (B : ByteArray) (a : Int) (s : DS) : Obj :=
  .cells #[.slice (some ⟨g, 0, none⟩) (64 * s.stay.length) cap, .map (some m), .string B, .int .i64 s.made, .int .i64 a, .string s.keep, .bool s.dead] 153 (0, 0)
section
variable {b g cap m : Nat} {B : ByteArray} {a : Int} {s : DS} {w : World}
theorem DObj.c0 (h : w.heap[b]? = some (DObj g cap m B a s)) : w.cell? ⟨b, 0, none⟩ = some (.slice (some ⟨g, 0, none⟩) (64 * s.stay.length) cap) := by simp [World.cell?, h, DObj]
theorem DObj.c1 (h : w.heap[b]? = some (DObj g cap m B a s)) : w.cell? ⟨b, 1, none⟩ = some (.map (some m)) := by simp [World.cell?, h, DObj]
theorem DObj.c2 (h : w.heap[b]? = some (DObj g cap m B a s)) : w.cell? ⟨b, 2, none⟩ = some (.string B) := by simp [World.cell?, h, DObj]
theorem DObj.c3 (h : w.heap[b]? = some (DObj g cap m B a s)) : w.cell? ⟨b, 3, none⟩ = some (.int .i64 s.made) := by simp [World.cell?, h, DObj]
theorem DObj.c4 (h : w.heap[b]? = some (DObj g cap m B a s)) : w.cell? ⟨b, 4, none⟩ = some (.int .i64 a) := by simp [World.cell?, h, DObj]
theorem DObj.c5 (h : w.heap[b]? = some (DObj g cap m B a s)) : w.cell? ⟨b, 5, none⟩ = some (.string s.keep) := by simp [World.cell?, h, DObj]
theorem DObj.c6 (h : w.heap[b]? = some (DObj g cap m B a s)) : w.cell? ⟨b, 6, none⟩ = some (.bool s.dead) := by simp [World.cell?, h, DObj]
theorem DObj.fr (h : w.heap[b]? = some (DObj g cap m B a s)) (i : Nat) : w.frozen? ⟨b, i, none⟩ = false := by simp [World.frozen?, h, DObj]
end

/-- a disk in memory, with all that its object has -/
structure DAt (b g cap m : Nat) (B : ByteArray) (a : Int) (s : DS) (cur : Array Value) (D : DataW Unit) (w : World) : Prop where
  obj : w.heap[b]? = some (DObj g cap m B a s)
  row : RowIs g cap (flat s.stay) w cur
  loose : LooseAt m s.loose w D
  size : B.size ≤ 8192
  bads : ∀ k : Int, bitI B.data.toList k = s.bad k
def Foot (b g m : Nat) : Nat → Prop := fun k => k = b ∨ k = g ∨ k = m
section
variable {b g cap m : Nat} {B : ByteArray} {a : Int} {s : DS} {cur : Array Value} {D : DataW Unit} {w w' : World}
theorem DAt.bg (h : DAt b g cap m B a s cur D w) : b ≠ g := by
  obtain ⟨f, h1, _⟩ := h.row.at_
  exact ne_of_heap h.obj h1 (by simp [DObj])
theorem DAt.bm (h : DAt b g cap m B a s cur D w) : b ≠ m := by
  obtain ⟨es, clock, hb⟩ := h.loose.obj
  exact ne_of_heap h.obj hb (by simp [DObj])
theorem DAt.gm (h : DAt b g cap m B a s cur D w) : g ≠ m := by
  obtain ⟨es, clock, hb⟩ := h.loose.obj
  obtain ⟨f, h1, _⟩ := h.row.at_
  exact ne_of_heap h1 hb (by simp)
theorem DAt.lt (h : DAt b g cap m B a s cur D w) {k : Nat} (hk : Foot b g m k) : k < w.heap.size := by
  rcases hk with rfl | rfl | rfl
  · exact lt_of_heap h.obj
  · obtain ⟨f, h1, _⟩ := h.row.at_
    exact lt_of_heap h1
  · obtain ⟨es, clock, hb⟩ := h.loose.obj
    exact lt_of_heap hb
theorem DAt.stay {F : Nat → Prop} (h : DAt b g cap m B a s cur D w) (k : Stir F w w') (hn : ∀ i, Foot b g m i → ¬ F i) : DAt b g cap m B a s cur D w' :=
  ⟨k.keep h.obj (hn b (.inl rfl)), h.row.stay k (hn g (.inr (.inl rfl))), h.loose.stay k (hn m (.inr (.inr rfl))), h.size, h.bads⟩
theorem DAt.below (h : DAt b g cap m B a s cur D w) (k : Below w.heap.size w w') : DAt b g cap m B a s cur D w' := h.stay (Stir.of_below (F := fun _ => False) k) (fun _ _ h => h)
theorem DAt.drewN (h : DAt b g cap m B a s cur D w) (n : Nat) : DAt b g cap m B a s cur D (w.drewN n) := ⟨h.obj, ⟨h.row.at_, h.row.size, h.row.max, h.row.le, h.row.is⟩, ⟨h.loose.own, h.loose.size, h.loose.reads⟩, h.size, h.bads⟩
/-- a cell of the object is turned -/
theorem DAt.cell (h : DAt b g cap m B a s cur D w) {s' : DS} {a' : Int} {B' : ByteArray} (i : Nat) (x : Value) (h1 : s'.stay = s.stay) (h2 : s'.loose = s.loose) (h3 : B'.size ≤ 8192) (h4 : ∀ k : Int, bitI B'.data.toList k = s'.bad k)
    (ho : (w.setCell ⟨b, i, none⟩ x).heap[b]? = some (DObj g cap m B' a' s')) : DAt b g cap m B' a' s' cur D (w.setCell ⟨b, i, none⟩ x) :=
  ⟨ho, by rw [h1]; exact h.row.set h.bg.symm x, by rw [h2]; exact h.loose.set h.bm.symm x, h3, h4⟩
end
/-- a disk in memory -/
def DiskAt (b g m : Nat) (s : DS) (w : World) : Prop := s.Ok ∧ ∃ cap B cur D, DAt b g cap m B s.armZ s cur D w
end Go.Proofs.YtmloljjllmmkoaaGreat

namespace Go.Proofs.YtmloljjllmmkoaaGreat
open Go.RowKit Go Go.Maps SM

section
variable {b g cap m : Nat} {B : ByteArray} {a : Int} {s : DS} {cur : Array Value} {D : DataW Unit} {w : World}

theorem sectors_obj (h : w.heap[b]? = some (DObj g cap m B a s)) (hle : s.stay.length ≤ 16384) :
    Calls Tryz.prog 108 #[.pointer (some ⟨b, 0, none⟩)] w fun e w' => e = .returned (.int .i64 s.stay.length) ∧ w = w' := by
  have c0 := DObj.c0 h
  generalize s.stay.length = N at c0 hle ⊢
  clear h
  go_enter Tryz.func108, Tryz.ntmps108
  go_wp2
  go_ret
  exact ⟨rfl, rfl⟩

theorem sectors_at (h : DAt b g cap m B a s cur D w) (hk : s.Ok) :
    Calls Tryz.prog 108 #[.pointer (some ⟨b, 0, none⟩)] w fun e w' => e = .returned (.int .i64 s.stay.length) ∧ w = w' := sectors_obj h.obj hk.le

theorem find_at (h : DAt b g cap m B a s cur D w) (hk : s.Ok) (n : Int) (hn : I64 n) :
    Calls Tryz.prog 77 #[.pointer (some ⟨b, 0, none⟩), .int .i64 n] w fun e w' => e = .returned (.int .i64 (s.may n)) ∧ w = w' := by
  have C := fun w (h : DAt b g cap m B a s cur D w) => sectors_at h hk
  have c6 := DObj.c6 h.obj
  have HH := Lib.hid h
  have hle := hk.le
  unfold DS.may
  obtain ⟨h1, h2⟩ := hn
  generalize s.stay.length = N at C hle ⊢
  cases hd : s.dead with
  | true =>
    rw [hd] at c6
    clear h hk hd
    go_enter Tryz.func77, Tryz.ntmps77
    go_wp2
    go_ret
    exact ⟨rfl, rfl⟩
  | false =>
    rw [hd] at c6
    clear h hk hd
    by_cases h0 : n < 0
    · go_enter Tryz.func77, Tryz.ntmps77
      go_wp2
      go_ret
      exact ⟨by simp, rfl⟩
    · by_cases h3 : (N : Int) ≤ n
      · go_enter Tryz.func77, Tryz.ntmps77
        go_wp2_with fail
        refine (C _ HH.out).mono ?_
        rintro e w' ⟨rfl, rfl⟩
        go_wp2
        go_ret
        exact ⟨by simp, rfl⟩
      · go_enter Tryz.func77, Tryz.ntmps77
        go_wp2_with fail
        refine (C _ HH.out).mono ?_
        rintro e w' ⟨rfl, rfl⟩
        go_wp2
        go_ret
        exact ⟨by simp, rfl⟩

theorem isBad_at (h : DAt b g cap m B a s cur D w) (n : Int) (hn : I64 n) :
    Calls Tryz.prog 78 #[.pointer (some ⟨b, 0, none⟩), .int .i64 n] w fun e w' => e = .returned (.bool (s.bad n)) ∧ w = w' := by
  have c2 := DObj.c2 h.obj
  have hs := h.size
  have C := fun w => has_any B n w (by omega) hn.1 hn.2
  rw [h.bads n] at C
  clear h hs
  go_enter Tryz.func78, Tryz.ntmps78
  go_wp2_with fail
  refine (C _).mono ?_
  rintro e w' ⟨rfl, rfl⟩
  go_wp2
  go_ret
  exact ⟨rfl, rfl⟩

theorem sector_obj (ho : w.heap[b]? = some (DObj g cap m B a s)) (hk : s.Ok) (hc : 64 * s.stay.length ≤ cap) (_hm : cap ≤ maxLen) (n : Nat) (hn : n < s.stay.length) :
    Calls Tryz.prog 128 #[.pointer (some ⟨b, 0, none⟩), .int .i64 n] w fun e w' => e = .returned (.slice (some ⟨g, 64 * n, none⟩) 64 (cap - 64 * n)) ∧ w = w' := by
  have c0 := DObj.c0 ho
  have hle := hk.le
  generalize s.stay.length = N at c0 hle hc hn ⊢
  clear ho hk
  go_enter Tryz.func128, Tryz.ntmps128
  go_wp2
  go_ret
  refine ⟨?_, rfl⟩
  show Ending.returned (Value.slice (some ⟨g, n * 64, none⟩) ((n + 1) * 64 - n * 64) (cap - n * 64)) = _
  rw [show (n + 1) * 64 - n * 64 = 64 by omega, Nat.mul_comm n 64]
theorem DAt.cap_le (h : DAt b g cap m B a s cur D w) (hk : s.Ok) : 64 * s.stay.length ≤ cap := by have := h.row.le; rw [length_flat hk.sz] at this; exact this
theorem sector_at (h : DAt b g cap m B a s cur D w) (hk : s.Ok) (n : Nat) (hn : n < s.stay.length) :
    Calls Tryz.prog 128 #[.pointer (some ⟨b, 0, none⟩), .int .i64 n] w fun e w' => e = .returned (.slice (some ⟨g, 64 * n, none⟩) 64 (cap - 64 * n)) ∧ w = w' :=
  sector_obj h.obj hk (h.cap_le hk) h.row.max n hn

/-- nothing is armed -/
def DS.calm (s : DS) : DS := { s with armed := 0, keep := none0 }
theorem DS.calm_armZ (s : DS) : s.calm.armZ = 0 := rfl
theorem disarm_at (h : DAt b g cap m B a s cur D w) :
    Calls Tryz.prog 111 #[.pointer (some ⟨b, 0, none⟩)] w fun e w' => e = .returned (.tuple #[]) ∧ DAt b g cap m B 0 s.calm cur D w' ∧ Stir (· = b) w w' := by
  have X : DAt b g cap m B 0 s.calm cur D ((w.setCell ⟨b, 4, none⟩ (.int .i64 0)).setCell ⟨b, 5, none⟩ (.string ⟨#[]⟩)) ∧ Stir (· = b) w ((w.setCell ⟨b, 4, none⟩ (.int .i64 0)).setCell ⟨b, 5, none⟩ (.string ⟨#[]⟩)) := by
    refine ⟨(DAt.cell (s' := s) (a' := 0) (B' := B) h 4 _ rfl rfl h.size h.bads ?_).cell 5 _ rfl rfl h.size h.bads ?_, ((Stir.refl (· = b) w).set (.inl rfl) _).set (.inl rfl) _⟩
    · rw [heap_set h.obj]; simp [DObj]
    · rw [heap_set (heap_set h.obj _)]; simp [DObj, DS.calm, none0]
  have HX := Lib.hid X
  have f4 := DObj.fr h.obj 4
  have f5 := DObj.fr h.obj 5
  have c4 := DObj.c4 h.obj
  have c5 := DObj.c5 h.obj
  clear h X
  go_enter Tryz.func111, Tryz.ntmps111
  go_wp2
  go_end0
  exact ⟨rfl, HX.out⟩

theorem lastStep_at (h : DAt b g cap m B a s cur D w) (ha : a = s.armZ) (hk : s.armed ≤ 9223372036854775807) (hm : s.made < 1099511627776) :
    Calls Tryz.prog 79 #[.pointer (some ⟨b, 0, none⟩)] w fun e w' => e = .returned (.bool (s.armed == 1)) ∧ DAt b g cap m B a s.tick cur D w' ∧ Stir (· = b) w w' := by
  have c3 := DObj.c3 h.obj
  have f3 := DObj.fr h.obj 3
  have e1 : (((s.made : Int) + 1) == a) = (s.armed == 1) := by
    have := DS.armZ_is hk hm
    rw [← ha] at this
    by_cases e : s.armed = 1
    · rw [beq_iff_eq.2 e, beq_iff_eq.2 (this.2 e)]
    · rw [beq_eq_false_iff_ne.2 e, beq_eq_false_iff_ne.2 (fun x => e (this.1 x))]
  have X : DAt b g cap m B a s.tick cur D (w.setCell ⟨b, 3, none⟩ (.int .i64 ((s.made : Int) + 1))) ∧ Stir (· = b) w (w.setCell ⟨b, 3, none⟩ (.int .i64 ((s.made : Int) + 1))) := by
    refine ⟨DAt.cell (s' := s.tick) (a' := a) (B' := B) h 3 _ rfl rfl h.size h.bads ?_, (Stir.refl (· = b) w).set (.inl rfl) _⟩
    rw [heap_set h.obj]
    simp [DObj, DS.tick]
  have HX := Lib.hid X
  have E1 := Lib.hid e1
  have c3' : ∀ x : Value, (w.setCell ⟨b, 3, none⟩ x).cell? ⟨b, 3, none⟩ = some x := fun x => by
    have := heap_set h.obj (i := 3) x
    simp [World.cell?, this]
  have c4' : ∀ x : Value, (w.setCell ⟨b, 3, none⟩ x).cell? ⟨b, 4, none⟩ = some (.int .i64 a) := fun x => by
    have := heap_set h.obj (i := 3) x
    simp [World.cell?, this]
  generalize hM : s.made = M at *
  clear h X hk e1 ha
  go_enter Tryz.func79, Tryz.ntmps79
  go_wp2
  go_region
  all_goals (go_wp2; go_ret; exact ⟨ret_bool E1.out, HX.out.1.drewN 1, HX.out.2.drewN 1⟩)
end
end Go.Proofs.YtmloljjllmmkoaaGreat

namespace Go.Proofs.YtmloljjllmmkoaaGreat
open Go.RowKit Go Go.Maps SM

/-- some loose sectors stay; none is loose then -/
def DS.settledBy (s : DS) (f : Nat → Bool) : DS := { s with stay := laid f s.loose s.stay, loose := [] }
/-- what stays while some keys are still to come -/
def part (f : Nat → Bool) (l : List (Int × ByteArray)) (left : Lit → Bool) (st : List ByteArray) : List ByteArray :=
  st.mapIdx fun k b => match seek (k : Int) l 0 with
    | some z => if !left (lit k) && f z.1 then z.2 else b
    | none => b
theorem length_part (f : Nat → Bool) (l : List (Int × ByteArray)) (left : Lit → Bool) (st : List ByteArray) : (part f l left st).length = st.length := by simp [part]
theorem get_part (f : Nat → Bool) (l : List (Int × ByteArray)) (left : Lit → Bool) (st : List ByteArray) (k : Nat) (h : k < st.length) :
    (part f l left st)[k]'(by rw [length_part]; exact h) = match seek (k : Int) l 0 with
      | some z => if !left (lit k) && f z.1 then z.2 else st[k]
      | none => st[k] := by simp [part]
theorem part_start {D : DataW Unit} {l : List (Int × ByteArray)} (h : Reads D l) (f : Nat → Bool) (st : List ByteArray) : part f l (Maps.has D) st = st := by
  apply List.ext_getElem (length_part _ _ _ _)
  intro k h1 h2
  rw [get_part _ _ _ _ _ h2, h.has]
  cases seek (k : Int) l 0 <;> rfl
theorem part_end {left : Lit → Bool} (h : ∀ kl, left kl = false) (f : Nat → Bool) (l : List (Int × ByteArray)) (st : List ByteArray) : part f l left st = laid f l st := by
  apply List.ext_getElem (by rw [length_part, length_laid])
  intro k h1 h2
  have hk : k < st.length := by rw [length_part] at h1; exact h1
  rw [get_part _ _ _ _ _ hk, get_laid _ _ _ _ hk, h]
  rfl
theorem part_step {l : List (Int × ByteArray)} {x : Int} {p : Nat} {y : ByteArray} (hs : seek x l 0 = some (p, y)) (h0 : 0 ≤ x) (f : Nat → Bool) (left : Lit → Bool) (st : List ByteArray) :
    part f l (fun z => left z && !z.sameKey (lit x)) st = if f p then (part f l left st).set x.toNat y else part f l left st := by
  have same : ∀ k : Nat, (k : Int) = x → (lit (k : Int)).sameKey (lit x) = true := fun k e => by rw [e]; exact WideAt.sameKey_self (show WideAt.IsKeyLit (.int .i64 x) from trivial)
  have other : ∀ k : Nat, (k : Int) ≠ x → (lit (k : Int)).sameKey (lit x) = false := fun k e => sameKey_ne (lit_ne e)
  by_cases hf : f p
  · rw [if_pos hf]
    apply List.ext_getElem (by simp [length_part])
    intro k h1 h2
    have hk : k < st.length := by rw [length_part] at h1; exact h1
    rw [get_part _ _ _ _ _ hk, List.getElem_set, get_part _ _ _ _ _ hk]
    by_cases e : (k : Int) = x
    · rw [if_pos (by omega), same k e, e, hs]
      simp [hf]
    · rw [if_neg (by omega), other k e]
      simp
  · rw [if_neg hf]
    apply List.ext_getElem (by rw [length_part, length_part])
    intro k h1 h2
    have hk : k < st.length := by rw [length_part] at h1; exact h1
    rw [get_part _ _ _ _ _ hk, get_part _ _ _ _ _ hk]
    by_cases e : (k : Int) = x
    · rw [same k e, e, hs]
      simp [hf]
    · rw [other k e]
      simp
theorem part_size {f : Nat → Bool} {l : List (Int × ByteArray)} {left : Lit → Bool} {st : List ByteArray} (h1 : ∀ b ∈ st, b.size = 64) (h2 : ∀ q ∈ l, q.2.size = 64) : ∀ b ∈ part f l left st, b.size = 64 := by
  intro b hb
  obtain ⟨k, hk, rfl⟩ := List.mem_iff_getElem.1 hb
  have hk' : k < st.length := by rw [length_part] at hk; exact hk
  rw [get_part _ _ _ _ _ hk']
  cases hs : seek (k : Int) l 0 with
  | none => exact h1 _ (List.getElem_mem _)
  | some z =>
    obtain ⟨i, hi, _, e2⟩ := seek_some hs
    simp only
    split
    · exact h2 (k, z.2) (e2 ▸ List.getElem_mem _)
    · exact h1 _ (List.getElem_mem _)

/-- a step of the loop over loose sectors -/
theorem wpList_next_loose (w : World) {ops : Array Oper} {rest : List Oper} {o : Oper} {a : Act} {Q : Exit → Act → World → Prop} (hg : o.guard = none) (it : Operand) (hop : o.op = Op.next it false)
    (b r n : Nat) (D : DataW Unit) (l : List (Int × ByteArray)) (hD : Reads D l) (left : Lit → Bool) (cnt : Nat) (hit : a.eval it = .pointer (some ⟨r, 0, none⟩)) (h : w.ranges Tryz.prog 3 wrElem b r n D left cnt)
    (hDone : cnt = 0 → (∀ kl, left kl = false) → wpList Tryz.prog ops Q rest (a.put o.dst (.tuple #[.bool false])) w)
    (hMore : ∀ (x : Int) (p : Nat) (y : ByteArray) (w' : World) (cnt' : Nat), seek x l 0 = some (p, y) → left (lit x) = true → w'.ranges Tryz.prog 3 wrElem b r n D (fun z => left z && !z.sameKey (lit x)) cnt' → cnt' < cnt →
      w.grownBy w' (some r) → w'.heap.size = w.heap.size → (Instr.entry (.pointer (some ⟨r, 0, none⟩))).run Tryz.prog w' = .ok (.tuple #[.int .i64 x, .agg #[.int .i64 p, .string y]]) w' → wpList Tryz.prog ops Q rest (a.put o.dst (.tuple #[.bool true, .int .i64 x, .agg #[.int .i64 p, .string y]])) w') :
    wpList Tryz.prog ops Q (o :: rest) a w :=
  wpList_next_ranges w hg it hop 3 lawM wrElem (Value.int .i64) (fun z : Int × ByteArray => wrV z.1 z.2)
    (fun key kl hkey => by obtain ⟨x, rfl, _⟩ := Maps.keyOf_int_inv Tryz.underlying3 hkey; exact ⟨x, rfl⟩) (fun v y hv => by obtain ⟨p, x, rfl, _⟩ := wrElem_inv hv; exact ⟨(p, x), rfl⟩)
    b r n D left cnt hit h hDone (fun x c kl y w' cnt' hkey hlk hv hat hrg hlt hgr hsz hen => by
      obtain ⟨x', ex, rfl, hwx⟩ := Maps.keyOf_int_inv Tryz.underlying3 hkey
      cases ex
      obtain ⟨d, ps⟩ := y
      cases hs : seek x l 0 with
      | none =>
        have e1 := fun z => (hD x z).symm.trans (hat z)
        simp only [hs] at e1
        have := (e1 .nil).trans (e1 (.lit (.bool true))).symm
        cases this
      | some z =>
        have e1 := (hD x .nil).symm.trans (hat .nil)
        simp only [hs] at e1
        subst e1
        have e2 := wrElem_is hv
        simp only [wrV, Value.agg.injEq] at e2
        have e3 := congrArg Array.toList e2
        simp only [List.cons.injEq, Value.int.injEq, Value.string.injEq, true_and, and_true] at e3
        obtain ⟨c1, c2⟩ := c
        simp only at e3
        obtain ⟨rfl, rfl⟩ := e3
        exact hMore x z.1 z.2 w' cnt' hs hlk hrg hlt hgr hsz hen)

/-- in a round of settle's loop -/
structure Round (b g cap m : Nat) (B : ByteArray) (a : Int) (s : DS) (D : DataW Unit) (f : Nat → Bool) (w wr : World) (r : Nat) (left : Lit → Bool) (cnt : Nat) : Prop where
  rng : wr.ranges Tryz.prog 3 wrElem m r s.loose.length D left cnt
  obj : wr.heap[b]? = some (DObj g cap m B a s)
  row : ∃ cur, RowIs g cap (flat (part f s.loose left s.stay)) wr cur
  stir : Stir (· = g) w wr
  new : r = w.heap.size
section
variable {b g cap m : Nat} {B : ByteArray} {a : Int} {s : DS} {cur : Array Value} {D : DataW Unit} {f : Nat → Bool} {w wr w1 : World} {r cnt cnt1 : Nat} {left : Lit → Bool}
theorem Round.start (h : DAt b g cap m B a s cur D w) (hrg : wr.ranges Tryz.prog 3 wrElem m w.heap.size s.loose.length D (Maps.has D) (Maps.size D)) (hB : Below w.heap.size w wr) :
    Round b g cap m B a s D f w wr w.heap.size (Maps.has D) (Maps.size D) :=
  ⟨hrg, keeps_of hB h.obj, ⟨cur, by rw [part_start h.loose.reads]; exact h.row.stay (Stir.of_below (F := fun _ => False) hB) (fun h => h)⟩, Stir.of_below hB, rfl⟩
end

/-- an entry has come -/
structure Came (b g cap m : Nat) (B : ByteArray) (a : Int) (s : DS) (D : DataW Unit) (f : Nat → Bool) (w wr : World) (r : Nat) (left : Lit → Bool) (cnt : Nat) (x : Int) (p : Nat) (y : ByteArray) : Prop where
  rng : wr.ranges Tryz.prog 3 wrElem m r s.loose.length D (fun z => left z && !z.sameKey (lit x)) cnt
  obj : wr.heap[b]? = some (DObj g cap m B a s)
  row : ∃ cur, RowIs g cap (flat (part f s.loose left s.stay)) wr cur
  stir : Stir (· = g) w wr
  new : r = w.heap.size
  here : seek x s.loose 0 = some (p, y)
section
variable {b g cap m : Nat} {B : ByteArray} {a : Int} {s : DS} {cur : Array Value} {D : DataW Unit} {f : Nat → Bool} {w wr w1 w2 : World} {r cnt cnt1 : Nat} {left : Lit → Bool} {x : Int} {p : Nat} {y : ByteArray}
theorem Round.gr (h : Round b g cap m B a s D f w wr r left cnt) (h0 : DAt b g cap m B a s cur D w) : g ≠ r ∧ b ≠ r ∧ m ≠ r := by
  have h1 := h0.lt (.inl rfl)
  have h2 := h0.lt (.inr (.inl rfl))
  have h3 := h0.lt (.inr (.inr rfl))
  have h4 := h.new
  omega
theorem Round.came (h : Round b g cap m B a s D f w wr r left cnt) (h0 : DAt b g cap m B a s cur D w) (hs : seek x s.loose 0 = some (p, y)) (hrg : w1.ranges Tryz.prog 3 wrElem m r s.loose.length D (fun z => left z && !z.sameKey (lit x)) cnt1)
    (hg : wr.grownBy w1 (some r)) : Came b g cap m B a s D f w w1 r left cnt1 x p y := by
  obtain ⟨n1, n2, n3⟩ := h.gr h0
  obtain ⟨cur', hrow⟩ := h.row
  have S : Stir (· = r) wr w1 := ⟨hg.os, hg.tape, hg.output, hg.size, fun k hk hn => hg.block k hk (fun e => hn (Option.some.inj e))⟩
  exact ⟨hrg, S.keep h.obj n2, ⟨cur', hrow.stay S n1⟩, h.stir.trans S (fun i hi => .inr (by rw [hi, h.new]; exact Nat.le_refl _)), h.new, hs⟩
theorem Came.below (h : Came b g cap m B a s D f w w1 r left cnt x p y) (k : Below w1.heap.size w1 w2) : Came b g cap m B a s D f w w2 r left cnt x p y := by
  obtain ⟨cur', hrow⟩ := h.row
  exact ⟨h.rng.kept (grown_of_below k) (by simp) (by simp), keeps_of k h.obj, ⟨cur', hrow.stay (Stir.of_below (F := fun _ => False) k) (fun h => h)⟩, h.stir.and_below k, h.new, h.here⟩
theorem Came.facts (h : Came b g cap m B a s D f w w1 r left cnt x p y) (hk : s.Ok) : 0 ≤ x ∧ x < s.stay.length ∧ y.size = 64 ∧ p < s.loose.length := by
  obtain ⟨i, hi, e1, e2⟩ := seek_some h.here
  obtain ⟨k1, k2, k3⟩ := hk.key (x, y) (e2 ▸ List.getElem_mem _)
  exact ⟨k1, k2, k3, by simp at e1; omega⟩
theorem Came.skip (h : Came b g cap m B a s D f w w1 r left cnt x p y) (hk : s.Ok) (hf : f p = false) : Round b g cap m B a s D f w w1 r (fun z => left z && !z.sameKey (lit x)) cnt := by
  refine ⟨h.rng, h.obj, ?_, h.stir, h.new⟩
  rw [part_step h.here (h.facts hk).1, hf]
  exact h.row
theorem Came.copy (h : Came b g cap m B a s D f w w1 r left cnt x p y) (h0 : DAt b g cap m B a s cur D w) (hk : s.Ok) (hf : f p = true) {cu : Array Value} (hr : RowIs g cap (flat (part f s.loose left s.stay)) w1 cu) :
    Round b g cap m B a s D f w (w1.setRow g (cu.toList.take (64 * x.toNat) ++ Lib.byteCells y.data.toList ++ cu.toList.drop (64 * x.toNat + y.size)).toArray) r (fun z => left z && !z.sameKey (lit x)) cnt := by
  obtain ⟨k1, k2, k3, _⟩ := h.facts hk
  have hsz := part_size (f := f) (l := s.loose) (left := left) (st := s.stay) hk.sz (fun q hq => (hk.key q hq).2.2)
  have hx : x.toNat < (part f s.loose left s.stay).length := by rw [length_part]; omega
  have hc := hr.copied (o := 64 * x.toNat) (s := y) (by rw [length_flat hsz]; omega)
  have hgg : w1.grownBy (w1.setRow g (cu.toList.take (64 * x.toNat) ++ Lib.byteCells y.data.toList ++ cu.toList.drop (64 * x.toNat + y.size)).toArray) (some g) :=
    ⟨rfl, rfl, rfl, by simp [World.setRow], fun k _ hk => setRow_other _ _ _ _ (fun e => hk (by rw [e]))⟩
  have S : Stir (· = g) w1 (w1.setRow g (cu.toList.take (64 * x.toNat) ++ Lib.byteCells y.data.toList ++ cu.toList.drop (64 * x.toNat + y.size)).toArray) :=
    ⟨rfl, rfl, rfl, hgg.size, fun k hk hn => hgg.block k hk (fun e => hn (Option.some.inj e))⟩
  have h1 := h0.lt (.inr (.inl rfl))
  refine ⟨h.rng.kept hgg (fun e => h0.gm (Option.some.inj e).symm) (fun e => by have := Option.some.inj e; have := h.new; omega), S.keep h.obj h0.bg, ⟨(cu.toList.take (64 * x.toNat) ++ Lib.byteCells y.data.toList ++ cu.toList.drop (64 * x.toNat + y.size)).toArray, ?_⟩, h.stir.trans S (fun i hi => .inl hi), h.new⟩
  rw [part_step h.here k1, hf, if_pos rfl, flat_set hsz _ hx]
  rw [k3] at hc
  rw [k3]
  exact hc
theorem Round.cleared (h : Round b g cap m B a s D f w wr r left cnt) (h0 : DAt b g cap m B a s cur D w) (hl : ∀ kl, left kl = false) (hown : w2.ownsMap Tryz.prog 3 wrElem m 0 (.map [])) (ht : wr.mapTurned w2 m) :
    (∃ cur' D', DAt b g cap m B a (s.settledBy f) cur' D' w2) ∧ Stir (fun k => k = g ∨ k = m) w w2 := by
  obtain ⟨cur', hrow⟩ := h.row
  have S : Stir (fun k => k = g ∨ k = m) w w2 := (h.stir.weaken (fun k e => .inl e)).turned (.inl (.inr rfl)) ht
  have S1 : Stir (· = m) wr w2 := (Stir.refl (· = m) wr).turned (.inl rfl) ht
  rw [part_end hl] at hrow
  have e1 : DObj g cap m B a (s.settledBy f) = DObj g cap m B a s := by simp [DObj, DS.settledBy, length_laid]
  exact ⟨⟨cur', .map [], by rw [e1]; exact S1.keep h.obj h0.bm, hrow.stay S1 h0.gm, ⟨hown, rfl, reads_nil⟩, h0.size, h0.bads⟩, S⟩
end

/-- the closures -/
def allP : Nat → Bool := fun _ => true
theorem yes_any (p : Nat) (w : World) : Calls Tryz.prog 116 #[.int .i64 p] w fun e w' => e = .returned (.bool (allP p)) ∧ w = w' := by
  show Calls Tryz.prog 116 #[.int .i64 p] w fun e w' => e = .returned (.bool true) ∧ w = w'
  go_enter Tryz.func116, Tryz.ntmps116
  go_wp2
  go_ret
  exact ⟨rfl, rfl⟩
theorem kept_any {keep : ByteArray} (hk : keep.size ≤ 140737488355328) {x : Nat} (p : Nat) (hp : p ≤ 1099511627776) (w : World) (hx : w.cell? ⟨x, 0, none⟩ = some (.string keep)) :
    Calls Tryz.prog 110 #[.int .i64 p, .pointer (some ⟨x, 0, none⟩)] w fun e w' => e = .returned (.bool (keepsAt keep p)) ∧ w = w' := by
  have C := fun w => has_any keep p w hk (by omega) (by omega)
  unfold keepsAt
  go_enter Tryz.func110, Tryz.ntmps110
  go_wp2_with fail
  refine (C _).mono ?_
  rintro e w' ⟨rfl, rfl⟩
  go_wp2
  go_ret
  exact ⟨rfl, rfl⟩

end Go.Proofs.YtmloljjllmmkoaaGreat

namespace Go.Proofs.YtmloljjllmmkoaaGreat
open Go.RowKit Go Go.Maps SM

section
variable {b g cap m : Nat} {B : ByteArray} {a : Int} {s : DS} {cur : Array Value} {D : DataW Unit} {w : World}

set_option maxRecDepth 100000 in
set_option maxHeartbeats 1000000 in
theorem settle_all (h : DAt b g cap m B a s cur D w) (hk : s.Ok) (_hf : s.loose.length ≤ 1099511627776)  :
    Calls Tryz.prog 109 #[.pointer (some ⟨b, 0, none⟩), .func (.func 116) #[] #[]] w fun e w' => e = .returned (.tuple #[]) ∧ (∃ cur' D', DAt b g cap m B a (s.settledBy allP) cur' D' w') ∧ Stir (fun k => k = g ∨ k = m) w w' := by
  have c1 := DObj.c1 h.obj
  have hown := h.loose.own
  have hbl := h.loose.own.lt
  have HH := Lib.hid h
  clear h
  go_enter Tryz.func109, Tryz.ntmps109
  go_wp2_with (at_range; refine wpList_range_own _ rfl _ 151 rfl 3 156 lawM Tryz.underlying151 _ m s.loose.length D rfl hown ?_; intro w0 hrg0 hg0 hs0)
  go_frame
  have hB0 : Below w.heap.size w w0 := ⟨hg0.os, hg0.tape, hg0.output, hg0.size, fun k hk => hg0.block k hk (by simp)⟩
  have R0 : Round b g cap m B a s D allP w w0 w.heap.size (Maps.has D) (Maps.size D) := Round.start HH.out hrg0 hB0
  have HR0 := Lib.hid R0
  clear R0 hrg0 hg0 hs0 hB0 hown c1
  go_loopw [4, 5] (fun _ _ wr => ∃ left cnt, Round b g cap m B a s D allP w wr w.heap.size left cnt) (fun _ _ wr => wr.rangeLeft m w.heap.size)
  case atStart => exact ⟨_, _, HR0.out⟩
  case round =>
    obtain ⟨left, cnt, hr⟩ := hrel
    have hrg := hr.rng
    have HR := Lib.hid hr
    have hreads := HH.out.loose.reads
    clear hr HR0
    go_wp2_with (at_next; refine wpList_next_loose _ rfl _ rfl m w.heap.size s.loose.length D s.loose hreads _ _ rfl hrg ?_ ?_)
    · intro hc0 hl0
      have c1 := DObj.c1 HR.out.obj
      have hown := hrg.owns
      clear hrg
      go_wp2_with (refine wpList_clear_own _ rfl _ 151 rfl 3 156 Tryz.underlying151 _ m s.loose.length D rfl hown ?_; intro w2 hown2 hturn2)
      go_end0
      exact ⟨rfl, HR.out.cleared HH.out hl0 hown2 hturn2⟩
    · intro n p y w1 cnt1 hsk hlx hrg1 hlt hg1 hs1 hen
      have HR1 := Lib.hid (HR.out.came HH.out hsk hrg1 hg1)
      have HL1 := Lib.hid hlt
      have HM := Lib.hid hrg
      clear hrg hrg1 hg1 hs1 hlt
      obtain ⟨f1, f2, f3, f4⟩ := HR1.out.facts hk
      obtain ⟨k, rfl⟩ := Int.eq_ofNat_of_zero_le f1
      obtain ⟨w2, hw2⟩ : ∃ w2, w1.alloc (.cells #[.int .i64 p, .string y] 156) = w2 := ⟨_, rfl⟩
      have hB2 : Below w1.heap.size w1 w2 := by rw [← hw2]; exact (Below.refl _ w1).alloc (Nat.le_refl _) _
      have q0 : w2.heap[w1.heap.size]? = some (.cells #[.int .i64 p, .string y] 156 (0, 0)) := by rw [← hw2]; exact heap_alloc_new w1 _
      have p0 : w2.cell? ⟨w1.heap.size, 0, none⟩ = some (.int .i64 p) := by simp [World.cell?, q0]
      have p1 : w2.cell? ⟨w1.heap.size, 1, none⟩ = some (.string y) := by simp [World.cell?, q0]
      have HR2 := Lib.hid (HR1.out.below hB2)
      have C : ∀ W, W = w2 → Calls Tryz.prog 116 #[.int .i64 p] W fun e w' => e = .returned (.bool (allP p)) ∧ W = w' := fun W e => by subst e; exact yes_any p _
      have HM1 := Lib.hid (show w.heap.size ≤ w1.heap.size from HR1.out.stir.size)
      clear HR1 q0 hB2 hbl HR
      cases hfp : allP p with
      | false =>
        rw [hfp] at C
        have HX := Lib.hid (HR2.out.skip hk hfp)
        have hm2 := HX.out.rng.left_eq
        have hm0 := HM.out.left_eq
        have HL := Lib.hid (show w2.rangeLeft m w.heap.size < wr.rangeLeft m w.heap.size by rw [hm2, hm0]; exact HL1.out)
        clear hm2 hm0 hfp
        go_wp2_with fail
        refine (C _ rfl).mono ?_
        rintro e w3 ⟨rfl, rfl⟩
        go_wp2
        go_roundw
        case rel => exact ⟨_, _, HX.out⟩
        case measure => exact HL.out
      | true =>
        rw [hfp] at C
        obtain ⟨cu, hrow⟩ := HR2.out.row
        have hX := HR2.out.copy HH.out hk hfp hrow
        rw [Int.toNat_natCast, f3] at hX
        have hinfo : (Tryz.prog.info? 5).map (·.size) = some 1 := by kernel_rfl
        have hlf : 64 * s.stay.length ≤ cu.size := by rw [hrow.size]; exact HH.out.cap_le hk
        have hlen := length_flat (part_size (f := allP) (l := s.loose) (left := left) (st := s.stay) hk.sz (fun q hq => (hk.key q hq).2.2))
        rw [length_part] at hlen
        obtain ⟨f0, hf0, hfr⟩ := hrow.at_
        have hcp := fun ty => run_copy_free (P := Tryz.prog) w2.drew 85 9 ty 5 g (64 * k) 64 (cap - 64 * k) y cu 5 f0 _ Tryz.underlying85 hinfo hf0 hfr (by omega) (by omega) (by rw [hlen]; omega)
        rw [f3] at hcp
        obtain ⟨Y, hY⟩ : ∃ Y, (cu.toList.take (64 * k) ++ Lib.byteCells y.data.toList ++ cu.toList.drop (64 * k + 64)).toArray = Y := ⟨_, rfl⟩
        rw [hY] at hcp hX
        have S := fun W (e : W.heap = w2.heap) => sector_obj (w := W) (by rw [e]; exact HR2.out.obj) hk (HH.out.cap_le hk) HH.out.row.max k (by omega)
        have hgl := HH.out.lt (.inr (.inl rfl))
        have hwl := HR2.out.stir.size
        have p2 : (w2.drew.setRow g Y).cell? ⟨w1.heap.size, 1, none⟩ = some (.string y) := by
          rw [World.cell?_of_block (w := w2) (setRow_other w2.drew g w1.heap.size Y (by have := HM1.out; omega))]
          exact p1
        have hX2 : Round b g cap m B a s D allP w (w2.drew.setRow g Y) w.heap.size (fun z => left z && !z.sameKey (lit (k : Int))) cnt1 := ⟨hX.rng, hX.obj, (by obtain ⟨c2, r⟩ := hX.row; exact ⟨c2, r.at_, r.size, r.max, r.le, r.is⟩), ⟨hX.stir.os, hX.stir.tape, hX.stir.output, hX.stir.size, hX.stir.block⟩, hX.new⟩
        have HX := Lib.hid hX2
        clear hX hX2 hgl hwl hY hrow hlf hfp hlen hf0 hfr
        go_wp2_with fail
        refine (C _ rfl).mono ?_
        rintro e w3 ⟨rfl, rfl⟩
        go_wp2_with fail
        go_region_held3 (fun w' => w'.cell? ⟨w1.heap.size, 1, none⟩ = some (.string y)) (first | exact p1 | exact p2) (first | (go_at_call 128; refine (S w2.drew rfl).mono ?_; rintro e w3 ⟨rfl, rfl⟩))
        all_goals (
          have hm2 := HX.out.rng.left_eq
          have hm0 := HM.out.left_eq
          have HL := Lib.hid (show (w2.drew.setRow g Y).rangeLeft m w.heap.size < wr.rangeLeft m w.heap.size by rw [hm2, hm0]; exact HL1.out)
          clear hm2 hm0 p1 p2 hcp
          go_wp2
          go_roundw
          case rel => exact ⟨_, _, HX.out⟩
          case measure => exact HL.out)
end
end Go.Proofs.YtmloljjllmmkoaaGreat

namespace Go.Proofs.YtmloljjllmmkoaaGreat
open Go.RowKit Go Go.Maps SM

section
variable {b g cap m : Nat} {B : ByteArray} {a : Int} {s : DS} {cur : Array Value} {D : DataW Unit} {w : World}

set_option maxRecDepth 100000 in
set_option maxHeartbeats 1000000 in
theorem settle_keep (h : DAt b g cap m B a s cur D w) (hk : s.Ok) (_hf : s.loose.length ≤ 1099511627776) {x : Nat} {keep : ByteArray} (hkp : keep.size ≤ 140737488355328) (hx : w.heap[x]? = some (.cells #[.string keep] 9 (0, 0))) :
    Calls Tryz.prog 109 #[.pointer (some ⟨b, 0, none⟩), .func (.func 110) #[] #[.pointer (some ⟨x, 0, none⟩)]] w fun e w' => e = .returned (.tuple #[]) ∧ (∃ cur' D', DAt b g cap m B a (s.settledBy (keepsAt keep)) cur' D' w') ∧ Stir (fun k => k = g ∨ k = m) w w' := by
  have c1 := DObj.c1 h.obj
  have hown := h.loose.own
  have hbl := h.loose.own.lt
  have HH := Lib.hid h
  clear h
  go_enter Tryz.func109, Tryz.ntmps109
  go_wp2_with (at_range; refine wpList_range_own _ rfl _ 151 rfl 3 156 lawM Tryz.underlying151 _ m s.loose.length D rfl hown ?_; intro w0 hrg0 hg0 hs0)
  go_frame
  have hB0 : Below w.heap.size w w0 := ⟨hg0.os, hg0.tape, hg0.output, hg0.size, fun k hk => hg0.block k hk (by simp)⟩
  have R0 : Round b g cap m B a s D (keepsAt keep) w w0 w.heap.size (Maps.has D) (Maps.size D) := Round.start HH.out hrg0 hB0
  have HR0 := Lib.hid R0
  clear R0 hrg0 hg0 hs0 hB0 hown c1
  go_loopw [4, 5] (fun _ _ wr => ∃ left cnt, Round b g cap m B a s D (keepsAt keep) w wr w.heap.size left cnt) (fun _ _ wr => wr.rangeLeft m w.heap.size)
  case atStart => exact ⟨_, _, HR0.out⟩
  case round =>
    obtain ⟨left, cnt, hr⟩ := hrel
    have hrg := hr.rng
    have HR := Lib.hid hr
    have hreads := HH.out.loose.reads
    clear hr HR0
    go_wp2_with (at_next; refine wpList_next_loose _ rfl _ rfl m w.heap.size s.loose.length D s.loose hreads _ _ rfl hrg ?_ ?_)
    · intro hc0 hl0
      have c1 := DObj.c1 HR.out.obj
      have hown := hrg.owns
      clear hrg
      go_wp2_with (refine wpList_clear_own _ rfl _ 151 rfl 3 156 Tryz.underlying151 _ m s.loose.length D rfl hown ?_; intro w2 hown2 hturn2)
      go_end0
      exact ⟨rfl, HR.out.cleared HH.out hl0 hown2 hturn2⟩
    · intro n p y w1 cnt1 hsk hlx hrg1 hlt hg1 hs1 hen
      have HR1 := Lib.hid (HR.out.came HH.out hsk hrg1 hg1)
      have HL1 := Lib.hid hlt
      have HM := Lib.hid hrg
      clear hrg hrg1 hg1 hs1 hlt
      obtain ⟨f1, f2, f3, f4⟩ := HR1.out.facts hk
      obtain ⟨k, rfl⟩ := Int.eq_ofNat_of_zero_le f1
      obtain ⟨w2, hw2⟩ : ∃ w2, w1.alloc (.cells #[.int .i64 p, .string y] 156) = w2 := ⟨_, rfl⟩
      have hB2 : Below w1.heap.size w1 w2 := by rw [← hw2]; exact (Below.refl _ w1).alloc (Nat.le_refl _) _
      have q0 : w2.heap[w1.heap.size]? = some (.cells #[.int .i64 p, .string y] 156 (0, 0)) := by rw [← hw2]; exact heap_alloc_new w1 _
      have p0 : w2.cell? ⟨w1.heap.size, 0, none⟩ = some (.int .i64 p) := by simp [World.cell?, q0]
      have p1 : w2.cell? ⟨w1.heap.size, 1, none⟩ = some (.string y) := by simp [World.cell?, q0]
      have HR2 := Lib.hid (HR1.out.below hB2)
      have hxc : w2.cell? ⟨x, 0, none⟩ = some (.string keep) := by have := HR2.out.stir.keep hx (by obtain ⟨f0, h0, _⟩ := HH.out.row.at_; exact ne_of_heap hx h0 (by simp)); simp [World.cell?, this]
      have C : ∀ W, W = w2 → Calls Tryz.prog 110 #[.int .i64 p, .pointer (some ⟨x, 0, none⟩)] W fun e w' => e = .returned (.bool ((keepsAt keep) p)) ∧ W = w' := fun W e => by subst e; exact kept_any hkp p (by omega) _ hxc
      have HM1 := Lib.hid (show w.heap.size ≤ w1.heap.size from HR1.out.stir.size)
      clear HR1 q0 hB2 hbl HR
      cases hfp : (keepsAt keep) p with
      | false =>
        rw [hfp] at C
        have HX := Lib.hid (HR2.out.skip hk hfp)
        have hm2 := HX.out.rng.left_eq
        have hm0 := HM.out.left_eq
        have HL := Lib.hid (show w2.rangeLeft m w.heap.size < wr.rangeLeft m w.heap.size by rw [hm2, hm0]; exact HL1.out)
        clear hm2 hm0 hfp
        go_wp2_with fail
        refine (C _ rfl).mono ?_
        rintro e w3 ⟨rfl, rfl⟩
        go_wp2
        go_roundw
        case rel => exact ⟨_, _, HX.out⟩
        case measure => exact HL.out
      | true =>
        rw [hfp] at C
        obtain ⟨cu, hrow⟩ := HR2.out.row
        have hX := HR2.out.copy HH.out hk hfp hrow
        rw [Int.toNat_natCast, f3] at hX
        have hinfo : (Tryz.prog.info? 5).map (·.size) = some 1 := by kernel_rfl
        have hlf : 64 * s.stay.length ≤ cu.size := by rw [hrow.size]; exact HH.out.cap_le hk
        have hlen := length_flat (part_size (f := (keepsAt keep)) (l := s.loose) (left := left) (st := s.stay) hk.sz (fun q hq => (hk.key q hq).2.2))
        rw [length_part] at hlen
        obtain ⟨f0, hf0, hfr⟩ := hrow.at_
        have hcp := fun ty => run_copy_free (P := Tryz.prog) w2.drew 85 9 ty 5 g (64 * k) 64 (cap - 64 * k) y cu 5 f0 _ Tryz.underlying85 hinfo hf0 hfr (by omega) (by omega) (by rw [hlen]; omega)
        rw [f3] at hcp
        obtain ⟨Y, hY⟩ : ∃ Y, (cu.toList.take (64 * k) ++ Lib.byteCells y.data.toList ++ cu.toList.drop (64 * k + 64)).toArray = Y := ⟨_, rfl⟩
        rw [hY] at hcp hX
        have S := fun W (e : W.heap = w2.heap) => sector_obj (w := W) (by rw [e]; exact HR2.out.obj) hk (HH.out.cap_le hk) HH.out.row.max k (by omega)
        have hgl := HH.out.lt (.inr (.inl rfl))
        have hwl := HR2.out.stir.size
        have p2 : (w2.drew.setRow g Y).cell? ⟨w1.heap.size, 1, none⟩ = some (.string y) := by
          rw [World.cell?_of_block (w := w2) (setRow_other w2.drew g w1.heap.size Y (by have := HM1.out; omega))]
          exact p1
        have hX2 : Round b g cap m B a s D (keepsAt keep) w (w2.drew.setRow g Y) w.heap.size (fun z => left z && !z.sameKey (lit (k : Int))) cnt1 := ⟨hX.rng, hX.obj, (by obtain ⟨c2, r⟩ := hX.row; exact ⟨c2, r.at_, r.size, r.max, r.le, r.is⟩), ⟨hX.stir.os, hX.stir.tape, hX.stir.output, hX.stir.size, hX.stir.block⟩, hX.new⟩
        have HX := Lib.hid hX2
        clear hX hX2 hgl hwl hY hrow hlf hfp hlen hf0 hfr
        go_wp2_with fail
        refine (C _ rfl).mono ?_
        rintro e w3 ⟨rfl, rfl⟩
        go_wp2_with fail
        go_region_held3 (fun w' => w'.cell? ⟨w1.heap.size, 1, none⟩ = some (.string y)) (first | exact p1 | exact p2) (first | (go_at_call 128; refine (S w2.drew rfl).mono ?_; rintro e w3 ⟨rfl, rfl⟩))
        all_goals (
          have hm2 := HX.out.rng.left_eq
          have hm0 := HM.out.left_eq
          have HL := Lib.hid (show (w2.drew.setRow g Y).rangeLeft m w.heap.size < wr.rangeLeft m w.heap.size by rw [hm2, hm0]; exact HL1.out)
          clear hm2 hm0 p1 p2 hcp
          go_wp2
          go_roundw
          case rel => exact ⟨_, _, HX.out⟩
          case measure => exact HL.out)
end
end Go.Proofs.YtmloljjllmmkoaaGreat

namespace Go.Proofs.YtmloljjllmmkoaaGreat
open Go.RowKit Go Go.Maps SM

section
variable {b g cap m : Nat} {B : ByteArray} {a : Int} {s : DS} {cur : Array Value} {D : DataW Unit} {w : World}

set_option maxRecDepth 100000 in
theorem fall_at (h : DAt b g cap m B a s cur D w) (hk : s.Ok) (hf : s.loose.length ≤ 1099511627776) {keep : ByteArray} (hkp : keep.size ≤ 140737488355328) :
    Calls Tryz.prog 80 #[.pointer (some ⟨b, 0, none⟩), .string keep] w fun e w' => e = .returned (.tuple #[]) ∧ (∃ cur' D', DAt b g cap m B 0 (s.goes keep) cur' D' w') ∧ Stir (Foot b g m) w w' := by
  have hB : Below w.heap.size w (w.alloc (.cells #[.string keep] 9)) := (Below.refl _ w).alloc (Nat.le_refl _) _
  have C := settle_keep (h.below hB) hk hf hkp (x := w.heap.size) (heap_alloc_new w _)
  have HB := Lib.hid hB
  clear hB h
  go_enter Tryz.func80, Tryz.ntmps80
  go_wp2_with fail
  refine C.mono ?_
  rintro e w1 ⟨rfl, ⟨cur1, D1, h1⟩, hs⟩
  have S1 : Stir (Foot b g m) w w1 := (Stir.of_below HB.out).trans hs (fun i hi => .inl (.inr hi))
  have f6 := DObj.fr h1.obj 6
  have c6 := DObj.c6 h1.obj
  have h2 : DAt b g cap m B a { s.settledBy (keepsAt keep) with dead := true } cur1 D1 (w1.setCell ⟨b, 6, none⟩ (.bool true)) :=
    DAt.cell (s' := { s.settledBy (keepsAt keep) with dead := true }) (a' := a) (B' := B) h1 6 _ rfl rfl h1.size h1.bads (by rw [heap_set h1.obj]; simp [DObj])
  have C2 := disarm_at h2
  have S2 := Lib.hid (S1.set (b := b) (i := 6) (.inl (.inl rfl)) (.bool true))
  clear h1 h2 hs S1 C HB
  go_wp2_with fail
  refine C2.mono ?_
  rintro e w3 ⟨rfl, h3, s3⟩
  have S3 := Lib.hid (S2.out.trans s3 (fun i hi => .inl (.inl hi)))
  have H3 := Lib.hid h3
  clear h3 s3
  go_wp2
  go_end0
  exact ⟨rfl, ⟨_, _, H3.out⟩, S3.out⟩

/-! ### Read -/
theorem DAt.look_ok (h : DAt b g cap m B a s cur D w) {n : Int} (hn : I64 n) :
    (Instr.lookup 151 (.map (some m)) (.int .i64 n) true).run Tryz.prog w = .ok (.tuple #[match seek n s.loose 0 with
      | some z => .agg #[.int .i64 z.1, .string z.2]
      | none => .agg #[.int .i64 0, .string none0], .bool (seek n s.loose 0).isSome]) w := by
  obtain ⟨v, ps, hrun, hv⟩ := h.loose.own.look_ok lawM Tryz.underlying151 (zeroM w) wrElem_zero (key_of hn)
  rw [hrun, h.loose.reads.has n]
  rw [h.loose.reads n] at hv
  cases hs : seek n s.loose 0 with
  | none =>
    rw [hs] at hv
    have := wrElem_is (z := (0, none0)) hv
    subst this
    rfl
  | some z =>
    rw [hs] at hv
    have := wrElem_is hv
    subst this
    rfl
theorem DAt.alloc (h : DAt b g cap m B a s cur D w) (o : Obj) : DAt b g cap m B a s cur D (w.alloc o) := h.below ((Below.refl _ w).alloc (Nat.le_refl _) o)

set_option maxRecDepth 100000 in
theorem read_at (h : DAt b g cap m B a s cur D w) (hk : s.Ok) (n : Int) (hn : I64 n) :
    Calls Tryz.prog 166 #[.pointer (some ⟨b, 0, none⟩), .int .i64 n] w fun e w' => e = .returned (.tuple #[.string (s.readS n), .int .i64 (s.readE n)]) ∧ Below w.heap.size w w' := by
  have C1 := find_at h hk n hn
  have C2 := isBad_at h n hn
  have hl := h.look_ok hn
  have c1 := DObj.c1 h.obj
  have hmay : s.may n = 0 → 0 ≤ n ∧ n < s.stay.length := fun e => (DS.may_ok e).2
  have HH := Lib.hid h
  unfold DS.readS DS.readE
  by_cases hm : s.may n = 0
  · rw [hm] at C1
    obtain ⟨h0, h1⟩ := hmay hm
    cases hb : s.bad n with
    | true =>
      rw [hb] at C2
      simp only [hm, ne_eq, not_true, if_false, if_true]
      clear h hl hm hmay c1
      go_enter Tryz.func166, Tryz.ntmps166
      go_wp2_with fail
      refine C1.mono ?_
      rintro e w' ⟨rfl, rfl⟩
      go_wp2_with fail
      refine C2.mono ?_
      rintro e w' ⟨rfl, rfl⟩
      go_wp2
      go_ret2
      exact ⟨rfl, Below.refl _ _⟩
    | false =>
      rw [hb] at C2
      simp only [hm, ne_eq, not_true, if_false, DS.look]
      cases hs : seek n s.loose 0 with
      | some z =>
        rw [hs] at hl
        simp only [Option.isSome] at hl
        obtain ⟨p, x⟩ := z
        have hB : Below w.heap.size w (w.alloc (.cells #[.int .i64 p, .string x] 156)) := (Below.refl _ w).alloc (Nat.le_refl _) _
        have HB := Lib.hid hB
        clear h hm hmay hB hs
        go_enter Tryz.func166, Tryz.ntmps166
        go_wp2_with fail
        refine C1.mono ?_
        rintro e w' ⟨rfl, rfl⟩
        go_wp2_with fail
        refine C2.mono ?_
        rintro e w' ⟨rfl, rfl⟩
        go_wp2
        go_ret2
        exact ⟨rfl, HB.out⟩
      | none =>
        rw [hs] at hl
        simp only [Option.isSome] at hl
        obtain ⟨k, rfl⟩ := Int.eq_ofNat_of_zero_le h0
        have hB : Below w.heap.size w (w.alloc (.cells #[.int .i64 0, .string none0] 156)) := (Below.refl _ w).alloc (Nat.le_refl _) _
        have HB := Lib.hid hB
        have h2 := h.alloc (.cells #[.int .i64 0, .string none0] 156)
        have hk1 : k < s.stay.length := by omega
        have C3 := sector_at h2 hk k hk1
        have hcv := h2.row.conv (o := 64 * k) (n := 64) (c := cap - 64 * k) (by rw [length_flat hk.sz]; omega)
        rw [flat_at hk.sz k hk1] at hcv
        have e1 : s.stay.getD (k : Int).toNat none0 = s.stay[k] := by simp [hk1]
        rw [e1]
        generalize s.stay[k] = x at hcv ⊢
        have e2 : (⟨x.data.toList.toArray⟩ : ByteArray) = x := ByteArray.ext (by simp)
        rw [e2] at hcv
        clear h hm hmay hB hs h2 e1 e2 h0 h1
        go_enter Tryz.func166, Tryz.ntmps166
        go_wp2_with fail
        refine C1.mono ?_
        rintro e w' ⟨rfl, rfl⟩
        go_wp2_with fail
        refine C2.mono ?_
        rintro e w' ⟨rfl, rfl⟩
        go_wp2_with fail
        refine C3.mono ?_
        rintro e w' ⟨rfl, rfl⟩
        go_wp2
        go_ret2
        exact ⟨rfl, HB.out⟩
  · simp only [hm, ne_eq, not_false_eq_true, if_true, if_false]
    have hne : (s.may n == 0) = false := beq_eq_false_iff_ne.2 hm
    generalize s.may n = E at C1 hm hne ⊢
    clear h hl hmay c1 C2 hm
    go_enter Tryz.func166, Tryz.ntmps166
    go_wp2_with fail
    refine C1.mono ?_
    rintro e w' ⟨rfl, rfl⟩
    go_wp2
    go_ret2
    exact ⟨rfl, Below.refl _ _⟩
end
end Go.Proofs.YtmloljjllmmkoaaGreat

namespace Go.Proofs.YtmloljjllmmkoaaGreat
open Go.RowKit Go

theorem info5e : (Tryz.prog.info? 5).map (fun i => (i.zero, i.size, i.bytes)) = some (some (.int .u8 0), 1, 1) := by kernel_rfl
theorem cells5 : Tryz.prog.cellsOf 5 = 1 := by kernel_rfl

/-! ### A text's copy -/
set_option maxRecDepth 100000 in
set_option maxHeartbeats 1000000 in
theorem copy_any (s : ByteArray) (hs : s.size ≤ 1048576) (w : World) :
    Calls Tryz.prog 54 #[.string s] w fun e w' => e = .returned (.string s) ∧ Below w.heap.size w w' := by
  by_cases h0 : s.size = 0
  · obtain rfl : s = ⟨#[]⟩ := ByteArray.ext (Array.eq_empty_of_size_eq_zero h0)
    clear h0
    go_enter Tryz.func54, Tryz.ntmps54
    go_wp2
    go_ret
    exact ⟨rfl, Below.refl _ _⟩
  · obtain ⟨i0, hi, hz0, hz1, hz2⟩ := info_parts info5e
    have hinfo : (Tryz.prog.info? 5).map (·.size) = some 1 := by rw [hi]; simp [hz1]
    have hmk := run_makeSlice (P := Tryz.prog) (w := w) 85 5 i0 (.int .u8 0) Tryz.underlying85 hi hz0 .i64 .i64 (s.size : Int) (s.size : Int) (by omega) (by omega) (by rw [hz1]; omega) (by rw [hz2]; omega) (by omega)
    rw [hz1, Nat.mul_one, Int.toNat_natCast, show Value.cells (.int .u8 0) = #[.int .u8 0] from rfl] at hmk
    obtain ⟨M, hM⟩ : ∃ M, madeCells #[Value.int .u8 0] s.size = M := ⟨_, rfl⟩
    have hMs : M.size = s.size := by rw [← hM, size_madeCells]
    rw [hM] at hmk
    have hcp := Lib.run_copy_row_string (P := Tryz.prog) (w.alloc (.cells M 5)) 85 9 3 5 w.heap.size 0 s.size s.size s M 5 Tryz.underlying85 hinfo (heap_alloc_new w _) (Nat.le_refl _) (by omega)
    obtain ⟨Y, hY⟩ : ∃ Y, (M.toList.take 0 ++ Lib.byteCells s.data.toList ++ M.toList.drop (0 + s.size)).toArray = Y := ⟨_, rfl⟩
    rw [hY] at hcp
    have hYl : Y.toList = Lib.byteCells s.data.toList := by
      rw [← hY, List.toList_toArray, List.take_zero, List.nil_append, List.drop_of_length_le (by rw [Array.length_toList]; omega), List.append_nil]
    have hsl : s.size = s.data.toList.length := Lib.size_eq s
    have hYs : Y.size = s.size := by rw [← Array.length_toList, hYl, Lib.byteCells_length, hsl]
    obtain ⟨u, hu⟩ : ∃ u, (w.alloc (.cells M 5)).setRow w.heap.size Y = u := ⟨_, rfl⟩
    have hgu : u.heap[w.heap.size]? = some (.cells Y 5 (0, 0)) := by rw [← hu]; exact setRow_heap _ _ M _ 5 (0, 0) (heap_alloc_new w _)
    have hub : Below w.heap.size w u := by
      rw [← hu]
      exact ((Below.refl _ w).alloc (Nat.le_refl _) _).trans ⟨rfl, rfl, rfl, by simp, fun k hk => setRow_other _ _ _ _ (by omega)⟩
    have hne : s.data.toList ≠ [] := fun e => h0 (by rw [hsl, e]; rfl)
    have hus := Lib.run_unsafeString_row (P := Tryz.prog) u 167 3 9 5 Tryz.underlying167 cells5 w.heap.size Y.size (by unfold World.shape?; rw [hgu]) s.data.toList hne (by omega) (by omega)
      (fun j x hx => Lib.cells_of_row hgu Y.size j _ (by rw [List.take_of_length_le (by rw [Array.length_toList]; exact Nat.le_refl _), hYl]; simp [Lib.byteCells, hx]))
    rw [← hsl] at hus
    have HU := Lib.hid hub
    have hn0 : ((s.size : Int) == 0) = false := beq_eq_false_iff_ne.2 (by omega)
    have hp0 : (0 : Int) < (s.size : Int) := by omega
    clear hM hY hYl hgu hub hne h0 hsl hYs hMs
    go_enter Tryz.func54, Tryz.ntmps54
    go_wp2
    go_ret
    exact ⟨rfl, Lib.below_freeze HU.out (p := ⟨w.heap.size, 0, none⟩) (Nat.le_refl _) _⟩
theorem clone_any (s : ByteArray) (hs : s.size ≤ 1048576) (w : World) :
    Calls Tryz.prog 23 #[.string s] w fun e w' => e = .returned (.string s) ∧ Below w.heap.size w w' := by
  go_enter Tryz.func23, Tryz.ntmps23
  go_wp2_with fail
  refine (copy_any s hs _).mono ?_
  rintro e w' ⟨rfl, hB⟩
  go_wp2_with fail
  go_ret
  exact ⟨rfl, hB⟩

end Go.Proofs.YtmloljjllmmkoaaGreat

namespace Go.Proofs.YtmloljjllmmkoaaGreat
open Go.RowKit Go Go.Maps SM

section
variable {b g cap m : Nat} {B : ByteArray} {a : Int} {s : DS} {cur : Array Value} {D : DataW Unit} {w w' : World}

theorem DiskAt.below (h : DiskAt b g m s w) (k : Below w.heap.size w w') : DiskAt b g m s w' := by
  obtain ⟨h1, cap, B, cur, D, h2⟩ := h
  exact ⟨h1, cap, B, cur, D, h2.below k⟩
theorem DiskAt.stay {F : Nat → Prop} (h : DiskAt b g m s w) (k : Stir F w w') (hn : ∀ i, Foot b g m i → ¬ F i) : DiskAt b g m s w' := by
  obtain ⟨h1, cap, B, cur, D, h2⟩ := h
  exact ⟨h1, cap, B, cur, D, h2.stay k hn⟩
theorem DiskAt.lt (h : DiskAt b g m s w) {k : Nat} (hk : Foot b g m k) : k < w.heap.size := by
  obtain ⟨h1, cap, B, cur, D, h2⟩ := h
  exact h2.lt hk

theorem LooseAt.put {l : List (Int × ByteArray)} (h : LooseAt m l w D) {k : Int} {x : ByteArray} {n P : Nat} (hP : P = ((seek k l 0).map (·.1)).getD l.length) (ho : w'.ownsMap Tryz.prog 3 wrElem m n (D.put (lit k) (wrD (P, x)))) :
    LooseAt m (putL k x l) w' (D.put (lit k) (wrD (P, x))) := by
  have hs : Maps.size (D.put (lit k) (wrD (P, x))) = (putL k x l).length := by
    rw [size_put (h.own.tidy lawM), h.reads.has, h.size, length_putL k x l 0]
  refine ⟨owns_fit ho (Nat.le_of_eq hs), hs, ?_⟩
  rw [hP]
  exact h.reads.put h.own.isMap k x

/-- a sector is laid into the map of loose ones -/
theorem DAt.put (h : DAt b g cap m B a s cur D w) (hk : s.Ok) (hm : s.made < 1099511627776) {n : Int} (hn : I64 n) {x : ByteArray} {P : Nat} (hP : P = ((seek n s.loose 0).map (·.1)).getD s.loose.length) :
    ∃ w', (Instr.mapUpdate 151 (.map (some m)) (.int .i64 n) (.agg #[.int .i64 P, .string x])).run Tryz.prog w = .ok () w' ∧ (∃ D', DAt b g cap m B a { s with loose := putL n x s.loose } cur D' w') ∧ Stir (· = m) w w' := by
  have hfew := hk.few
  obtain ⟨w', hrun, hown, ht⟩ := h.loose.own.store lawM Tryz.underlying151 (by unfold maxLen; omega) (key_of hn) (wrElem_mk (P, x))
  have S : Stir (· = m) w w' := (Stir.refl (· = m) w).turned (.inl rfl) ht
  exact ⟨w', hrun, ⟨_, S.keep h.obj h.bm, h.row.stay S h.gm, h.loose.put hP hown, h.size, h.bads⟩, S⟩

set_option maxRecDepth 100000 in
set_option maxHeartbeats 1000000 in
theorem write_any (h : DiskAt b g m s w) (hm : s.made < 1099511627776) (n : Int) (hn : I64 n) (x : ByteArray) :
    Calls Tryz.prog 41 #[.pointer (some ⟨b, 0, none⟩), .int .i64 n, .string x] w fun e w' => e = .returned (.int .i64 (s.writeE n x)) ∧ DiskAt b g m (s.write n x) w' ∧ Stir (Foot b g m) w w' := by
  obtain ⟨hk, cap, B, cur, D, h⟩ := h
  have C1 := find_at h hk n hn
  have C2 := isBad_at h n hn
  have hl := h.look_ok hn
  have c1 := DObj.c1 h.obj
  have hlen := fun ty => h.loose.own.len Tryz.underlying151 ty
  rw [h.loose.size] at hlen
  have HH := Lib.hid h
  by_cases hmay : s.may n = 0
  · rw [hmay] at C1
    by_cases h64 : x.size = 64
    · have h64b : ((x.size : Int) == 64) = true := by rw [h64]; rfl
      cases hb : s.bad n with
      | true =>
        rw [hb] at C2
        rw [show s.writeE n x = 3 by simp [DS.writeE, hmay, h64, hb], show s.write n x = s by simp [DS.write, DS.fits, hb]]
        clear h hl hmay c1 hlen h64
        go_enter Tryz.func41, Tryz.ntmps41
        go_wp2_with fail
        refine C1.mono ?_
        rintro e w' ⟨rfl, rfl⟩
        go_wp2_with fail
        refine C2.mono ?_
        rintro e w' ⟨rfl, rfl⟩
        go_wp2
        go_ret
        exact ⟨rfl, ⟨hk, _, _, _, _, HH.out⟩, Stir.refl _ _⟩
      | false =>
        rw [hb] at C2
        have hfit : s.fits n x = true := by simp [DS.fits, hmay, h64, hb]
        have hE : s.writeE n x = if s.armed = 1 then 2 else 0 := by simp [DS.writeE, hmay, h64, hb]
        have hW : s.write n x = if s.armed = 1 then (s.lays n x).goes s.keep else s.lays n x := by simp [DS.write, hfit]
        obtain ⟨P, hP⟩ : ∃ P, P = ((seek n s.loose 0).map (·.1)).getD s.loose.length := ⟨_, rfl⟩
        obtain ⟨h0, h1⟩ := (DS.may_ok hmay).2
        have hlo : (s.lays n x).Ok := hk.lays h0 h1 h64
        obtain ⟨q, y, ok, hl2, hq⟩ : ∃ (q : Int) (y : ByteArray) (ok : Bool), (Instr.lookup 151 (.map (some m)) (.int .i64 n) true).run Tryz.prog w = .ok (.tuple #[.agg #[.int .i64 q, .string y], .bool ok]) w ∧ (if ok then q = (P : Int) else (s.loose.length : Int) = (P : Int)) := by
          rw [hP]
          cases hs : seek n s.loose 0 with
          | none => rw [hs] at hl; exact ⟨0, none0, false, hl, rfl⟩
          | some z => rw [hs] at hl; exact ⟨z.1, z.2, true, hl, rfl⟩
        rw [hE, hW]
        obtain ⟨w1, hw1⟩ : ∃ w1, w.alloc (.cells #[.int .i64 q, .string y] 156) = w1 := ⟨_, rfl⟩
        have hB1 : Below w.heap.size w w1 := by rw [← hw1]; exact (Below.refl _ w).alloc (Nat.le_refl _) _
        have q0 : w1.heap[w.heap.size]? = some (.cells #[.int .i64 q, .string y] 156 (0, 0)) := by rw [← hw1]; exact heap_alloc_new w _
        have p0 : w1.cell? ⟨w.heap.size, 0, none⟩ = some (.int .i64 q) := by simp [World.cell?, q0]
        have c1a : w1.drew.cell? ⟨b, 1, none⟩ = some (.map (some m)) := DObj.c1 (h.below hB1).obj
        have H1 := Lib.hid (show DAt b g cap m B s.armZ s cur D w1.drew from (h.below hB1).drewN 1)
        have HB1 := Lib.hid hB1
        have HP := Lib.hid hP
        have hxs' : x.size ≤ 1048576 := by omega
        have HO := Lib.hid hlo
        have HK := Lib.hid hk
        clear h hl hmay hfit hE hW hB1 q0 h0 h1 h64 hP hlo
        by_cases ha : s.armed = 1
        · simp only [ha, if_true]
          cases ok <;> simp only [if_true, if_false, Bool.false_eq_true] at hq
          all_goals (
            first | subst hq | skip
            go_enter Tryz.func41, Tryz.ntmps41
            go_wp2_with fail
            refine C1.mono ?_
            rintro e w' ⟨rfl, rfl⟩
            go_wp2_with fail
            refine C2.mono ?_
            rintro e w' ⟨rfl, rfl⟩
            go_wp2_with fail
            go_region_held3 (fun w' => w'.cell? ⟨b, 1, none⟩ = some (.map (some m))) (first | exact c1a | exact c1b | exact c1c)
              (first | (go_at_call 23; refine (clone_any x hxs' _).mono ?_; rintro e w2 ⟨rfl, hB2⟩; have h2 := DAt.below H1.out hB2; have c1b := DObj.c1 h2.obj; obtain ⟨w3, hrun, ⟨D3, h3⟩, s3⟩ := h2.put HK.out hm hn HP.out (x := x); have c1c := DObj.c1 h3.obj; have H3 := Lib.hid h3; have S3 := Lib.hid (((Stir.of_below (F := Foot b g m) HB1.out).drew.and_below hB2).trans s3 (fun i e => .inl (.inr (.inr e)))); clear h2 h3 s3 hB2))
            all_goals (
              have L := lastStep_at H3.out (by rfl) HK.out.arm hm
              rw [show (({ s with loose := putL n x s.loose } : DS).armed == 1) = true from beq_iff_eq.2 ha] at L
              clear c1a c1b c1c hrun hl2
              go_wp2_with fail
              refine L.mono ?_
              rintro e w4 ⟨rfl, h4, s4⟩
              have c5 : w4.cell? ⟨b, 5, none⟩ = some (.string s.keep) := by have := DObj.c5 h4.obj; exact this
              have S4 := Lib.hid (S3.out.trans s4 (fun i e => .inl (.inl e)))
              have F := fall_at h4 HO.out (by have := HO.out.few; simp [DS.lays, DS.tick] at this ⊢; omega) (keep := s.keep) HK.out.keep
              clear h4 s4 L
              go_wp2_with fail
              refine F.mono ?_
              rintro e w5 ⟨rfl, ⟨cur5, D5, h5⟩, s5⟩
              have H5 := Lib.hid h5
              have S5 := Lib.hid (S4.out.trans s5 (fun i e => .inl e))
              clear h5 s5 F
              go_wp2
              go_ret
              exact ⟨rfl, ⟨HO.out.goes _, _, _, _, _, H5.out⟩, S5.out⟩))
        · simp only [ha, if_false]
          cases ok <;> simp only [if_true, if_false, Bool.false_eq_true] at hq
          all_goals (
            first | subst hq | skip
            go_enter Tryz.func41, Tryz.ntmps41
            go_wp2_with fail
            refine C1.mono ?_
            rintro e w' ⟨rfl, rfl⟩
            go_wp2_with fail
            refine C2.mono ?_
            rintro e w' ⟨rfl, rfl⟩
            go_wp2_with fail
            go_region_held3 (fun w' => w'.cell? ⟨b, 1, none⟩ = some (.map (some m))) (first | exact c1a | exact c1b | exact c1c)
              (first | (go_at_call 23; refine (clone_any x hxs' _).mono ?_; rintro e w2 ⟨rfl, hB2⟩; have h2 := DAt.below H1.out hB2; have c1b := DObj.c1 h2.obj; obtain ⟨w3, hrun, ⟨D3, h3⟩, s3⟩ := h2.put HK.out hm hn HP.out (x := x); have c1c := DObj.c1 h3.obj; have H3 := Lib.hid h3; have S3 := Lib.hid (((Stir.of_below (F := Foot b g m) HB1.out).drew.and_below hB2).trans s3 (fun i e => .inl (.inr (.inr e)))); clear h2 h3 s3 hB2))
            all_goals (
              have L := lastStep_at H3.out (by rfl) HK.out.arm hm
              rw [show (({ s with loose := putL n x s.loose } : DS).armed == 1) = false from beq_eq_false_iff_ne.2 ha] at L
              clear c1a c1b c1c hrun hl2
              go_wp2_with fail
              refine L.mono ?_
              rintro e w4 ⟨rfl, h4, s4⟩
              have H4 := Lib.hid h4
              have S4 := Lib.hid (S3.out.trans s4 (fun i e => .inl (.inl e)))
              clear h4 s4 L
              go_wp2
              go_ret
              exact ⟨rfl, ⟨HO.out, _, _, _, _, (by rw [show (s.lays n x).armZ = s.armZ from DS.armZ_tick (by omega)]; exact H4.out)⟩, S4.out⟩))
    · have h64b : ((x.size : Int) == 64) = false := beq_eq_false_iff_ne.2 (by omega)
      rw [show s.writeE n x = 1 by simp [DS.writeE, hmay, h64], show s.write n x = s by simp [DS.write, DS.fits, h64]]
      clear h hl hmay c1 hlen h64 C2
      go_enter Tryz.func41, Tryz.ntmps41
      go_wp2_with fail
      refine C1.mono ?_
      rintro e w' ⟨rfl, rfl⟩
      go_wp2
      go_ret
      exact ⟨rfl, ⟨hk, _, _, _, _, HH.out⟩, Stir.refl _ _⟩
  · have hne : (s.may n == 0) = false := beq_eq_false_iff_ne.2 hmay
    rw [show s.writeE n x = s.may n by simp [DS.writeE, hmay], show s.write n x = s by simp [DS.write, DS.fits, hne]]
    generalize s.may n = E at C1 hmay hne ⊢
    clear h hl hmay c1 hlen C2
    go_enter Tryz.func41, Tryz.ntmps41
    go_wp2_with fail
    refine C1.mono ?_
    rintro e w' ⟨rfl, rfl⟩
    go_wp2
    go_ret
    exact ⟨rfl, ⟨hk, _, _, _, _, HH.out⟩, Stir.refl _ _⟩

set_option maxRecDepth 100000 in
theorem sync_any (h : DiskAt b g m s w) (hm : s.made < 1099511627776) :
    Calls Tryz.prog 87 #[.pointer (some ⟨b, 0, none⟩)] w fun e w' => e = .returned (.int .i64 s.syncE) ∧ DiskAt b g m s.sync w' ∧ Stir (Foot b g m) w w' := by
  obtain ⟨hk, cap, B, cur, D, h⟩ := h
  have c6 := DObj.c6 h.obj
  have HH := Lib.hid h
  have hfew := hk.few
  unfold DS.syncE DS.sync
  cases hd : s.dead with
  | true =>
    rw [hd] at c6
    simp only [if_true]
    clear h hd
    go_enter Tryz.func87, Tryz.ntmps87
    go_wp2
    go_ret
    exact ⟨rfl, ⟨hk, _, _, _, _, HH.out⟩, Stir.refl _ _⟩
  | false =>
    rw [hd] at c6
    have C1 := lastStep_at h rfl hk.arm hm
    simp only [Bool.false_eq_true, if_false]
    by_cases ha : s.armed = 1
    · rw [show (s.armed == 1) = true from beq_iff_eq.2 ha] at C1
      simp only [ha, if_true]
      clear h hd ha
      go_enter Tryz.func87, Tryz.ntmps87
      go_wp2_with fail
      refine C1.mono ?_
      rintro e w1 ⟨rfl, h1, s1⟩
      have c5 := DObj.c5 h1.obj
      have C2 := fun w (h : DAt b g cap m B s.armZ s.tick cur D w) => fall_at h hk.tick (by show s.loose.length ≤ _; omega) (keep := s.keep) hk.keep
      have S1 := Lib.hid (s1.weaken (G := Foot b g m) (fun k e => .inl e))
      have H1 := Lib.hid h1
      have c5' : w1.cell? ⟨b, 5, none⟩ = some (.string s.keep) := c5
      clear h1 s1 c5 C1
      go_wp2_with fail
      refine (C2 _ H1.out).mono ?_
      rintro e w2 ⟨rfl, ⟨cur2, D2, h2⟩, s2⟩
      have S2 := Lib.hid (S1.out.trans s2 (fun i hi => .inl hi))
      have H2 := Lib.hid h2
      clear h2 s2
      go_wp2
      go_ret
      exact ⟨rfl, ⟨hk.tick.goes _, _, _, _, _, H2.out⟩, S2.out⟩
    · rw [show (s.armed == 1) = false from beq_eq_false_iff_ne.2 ha] at C1
      simp only [ha, if_false]
      have hat : s.tick.armZ = s.armZ := DS.armZ_tick (by omega)
      clear h hd
      go_enter Tryz.func87, Tryz.ntmps87
      go_wp2_with fail
      refine C1.mono ?_
      rintro e w1 ⟨rfl, h1, s1⟩
      have C2 := fun w (h : DAt b g cap m B s.armZ s.tick cur D w) => settle_all h hk.tick (by show s.loose.length ≤ _; omega)
      have S1 := Lib.hid (s1.weaken (G := Foot b g m) (fun k e => .inl e))
      have H1 := Lib.hid h1
      clear h1 s1 C1
      go_wp2_with fail
      refine (C2 _ H1.out).mono ?_
      rintro e w2 ⟨rfl, ⟨cur2, D2, h2⟩, s2⟩
      have S2 := Lib.hid (S1.out.trans s2 (fun i hi => .inl (.inr hi)))
      rw [← hat] at h2
      have H2 := Lib.hid h2
      clear h2 s2 hat
      go_wp2
      go_ret
      exact ⟨rfl, ⟨hk.tick.settled, _, _, _, _, H2.out⟩, S2.out⟩

end
end Go.Proofs.YtmloljjllmmkoaaGreat

