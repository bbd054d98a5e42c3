/-
  A disk as plain data: what stays, loose sectors in their order, bad ones, steps; what each call makes of it.
-/
import Derived.Test.YtmbknpipefbelaaSetsMath
namespace Go.Proofs.Ytmbknpipefbelaa
open SM

/-! ### Loose sectors -/
/-- where a sector stands among those that are loose, and what it has -/
def seek (k : Int) : List (Int × ByteArray) → Nat → Option (Nat × ByteArray)
  | [], _ => none
  | q :: r, p => if q.1 = k then some (p, q.2) else seek k r (p + 1)
/-- a sector's bytes, at its place or behind all others -/
def putL (n : Int) (x : ByteArray) : List (Int × ByteArray) → List (Int × ByteArray)
  | [] => [(n, x)]
  | q :: r => if q.1 = n then (n, x) :: r else q :: putL n x r

theorem seek_none {k : Int} : ∀ {l : List (Int × ByteArray)} {p : Nat}, (∀ q ∈ l, q.1 ≠ k) → seek k l p = none
  | [], _, _ => rfl
  | q :: r, p, h => by
    unfold seek
    rw [if_neg (h q (by simp))]
    exact seek_none fun q' hq' => h q' (by simp [hq'])
theorem none_seek {k : Int} : ∀ {l : List (Int × ByteArray)} {p : Nat}, seek k l p = none → ∀ q ∈ l, q.1 ≠ k
  | [], _, _ => by simp
  | q :: r, p, h => by
    unfold seek at h
    split at h
    · cases h
    · rename_i hn
      intro q' hq'
      rcases List.mem_cons.1 hq' with rfl | hq'
      · exact hn
      · exact none_seek h q' hq'
theorem seek_some {k : Int} {z : Nat × ByteArray} : ∀ {l : List (Int × ByteArray)} {p : Nat}, seek k l p = some z → ∃ i, ∃ h : i < l.length, z.1 = p + i ∧ l[i] = (k, z.2)
  | [], _, h => by cases h
  | q :: r, p, h => by
    unfold seek at h
    split at h
    · rename_i hq
      cases h
      exact ⟨0, by simp, by simp, by simp [← hq]⟩
    · obtain ⟨i, hi, e1, e2⟩ := seek_some h
      exact ⟨i + 1, by simp; omega, by omega, by simpa using e2⟩
theorem seek_get {k : Int} {x : ByteArray} : ∀ {l : List (Int × ByteArray)} {p i : Nat}, (l.map (·.1)).Nodup → ∀ (h : i < l.length), l[i] = (k, x) → seek k l p = some (p + i, x)
  | [], _, _, _, h, _ => by simp at h
  | q :: r, p, 0, _, _, e => by
    have : q = (k, x) := by simpa using e
    subst this
    simp [seek]
  | q :: r, p, i + 1, hd, h, e => by
    have e' : r[i]'(by simpa using h) = (k, x) := by simpa using e
    have hq : q.1 ≠ k := by
      simp only [List.map_cons, List.nodup_cons] at hd
      intro hk
      apply hd.1
      rw [hk]
      exact List.mem_map.2 ⟨(k, x), by rw [← e']; exact List.getElem_mem _, rfl⟩
    unfold seek
    rw [if_neg hq, seek_get (p := p + 1) (by simp only [List.map_cons, List.nodup_cons] at hd; exact hd.2) (by simpa using h) e']
    congr 2
    omega
theorem seek_shift {k : Int} : ∀ {l : List (Int × ByteArray)} {p d : Nat}, seek k l (p + d) = (seek k l p).map fun z => (z.1 + d, z.2)
  | [], _, _ => rfl
  | q :: r, p, d => by
    unfold seek
    split
    · rfl
    · rw [show p + d + 1 = (p + 1) + d by omega, seek_shift]
theorem seek_putL (n : Int) (x : ByteArray) (k : Int) : ∀ (l : List (Int × ByteArray)) (p : Nat), seek k (putL n x l) p = if k = n then some (((seek n l p).map (·.1)).getD (p + l.length), x) else seek k l p
  | [], p => by
    by_cases e : k = n
    · subst e; simp [putL, seek]
    · simp [putL, seek, e, Ne.symm e]
  | q :: r, p => by
    unfold putL
    by_cases h : q.1 = n
    · rw [if_pos h]
      by_cases e : k = n
      · subst e; simp [seek, h]
      · simp [seek, e, h, Ne.symm e]
    · rw [if_neg h]
      unfold seek
      rw [seek_putL n x k r (p + 1)]
      by_cases e : k = n
      · subst e
        rw [if_neg h]
        rw [if_neg h]
        simp [show p + 1 + r.length = p + (r.length + 1) by omega]
      · simp [e]
theorem length_putL (n : Int) (x : ByteArray) : ∀ (l : List (Int × ByteArray)) (p : Nat), (putL n x l).length = if (seek n l p).isSome then l.length else l.length + 1
  | [], p => by simp [putL, seek]
  | q :: r, p => by
    unfold putL seek
    by_cases h : q.1 = n
    · simp [h]
    · rw [if_neg h, if_neg h, List.length_cons, length_putL n x r (p + 1)]
      split <;> simp
theorem mem_putL {n : Int} {x : ByteArray} {q : Int × ByteArray} : ∀ {l : List (Int × ByteArray)}, q ∈ putL n x l → q = (n, x) ∨ q ∈ l
  | [], h => by simp [putL] at h; exact .inl h
  | a :: r, h => by
    unfold putL at h
    split at h
    · rcases List.mem_cons.1 h with h | h
      · exact .inl h
      · exact .inr (by simp [h])
    · rcases List.mem_cons.1 h with h | h
      · exact .inr (by simp [h])
      · rcases mem_putL h with h | h
        · exact .inl h
        · exact .inr (by simp [h])
theorem nodup_putL (n : Int) (x : ByteArray) : ∀ {l : List (Int × ByteArray)}, (l.map (·.1)).Nodup → ((putL n x l).map (·.1)).Nodup
  | [], _ => by simp [putL]
  | a :: r, h => by
    simp only [List.map_cons, List.nodup_cons] at h
    unfold putL
    split
    · rename_i e
      simp only [List.map_cons, List.nodup_cons, ← e]
      exact h
    · rename_i e
      simp only [List.map_cons, List.nodup_cons]
      refine ⟨fun hm => ?_, nodup_putL n x h.2⟩
      obtain ⟨q, hq, e2⟩ := List.mem_map.1 hm
      rcases mem_putL hq with rfl | hq
      · exact e e2.symm
      · exact h.1 (e2 ▸ List.mem_map.2 ⟨q, hq, rfl⟩)
theorem len_putL_le (n : Int) (x : ByteArray) (l : List (Int × ByteArray)) : (putL n x l).length ≤ l.length + 1 := by
  rw [length_putL n x l 0]; split <;> omega
/-- as the reference does it: each such sector is turned; if there was none, one is laid behind -/
theorem putL_map (n : Int) (x : ByteArray) : ∀ {l : List (Int × ByteArray)}, (l.map (·.1)).Nodup →
    putL n x l = (l.map fun q => if q.1 = n then (q.1, x) else q) ++ (if l.any (fun q => q.1 == n) then [] else [(n, x)])
  | [], _ => by simp [putL]
  | a :: r, h => by
    simp only [List.map_cons, List.nodup_cons] at h
    unfold putL
    by_cases e : a.1 = n
    · have hr : ∀ q ∈ r, q.1 ≠ n := fun q hq e2 => h.1 (by rw [e, ← e2]; exact List.mem_map.2 ⟨q, hq, rfl⟩)
      have hm : (r.map fun q => if q.1 = n then (q.1, x) else q) = r := by
        conv => rhs; rw [← List.map_id r]
        exact List.map_congr_left fun q hq => by simp [hr q hq]
      simp [e, hm]
    · rw [if_neg e, putL_map n x h.2]
      have : (a.1 == n) = false := beq_eq_false_iff_ne.2 e
      rw [List.any_cons, this, Bool.false_or]
      simp [e]

/-! ### What stays -/
/-- the loose sectors of some places stay -/
def laid (f : Nat → Bool) (l : List (Int × ByteArray)) (st : List ByteArray) : List ByteArray :=
  st.mapIdx fun k b => match seek (k : Int) l 0 with
    | some z => if f z.1 then z.2 else b
    | none => b
theorem length_laid (f : Nat → Bool) (l : List (Int × ByteArray)) (st : List ByteArray) : (laid f l st).length = st.length := by simp [laid]
theorem get_laid (f : Nat → Bool) (l : List (Int × ByteArray)) (st : List ByteArray) (k : Nat) (h : k < st.length) :
    (laid f l st)[k]'(by rw [length_laid]; exact h) = match seek (k : Int) l 0 with
      | some z => if f z.1 then z.2 else st[k]
      | none => st[k] := by simp [laid]
theorem laid_nil (f : Nat → Bool) (st : List ByteArray) : laid f [] st = st := by
  apply List.ext_getElem (length_laid _ _ _)
  intro k h1 h2
  rw [get_laid _ _ _ _ h2]
  rfl
theorem laid_none (l : List (Int × ByteArray)) (st : List ByteArray) : laid (fun _ => false) l st = st := by
  apply List.ext_getElem (length_laid _ _ _)
  intro k h1 h2
  rw [get_laid _ _ _ _ h2]
  split <;> simp
theorem laid_congr {f g : Nat → Bool} {l : List (Int × ByteArray)} (h : ∀ p, p < l.length → f p = g p) (st : List ByteArray) : laid f l st = laid g l st := by
  apply List.ext_getElem (by rw [length_laid, length_laid])
  intro k h1 h2
  rw [get_laid _ _ _ _ (by rw [length_laid] at h1; exact h1), get_laid _ _ _ _ (by rw [length_laid] at h1; exact h1)]
  cases hs : seek (k : Int) l 0 with
  | none => rfl
  | some z =>
    obtain ⟨i, hi, e1, _⟩ := seek_some hs
    simp only
    rw [h z.1 (by omega)]
theorem laid_size {f : Nat → Bool} {l : List (Int × ByteArray)} {st : List ByteArray} (h1 : ∀ b ∈ st, b.size = 64) (h2 : ∀ q ∈ l, q.2.size = 64) : ∀ b ∈ laid f l st, b.size = 64 := by
  intro b hb
  obtain ⟨k, hk, rfl⟩ := List.mem_iff_getElem.1 hb
  have hk' : k < st.length := by rw [length_laid] at hk; exact hk
  rw [get_laid _ _ _ _ hk']
  cases hs : seek (k : Int) l 0 with
  | none => exact h1 _ (List.getElem_mem _)
  | some z =>
    obtain ⟨i, hi, _, e2⟩ := seek_some hs
    simp only
    split
    · exact h2 (k, z.2) (e2 ▸ List.getElem_mem _)
    · exact h1 _ (List.getElem_mem _)
/-- one sector more: the reference's round -/
theorem laid_snoc {l : List (Int × ByteArray)} (hn : (l.map (·.1)).Nodup) (f : Nat → Bool) (i : Nat) (h : i < l.length) (st : List ByteArray) (h0 : 0 ≤ l[i].1) :
    laid (fun p => decide (p < i + 1) && f p) l st = if f i then (laid (fun p => decide (p < i) && f p) l st).set l[i].1.toNat l[i].2 else laid (fun p => decide (p < i) && f p) l st := by
  have hg : seek l[i].1 l 0 = some (i, l[i].2) := by simpa using seek_get (p := 0) hn h (k := l[i].1) (x := l[i].2) rfl
  have other : ∀ k z, seek k l 0 = some z → k ≠ l[i].1 → z.1 ≠ i := by
    intro k z hz hne e
    obtain ⟨j, hj, e1, e2⟩ := seek_some hz
    obtain rfl : j = i := by omega
    exact hne (by rw [e2])
  by_cases hf : f i
  · rw [if_pos hf]
    apply List.ext_getElem (by simp [length_laid])
    intro k h1 h2
    have hk : k < st.length := by rw [length_laid] at h1; exact h1
    rw [get_laid _ _ _ _ hk, List.getElem_set, get_laid _ _ _ _ hk]
    by_cases e : (l[i].1).toNat = k
    · have e' : (k : Int) = l[i].1 := by omega
      rw [if_pos e, e', hg]
      simp [hf]
    · rw [if_neg e]
      cases hs : seek (k : Int) l 0 with
      | none => rfl
      | some z =>
        have := other _ _ hs (by omega)
        simp only
        rw [show decide (z.1 < i + 1) = decide (z.1 < i) by apply decide_eq_decide.2; omega]
  · rw [if_neg hf]
    refine laid_congr (fun p hp => ?_) st
    by_cases e : p = i
    · subst e; simp [hf]
    · rw [show decide (p < i + 1) = decide (p < i) by apply decide_eq_decide.2; omega]

/-! ### The bytes of all sectors -/
def flat (st : List ByteArray) : List UInt8 := st.flatMap fun b => b.data.toList
theorem flat_nil : flat [] = [] := rfl
theorem flat_cons (b : ByteArray) (r : List ByteArray) : flat (b :: r) = b.data.toList ++ flat r := rfl
theorem flat_append (a b : List ByteArray) : flat (a ++ b) = flat a ++ flat b := by simp [flat]
theorem len_of (b : ByteArray) : b.data.toList.length = b.size := by simp
theorem length_flat : ∀ {st : List ByteArray}, (∀ b ∈ st, b.size = 64) → (flat st).length = 64 * st.length
  | [], _ => rfl
  | b :: r, h => by
    rw [flat_cons, List.length_append, length_flat (fun x hx => h x (by simp [hx])), len_of, h b (by simp), List.length_cons]
    omega
theorem flat_at : ∀ {st : List ByteArray}, (∀ b ∈ st, b.size = 64) → ∀ (k : Nat) (h : k < st.length), ((flat st).drop (64 * k)).take 64 = st[k].data.toList
  | [], _, _, h => by simp at h
  | b :: r, hs, 0, _ => by
    rw [flat_cons]
    simp only [Nat.mul_zero, List.drop_zero, List.getElem_cons_zero]
    rw [List.take_append_of_le_length (by rw [len_of, hs b (by simp)]; exact Nat.le_refl _), List.take_of_length_le (by rw [len_of, hs b (by simp)]; exact Nat.le_refl _)]
  | b :: r, hs, k + 1, h => by
    rw [flat_cons, show 64 * (k + 1) = b.data.toList.length + 64 * k by rw [len_of, hs b (by simp)]; omega, ← List.drop_drop, List.drop_left, flat_at (fun x hx => hs x (by simp [hx])) k (by simpa using h)]
    rfl
theorem flat_set : ∀ {st : List ByteArray}, (∀ b ∈ st, b.size = 64) → ∀ (k : Nat) (_ : k < st.length) (x : ByteArray), flat (st.set k x) = (flat st).take (64 * k) ++ (x.data.toList ++ (flat st).drop (64 * k + 64))
  | [], _, _, h, _ => by simp at h
  | b :: r, hs, 0, _, x => by
    rw [List.set_cons_zero, flat_cons, flat_cons]
    simp only [Nat.mul_zero, List.take_zero, List.nil_append, Nat.zero_add]
    rw [show 64 = b.data.toList.length by rw [len_of, hs b (by simp)], List.drop_left]
  | b :: r, hs, k + 1, h, x => by
    have hb : b.data.toList.length = 64 := by rw [len_of, hs b (by simp)]
    rw [List.set_cons_succ, flat_cons, flat_cons, flat_set (fun y hy => hs y (by simp [hy])) k (by simpa using h) x,
      show 64 * (k + 1) = b.data.toList.length + 64 * k by omega, List.take_length_add_append, Nat.add_assoc, List.drop_length_add_append, List.append_assoc]
theorem flat_inj : ∀ {a b : List ByteArray}, (∀ x ∈ a, x.size = 64) → (∀ x ∈ b, x.size = 64) → flat a = flat b → a = b
  | [], [], _, _, _ => rfl
  | [], y :: s, _, hb, h => by
    have := congrArg List.length h
    rw [length_flat hb, flat_nil] at this
    simp at this
  | x :: r, [], ha, _, h => by
    have := congrArg List.length h
    rw [length_flat ha, flat_nil] at this
    simp at this
  | x :: r, y :: s, ha, hb, h => by
    rw [flat_cons, flat_cons] at h
    obtain ⟨h1, h2⟩ := List.append_inj h (by rw [len_of, len_of, ha x (by simp), hb y (by simp)])
    rw [flat_inj (fun z hz => ha z (by simp [hz])) (fun z hz => hb z (by simp [hz])) h2, ByteArray.ext (Array.toList_inj.1 h1)]
/-- what stays, as a text -/
def img (st : List ByteArray) : ByteArray := ⟨(flat st).toArray⟩
theorem img_list (st : List ByteArray) : (img st).data.toList = flat st := by simp [img]
theorem img_inj {a b : List ByteArray} (ha : ∀ x ∈ a, x.size = 64) (hb : ∀ x ∈ b, x.size = 64) : img a = img b ↔ a = b := by
  constructor
  · intro h
    exact flat_inj ha hb (by rw [← img_list, h, img_list])
  · rintro rfl; rfl
theorem size_img {st : List ByteArray} (h : ∀ b ∈ st, b.size = 64) : (img st).size = 64 * st.length := by
  rw [← length_flat h, ← img_list, len_of]

/-! ### The disk -/
structure DS where
  stay : List ByteArray
  loose : List (Int × ByteArray)
  bad : Int → Bool
  made : Nat
  armed : Nat
  keep : ByteArray
  dead : Bool

structure DS.Ok (s : DS) : Prop where
  pos : 1 ≤ s.stay.length
  le : s.stay.length ≤ 16384
  sz : ∀ b ∈ s.stay, b.size = 64
  nd : (s.loose.map (·.1)).Nodup
  key : ∀ q ∈ s.loose, 0 ≤ q.1 ∧ q.1 < s.stay.length ∧ q.2.size = 64
  few : s.loose.length ≤ s.made
  arm : s.armed ≤ 9223372036854775807
  keep : s.keep.size ≤ 140737488355328

def none0 : ByteArray := ⟨#[]⟩
theorem none0_le (n : Nat) : none0.size ≤ n := Nat.zero_le n
def keepsAt (keep : ByteArray) (p : Nat) : Bool := bitI keep.data.toList (p : Int)
def DS.may (s : DS) (n : Int) : Int := if s.dead then 2 else if n < 0 ∨ (s.stay.length : Int) ≤ n then 61 else 0
def DS.look (s : DS) (n : Int) : ByteArray := match seek n s.loose 0 with
  | some z => z.2
  | none => s.stay.getD n.toNat none0
def DS.readE (s : DS) (n : Int) : Int := if s.may n ≠ 0 then s.may n else if s.bad n then 3 else 0
def DS.readS (s : DS) (n : Int) : ByteArray := if s.readE n = 0 then s.look n else none0
def DS.goes (s : DS) (keep : ByteArray) : DS := { s with stay := laid (keepsAt keep) s.loose s.stay, loose := [], armed := 0, keep := none0, dead := true }
def DS.tick (s : DS) : DS := { s with made := s.made + 1, armed := s.armed - 1 }
def DS.fits (s : DS) (n : Int) (x : ByteArray) : Bool := s.may n == 0 && x.size == 64 && !s.bad n
def DS.writeE (s : DS) (n : Int) (x : ByteArray) : Int := if s.may n ≠ 0 then s.may n else if x.size ≠ 64 then 1 else if s.bad n then 3 else if s.armed = 1 then 2 else 0
def DS.lays (s : DS) (n : Int) (x : ByteArray) : DS := { s.tick with loose := putL n x s.loose }
def DS.write (s : DS) (n : Int) (x : ByteArray) : DS := if s.fits n x then (if s.armed = 1 then (s.lays n x).goes s.keep else s.lays n x) else s
def DS.syncE (s : DS) : Int := if s.dead then 2 else if s.armed = 1 then 2 else 0
def DS.settled (s : DS) : DS := { s with stay := laid (fun _ => true) s.loose s.stay, loose := [] }
def DS.sync (s : DS) : DS := if s.dead then s else if s.armed = 1 then s.tick.goes s.keep else s.tick.settled
def DS.setBad (s : DS) (n : Int) (b : Bool) : DS := if s.may n = 0 then { s with bad := fun k => if k = n then b else s.bad k } else s
def DS.armE (s : DS) (n : Int) : Int := if s.dead then 2 else if n < 0 then 1 else 0
def DS.setArm (s : DS) (n : Int) (keep : ByteArray) : DS := if s.dead ∨ n < 0 then s else if n = 0 then { s with armed := 0, keep := none0 } else { s with armed := n.toNat, keep := keep }
def DS.crashE (s : DS) : Int := if s.dead then 2 else 0
def DS.crash (s : DS) (keep : ByteArray) : DS := if s.dead then s else s.goes keep
def DS.revive (s : DS) : DS := { s with dead := false, armed := 0, keep := none0 }
def fresh (st : List ByteArray) : DS := ⟨st, [], fun _ => false, 0, 0, none0, false⟩

section
variable {s : DS}
theorem DS.Ok.goes (h : s.Ok) (keep : ByteArray) : (s.goes keep).Ok :=
  ⟨by simpa [DS.goes, length_laid] using h.pos, by simpa [DS.goes, length_laid] using h.le, laid_size h.sz (fun q hq => (h.key q hq).2.2), by simp [DS.goes], by simp [DS.goes], by simp [DS.goes], by simp [DS.goes], none0_le _⟩
theorem DS.Ok.tick (h : s.Ok) : s.tick.Ok := ⟨h.pos, h.le, h.sz, h.nd, h.key, by have := h.few; simp [DS.tick]; omega, by have := h.arm; simp [DS.tick]; omega, h.keep⟩
theorem DS.Ok.lays (h : s.Ok) {n : Int} {x : ByteArray} (h0 : 0 ≤ n) (h1 : n < s.stay.length) (hx : x.size = 64) : (s.lays n x).Ok :=
  ⟨h.pos, h.le, h.sz, nodup_putL _ _ h.nd, fun q hq => by
    rcases mem_putL hq with rfl | hq
    · exact ⟨h0, h1, hx⟩
    · exact h.key q hq, by have := h.few; have := len_putL_le n x s.loose; simp [DS.lays, DS.tick]; omega, by have := h.arm; simp [DS.lays, DS.tick]; omega, h.keep⟩
theorem DS.may_ok {n : Int} (h : s.may n = 0) : s.dead = false ∧ 0 ≤ n ∧ n < s.stay.length := by
  unfold DS.may at h
  split at h
  · cases h
  · split at h
    · cases h
    · rename_i h1 h2
      exact ⟨by simpa using h1, by omega, by omega⟩
theorem DS.fits_ok {n : Int} {x : ByteArray} (h : s.fits n x = true) : s.may n = 0 ∧ x.size = 64 ∧ s.bad n = false := by
  simp [DS.fits] at h
  exact ⟨h.1.1, h.1.2, h.2⟩
theorem DS.Ok.write (h : s.Ok) (n : Int) (x : ByteArray) : (s.write n x).Ok := by
  unfold DS.write
  split
  · rename_i hf
    obtain ⟨h1, h2, h3⟩ := DS.fits_ok hf
    obtain ⟨_, h4, h5⟩ := DS.may_ok h1
    split
    · exact (h.lays h4 h5 h2).goes _
    · exact h.lays h4 h5 h2
  · exact h
theorem DS.Ok.settled (h : s.Ok) : s.settled.Ok :=
  ⟨by simpa [DS.settled, length_laid] using h.pos, by simpa [DS.settled, length_laid] using h.le, fun b hb => laid_size (f := fun _ => true) (l := s.loose) (st := s.stay) h.sz (fun q hq => (h.key q hq).2.2) b hb, by simp [DS.settled], by simp [DS.settled], by simp [DS.settled], h.arm, h.keep⟩
theorem DS.Ok.sync (h : s.Ok) : s.sync.Ok := by
  unfold DS.sync
  split
  · exact h
  · split
    · exact h.tick.goes _
    · exact h.tick.settled
theorem DS.Ok.setBad (h : s.Ok) (n : Int) (b : Bool) : (s.setBad n b).Ok := by
  unfold DS.setBad
  split
  · exact ⟨h.pos, h.le, h.sz, h.nd, h.key, h.few, h.arm, h.keep⟩
  · exact h
theorem DS.Ok.setArm (h : s.Ok) {n : Int} (hn : n ≤ 9223372036854775807) {keep : ByteArray} (hk : keep.size ≤ 140737488355328) : (s.setArm n keep).Ok := by
  unfold DS.setArm
  split
  · exact h
  · split
    · exact ⟨h.pos, h.le, h.sz, h.nd, h.key, h.few, by simp, none0_le _⟩
    · exact ⟨h.pos, h.le, h.sz, h.nd, h.key, h.few, by simp; omega, hk⟩
theorem DS.Ok.crash (h : s.Ok) (keep : ByteArray) : (s.crash keep).Ok := by
  unfold DS.crash
  split
  · exact h
  · exact h.goes keep
theorem DS.Ok.revive (h : s.Ok) : s.revive.Ok := ⟨h.pos, h.le, h.sz, h.nd, h.key, h.few, by simp [DS.revive], none0_le _⟩
theorem fresh_ok {st : List ByteArray} (h1 : 1 ≤ st.length) (h2 : st.length ≤ 16384) (h3 : ∀ b ∈ st, b.size = 64) : (fresh st).Ok :=
  ⟨h1, h2, h3, by simp [fresh], by simp [fresh], by simp [fresh], by simp [fresh], none0_le _⟩
theorem DS.Ok.look_size (h : s.Ok) {n : Int} (h0 : 0 ≤ n) (h1 : n < s.stay.length) : (s.look n).size = 64 := by
  unfold DS.look
  cases hs : seek n s.loose 0 with
  | none =>
    simp only
    rw [List.getD_eq_getElem?_getD, List.getElem?_eq_getElem (by omega)]
    exact h.sz _ (List.getElem_mem _)
  | some z =>
    obtain ⟨i, hi, _, e⟩ := seek_some hs
    exact (h.key (n, z.2) (e ▸ List.getElem_mem _)).2.2
/-- the step in which the power goes, as it lies in memory -/
def DS.armZ (s : DS) : Int := if s.armed = 0 then 0 else (s.made + s.armed + 9223372036854775808 : Int) % 18446744073709551616 - 9223372036854775808
theorem DS.armZ_tick (h : 0 < s.armed → 1 < s.armed) : s.tick.armZ = s.armZ := by
  unfold DS.armZ DS.tick
  by_cases e : s.armed = 0
  · simp [e]
  · have := h (by omega)
    simp only [show s.armed - 1 ≠ 0 by omega, e, if_false]
    congr 2
    omega
theorem DS.armZ_is (h : s.armed ≤ 9223372036854775807) (hm : s.made < 1099511627776) : ((s.made : Int) + 1 = s.armZ) ↔ s.armed = 1 := by
  have := h
  unfold DS.armZ
  split
  · omega
  · omega
end
end Go.Proofs.Ytmbknpipefbelaa
