/-
  A record is appended, a log begun anew: behind the answer, and behind a crash.
-/
import Derived.Test.YtmbknpipefbelaaNvDS
namespace Go.Proofs.Ytmbknpipefbelaa
open Go

theorem secB_head (g u : Nat) : secB (headL g u) 0 = headB g u := by
  have h := length_headL g u
  simp only [secB, secL, headB, Nat.mul_zero, List.drop_zero]
  rw [List.take_of_length_le (by omega), h, Nat.sub_self, List.replicate_zero, List.append_nil]
section
variable {st st1 st2 : List ByteArray} {g : Nat} {L : List ByteArray} {r : ByteArray}
theorem Mixed.at_zero {from_ lo hi : Nat} {all : List UInt8} (h : Mixed st from_ all lo hi st1) (hf : 1 ≤ from_) : st1[0]? = st[0]? := by
  rcases h.2 0 with e | ⟨i, _, _, e, _⟩
  · exact e
  · omega
theorem Mixed.behind {all : List UInt8} (h : Mixed st1 0 all 0 1 st2) {j : Nat} (hj : 1 ≤ j) : st2[j]? = st1[j]? := by
  rcases h.2 j with e | ⟨i, _, _, e, _⟩
  · exact e
  · omega
theorem halfAt_pos (st : List ByteArray) (g : Nat) : 1 ≤ halfAt st g := by unfold halfAt; omega
theorem halfAt_fit (st : List ByteArray) (g : Nat) (h : 1 ≤ st.length) {n : Nat} (hn : n ≤ (st.length - 1) / 2) : halfAt st g + n ≤ st.length := by
  unfold halfAt
  rcases Nat.mod_two_eq_zero_or_one g with e | e
  · rw [e]; omega
  · rw [e]; omega
theorem halfAt_len (h : st1.length = st.length) (g : Nat) : halfAt st1 g = halfAt st g := by unfold halfAt; rw [h]
/-- the half's sectors are written, some or all: the log is what it was -/
theorem Holds.half (h : Holds st g L) (hs : ∀ b ∈ st1, b.size = 64) {lo hi : Nat} (hm : Mixed st (halfAt st g) (recB (L ++ [r])) lo hi st1) : Holds st1 g L :=
  h.mixed (all := recB (L ++ [r])) hm.1 hs (hm.at_zero (halfAt_pos _ _)) (by rw [recB_append, List.take_append_of_le_length (Nat.le_refl _), List.take_length]) (fun j h1 _ => by
    rcases hm.2 j with e | ⟨i, _, _, e, e2⟩
    · exact .inl e
    · exact .inr (by rw [e2, e, Nat.add_sub_cancel_left]))
/-- the head is written, or not -/
theorem Holds.top (h : Holds st1 g L) (hs : ∀ b ∈ st2, b.size = 64) {all : List UInt8} (hm : Mixed st1 0 all 0 1 st2) (h0 : st2[0]? = st1[0]?) : Holds st2 g L :=
  h.mixed (all := recB L) hm.1 hs h0 (List.take_length ..) (fun j h1 _ => .inl (hm.behind (by have := halfAt_pos st1 g; omega)))
theorem Holds.next (h : Holds st1 g L) (hs : ∀ b ∈ st2, b.size = 64) {all : List UInt8} (hm : Mixed st1 0 all 0 1 st2) (h0 : st2[0]? = some (headB g (recB (L ++ [r])).length)) (hr : r.size ≤ 1300) (hf : (recB L).length + 2 + r.size ≤ 64 * ((st1.length - 1) / 2))
    (ha : ∀ j, (recB L).length / 64 ≤ j → 64 * j < (recB (L ++ [r])).length → st1[halfAt st1 g + j]? = some (secB (recB (L ++ [r])) j)) : Holds st2 g (L ++ [r]) :=
  h.more hm.1 hs hr hf h0 (bytes_stay (all := recB L) h.sz hs (List.take_length ..) h.is (fun j h1 _ => .inl (hm.behind (Nat.le_trans (Nat.le_add_right 1 _) h1)))) (fun j h1 h2 => by
    rw [hm.behind (by have := halfAt_pos st1 g; omega)]
    exact ha j h1 h2)
end
/-- behind a call in which the power went -/
structure Gone (s : DS) : Prop where
  ok : s.Ok
  dead : s.dead = true
  bad : ∀ j, s.bad j = false
  none_ : s.loose = []
theorem Torn.gone {st : List ByteArray} {from_ lo hi : Nat} {all : List UInt8} {s : DS} (h : Torn st from_ all lo hi s) : Gone s := ⟨h.ok, h.dead, h.bad, h.none_⟩
theorem Gone.revive {s : DS} (h : Gone s) : Quiet s.revive ∧ s.revive.stay = s.stay := ⟨⟨h.ok.revive, rfl, h.bad, h.none_⟩, rfl⟩
/-- sector 0 is written, and synced -/
def heads (g u : Nat) (s : DS) : Int × DS := put 0 (headL g u) 0 1 s
/-- what Append makes of a disk -/
def appD (g : Nat) (L : List ByteArray) (r : ByteArray) (s : DS) : Int × DS :=
  if (put (halfAt s.stay g) (recB (L ++ [r])) ((recB L).length / 64) (((recB (L ++ [r])).length + 63) / 64 - (recB L).length / 64) s).1 = 0
  then heads g (recB (L ++ [r])).length (put (halfAt s.stay g) (recB (L ++ [r])) ((recB L).length / 64) (((recB (L ++ [r])).length + 63) / 64 - (recB L).length / 64) s).2
  else put (halfAt s.stay g) (recB (L ++ [r])) ((recB L).length / 64) (((recB (L ++ [r])).length + 63) / 64 - (recB L).length / 64) s
theorem heads_is {s : DS} (h : Quiet s) (g u : Nat) : ((heads g u s).1 = 0 ∧ Quiet (heads g u s).2 ∧ Mixed s.stay 0 (headL g u) 0 1 (heads g u s).2.stay ∧ (heads g u s).2.stay[0]? = some (headB g u)) ∨
    ((heads g u s).1 = 2 ∧ Gone (heads g u s).2 ∧ Mixed s.stay 0 (headL g u) 0 1 (heads g u s).2.stay ∧ ((heads g u s).2.stay[0]? = s.stay[0]? ∨ (heads g u s).2.stay[0]? = some (headB g u))) := by
  have hp := h.ok.pos
  rcases put_is (from_ := 0) (all := headL g u) h 0 1 (by omega) with ⟨e, hq, hm, ha⟩ | ⟨e, ht⟩
  · refine .inl ⟨e, hq, hm, ?_⟩
    have := ha 0 (by omega) (by omega)
    rw [secB_head] at this
    exact this
  · refine .inr ⟨e, ht.gone, ht.mixed, ?_⟩
    rcases ht.mixed.2 0 with e1 | ⟨i, _, _, e2, e3⟩
    · exact .inl e1
    · obtain rfl : i = 0 := by omega
      rw [secB_head] at e3
      exact .inr e3
/-- THE HEART OF P7.5 -/
theorem app_keeps {s : DS} {g : Nat} {L : List ByteArray} {r : ByteArray} (h : Quiet s) (hl : Holds s.stay g L) (hr : r.size ≤ 1300) (hf : (recB L).length + 2 + r.size ≤ 64 * ((s.stay.length - 1) / 2)) :
    ((appD g L r s).1 = 0 ∧ Quiet (appD g L r s).2 ∧ (appD g L r s).2.stay.length = s.stay.length ∧ Holds (appD g L r s).2.stay g (L ++ [r])) ∨
    ((appD g L r s).1 = 2 ∧ Gone (appD g L r s).2 ∧ (appD g L r s).2.stay.length = s.stay.length ∧ (Holds (appD g L r s).2.stay g L ∨ Holds (appD g L r s).2.stay g (L ++ [r]))) := by
  have hlen := length_recB_snoc L r
  have hfit := halfAt_fit s.stay g h.ok.pos (n := ((recB (L ++ [r])).length + 63) / 64) (by omega)
  have hlo : (recB L).length / 64 + (((recB (L ++ [r])).length + 63) / 64 - (recB L).length / 64) = ((recB (L ++ [r])).length + 63) / 64 := by omega
  have hp := put_is (from_ := halfAt s.stay g) (all := recB (L ++ [r])) h ((recB L).length / 64) (((recB (L ++ [r])).length + 63) / 64 - (recB L).length / 64) (by omega)
  unfold appD
  generalize put (halfAt s.stay g) (recB (L ++ [r])) ((recB L).length / 64) (((recB (L ++ [r])).length + 63) / 64 - (recB L).length / 64) s = p at hp
  rcases hp with ⟨e, hq, hm, ha⟩ | ⟨e, ht⟩
  · rw [if_pos e]
    have hl1 := hl.half hq.ok.sz hm
    have ha1 : ∀ j, (recB L).length / 64 ≤ j → 64 * j < (recB (L ++ [r])).length → p.2.stay[halfAt p.2.stay g + j]? = some (secB (recB (L ++ [r])) j) := fun j h1 h2 => by
      rw [halfAt_len hm.1]
      exact ha j h1 (by omega)
    have hf1 : (recB L).length + 2 + r.size ≤ 64 * ((p.2.stay.length - 1) / 2) := by rw [hm.1]; exact hf
    rcases heads_is hq g (recB (L ++ [r])).length with ⟨e1, hq1, hm1, h0⟩ | ⟨e1, hg1, hm1, h0⟩
    · exact .inl ⟨e1, hq1, hm1.1.trans hm.1, hl1.next hq1.ok.sz hm1 h0 hr hf1 ha1⟩
    · refine .inr ⟨e1, hg1, hm1.1.trans hm.1, ?_⟩
      rcases h0 with h0 | h0
      · exact .inl (hl1.top hg1.ok.sz hm1 h0)
      · exact .inr (hl1.next hg1.ok.sz hm1 h0 hr hf1 ha1)
  · rw [if_neg (by rw [e]; decide)]
    exact .inr ⟨e, ht.gone, ht.mixed.1, .inl (hl.half ht.ok.sz ht.mixed)⟩
/-- a log begun anew -/
theorem start_keeps {s : DS} {g g' : Nat} {L : List ByteArray} (h : Quiet s) (hl : Holds s.stay g L) (hg : g' ≤ 1099511627776) :
    ((heads g' 0 s).1 = 0 ∧ Quiet (heads g' 0 s).2 ∧ (heads g' 0 s).2.stay.length = s.stay.length ∧ Holds (heads g' 0 s).2.stay g' []) ∨
    ((heads g' 0 s).1 = 2 ∧ Gone (heads g' 0 s).2 ∧ (heads g' 0 s).2.stay.length = s.stay.length ∧ (Holds (heads g' 0 s).2.stay g L ∨ Holds (heads g' 0 s).2.stay g' [])) := by
  rcases heads_is h g' 0 with ⟨e1, hq1, hm1, h0⟩ | ⟨e1, hg1, hm1, h0⟩
  · exact .inl ⟨e1, hq1, hm1.1, hl.anew hm1.1 hq1.ok.sz hg h0⟩
  · refine .inr ⟨e1, hg1, hm1.1, ?_⟩
    rcases h0 with h0 | h0
    · exact .inl (hl.top hg1.ok.sz hm1 h0)
    · exact .inr (hl.anew hm1.1 hg1.ok.sz hg h0)
end Go.Proofs.Ytmbknpipefbelaa
