/-
  A log's sectors: what a half's bytes are, and stay, when some of its sectors are written anew.
-/
import Derived.Test.YtmbknpipefbelaaNvMath
namespace Go.Proofs.Ytmbknpipefbelaa
open Go

theorem flat_get : ∀ {st : List ByteArray}, (∀ b ∈ st, b.size = 64) → ∀ p : Nat, (flat st)[p]? = (st[p / 64]?).bind fun b => b.data.toList[p % 64]?
  | [], _, p => by simp [flat]
  | b :: r, h, p => by
    have hb : b.data.toList.length = 64 := by rw [len_of, h b (by simp)]
    rw [flat_cons]
    by_cases hp : p < 64
    · rw [List.getElem?_append_left (by omega), show p / 64 = 0 by omega, show p % 64 = p by omega]
      rfl
    · have ih := flat_get (st := r) (fun x hx => h x (by simp [hx])) (p - 64)
      rw [List.getElem?_append_right (by omega), hb, ih, show (p - 64) / 64 = p / 64 - 1 by omega, show (p - 64) % 64 = p % 64 by omega]
      obtain ⟨q, hq⟩ : ∃ q, p / 64 = q + 1 := ⟨p / 64 - 1, by omega⟩
      rw [hq]
      rfl
/-- a sector of bytes, noughts behind them -/
def secL (all : List UInt8) (i : Nat) : List UInt8 := (all.drop (64 * i)).take 64 ++ List.replicate (64 - ((all.drop (64 * i)).take 64).length) 0
def secB (all : List UInt8) (i : Nat) : ByteArray := ⟨(secL all i).toArray⟩
theorem length_secL (all : List UInt8) (i : Nat) : (secL all i).length = 64 := by
  have : ((all.drop (64 * i)).take 64).length ≤ 64 := by simp; omega
  simp only [secL, List.length_append, List.length_replicate]
  omega
theorem size_secB (all : List UInt8) (i : Nat) : (secB all i).size = 64 := by
  show (secL all i).toArray.size = 64
  rw [List.size_toArray, length_secL]
theorem secB_get {all : List UInt8} {i q : Nat} (hq : q < 64) (h : 64 * i + q < all.length) : (secB all i).data.toList[q]? = all[64 * i + q]? := by
  show (secL all i).toArray.toList[q]? = _
  rw [List.toList_toArray, secL, List.getElem?_append_left (by simp; omega), List.getElem?_take, if_pos hq, List.getElem?_drop]
/-- the bytes that count stay, if each sector is as it was, or has what begins with them -/
theorem bytes_stay {st st' : List ByteArray} {from_ : Nat} {all old : List UInt8} (h1 : ∀ b ∈ st, b.size = 64) (h2 : ∀ b ∈ st', b.size = 64) (hp : all.take old.length = old) (hb : ((flat st).drop (64 * from_)).take old.length = old)
    (hm : ∀ j, from_ ≤ j → j < from_ + (old.length + 63) / 64 → st'[j]? = st[j]? ∨ st'[j]? = some (secB all (j - from_))) : ((flat st').drop (64 * from_)).take old.length = old := by
  apply List.ext_getElem?
  intro p
  by_cases hlt : p < old.length
  · have e0 : ((flat st).drop (64 * from_))[p]? = old[p]? := by
      have := congrArg (fun l => l[p]?) hb
      simpa only [List.getElem?_take, if_pos hlt] using this
    have ea : all[p]? = old[p]? := by
      have := congrArg (fun l => l[p]?) hp
      simpa only [List.getElem?_take, if_pos hlt] using this
    rw [List.getElem?_drop, flat_get h1] at e0
    rw [List.getElem?_take, if_pos hlt, List.getElem?_drop, flat_get h2]
    have e1 : (64 * from_ + p) / 64 = from_ + p / 64 := by omega
    have e2 : (64 * from_ + p) % 64 = p % 64 := by omega
    rw [e1, e2] at e0 ⊢
    rcases hm (from_ + p / 64) (by omega) (by omega) with e | e
    · rw [e]; exact e0
    · have hl : old.length ≤ all.length := by
        have := congrArg List.length hp
        rw [List.length_take] at this
        omega
      rw [e, Option.bind_some, show from_ + p / 64 - from_ = p / 64 by omega, secB_get (by omega) (by omega), show 64 * (p / 64) + p % 64 = p by omega]
      exact ea
  · rw [List.getElem?_take, if_neg hlt, List.getElem?_eq_none (by omega)]
/-- all of it is there, if each sector from the one on in which the new bytes begin has been written -/
theorem bytes_all {st' : List ByteArray} {from_ : Nat} {all old : List UInt8} (h2 : ∀ b ∈ st', b.size = 64) (hp : all.take old.length = old) (hb : ((flat st').drop (64 * from_)).take old.length = old)
    (hm : ∀ j, old.length / 64 ≤ j → 64 * j < all.length → st'[from_ + j]? = some (secB all j)) : ((flat st').drop (64 * from_)).take all.length = all := by
  apply List.ext_getElem?
  intro p
  by_cases hlt : p < all.length
  · rw [List.getElem?_take, if_pos hlt]
    by_cases ho : p < old.length
    · have e0 : ((flat st').drop (64 * from_))[p]? = old[p]? := by
        have := congrArg (fun l => l[p]?) hb
        simpa only [List.getElem?_take, if_pos ho] using this
      have ea : all[p]? = old[p]? := by
        have := congrArg (fun l => l[p]?) hp
        simpa only [List.getElem?_take, if_pos ho] using this
      rw [e0, ea]
    · rw [List.getElem?_drop, flat_get h2, show (64 * from_ + p) / 64 = from_ + p / 64 by omega, show (64 * from_ + p) % 64 = p % 64 by omega, hm (p / 64) (by omega) (by omega), Option.bind_some, secB_get (by omega) (by omega), show 64 * (p / 64) + p % 64 = p by omega]
  · rw [List.getElem?_take, if_neg hlt, List.getElem?_eq_none (by omega)]
/-- these sectors are the log of this number and of these records -/
structure Holds (st : List ByteArray) (gen : Nat) (L : List ByteArray) : Prop where
  five : 5 ≤ st.length
  sz : ∀ b ∈ st, b.size = 64
  head : st[0]? = some (headB gen (recB L).length)
  most : gen ≤ 1099511627776
  fits : (recB L).length ≤ 64 * ((st.length - 1) / 2)
  few : ∀ r ∈ L, r.size ≤ 1300
  is : ((flat st).drop (64 * (1 + gen % 2 * ((st.length - 1) / 2)))).take (recB L).length = recB L
/-- what is told of it is one thing -/
theorem Holds.one {st : List ByteArray} {g g' : Nat} {L L' : List ByteArray} (h : Holds st g L) (h' : Holds st g' L') (hs : st.length ≤ 16384) : g = g' ∧ L = L' := by
  have a1 := h.most
  have a2 := h'.most
  have a3 := h.fits
  have a4 := h'.fits
  obtain ⟨rfl, e⟩ := head_inj (by omega) (by omega) (by omega) (by omega) (Option.some.inj (h.head.symm.trans h'.head))
  refine ⟨rfl, ?_⟩
  have e2 := h.is
  rw [e, h'.is] at e2
  have r1 := read_recB L (L.length + L'.length + 1) (by omega) h.few
  have r2 := read_recB L' (L.length + L'.length + 1) (by omega) h'.few
  rw [← e2, r2] at r1
  exact (Option.some.inj r1).symm
/-- where the half of a number begins -/
def halfAt (st : List ByteArray) (gen : Nat) : Nat := 1 + gen % 2 * ((st.length - 1) / 2)
/-- sectors of the half are written, its head is not: the log is what it was -/
theorem Holds.mixed {st st' : List ByteArray} {g : Nat} {L : List ByteArray} {all : List UInt8} (h : Holds st g L) (hl : st'.length = st.length) (hs : ∀ b ∈ st', b.size = 64) (h0 : st'[0]? = st[0]?) (hp : all.take (recB L).length = recB L)
    (hm : ∀ j, halfAt st g ≤ j → j < halfAt st g + ((recB L).length + 63) / 64 → st'[j]? = st[j]? ∨ st'[j]? = some (secB all (j - halfAt st g))) : Holds st' g L :=
  ⟨by rw [hl]; exact h.five, hs, by rw [h0]; exact h.head, h.most, by rw [hl]; exact h.fits, h.few, by rw [hl]; exact bytes_stay h.sz hs hp h.is hm⟩
/-- all of it is written, and the head: one record more -/
theorem Holds.more {st st' : List ByteArray} {g : Nat} {L : List ByteArray} {r : ByteArray} (h : Holds st g L) (hl : st'.length = st.length) (hs : ∀ b ∈ st', b.size = 64) (hr : r.size ≤ 1300) (hf : (recB L).length + 2 + r.size ≤ 64 * ((st.length - 1) / 2))
    (h0 : st'[0]? = some (headB g (recB (L ++ [r])).length)) (hb : ((flat st').drop (64 * halfAt st g)).take (recB L).length = recB L) (hm : ∀ j, (recB L).length / 64 ≤ j → 64 * j < (recB (L ++ [r])).length → st'[halfAt st g + j]? = some (secB (recB (L ++ [r])) j)) : Holds st' g (L ++ [r]) :=
  ⟨by rw [hl]; exact h.five, hs, h0, h.most, by rw [hl, length_recB_snoc]; exact hf, fun x hx => by
    rcases List.mem_append.1 hx with hx | hx
    · exact h.few x hx
    · rw [List.mem_singleton.1 hx]; exact hr, by
    rw [hl]
    exact bytes_all hs (old := recB L) (by rw [recB_append, List.take_append_of_le_length (Nat.le_refl _), List.take_length]) hb hm⟩
/-- a log that is begun anew -/
theorem Holds.anew {st st' : List ByteArray} {g g' : Nat} {L : List ByteArray} (h : Holds st g L) (hl : st'.length = st.length) (hs : ∀ b ∈ st', b.size = 64) (hg : g' ≤ 1099511627776) (h0 : st'[0]? = some (headB g' 0)) : Holds st' g' [] :=
  ⟨by rw [hl]; exact h.five, hs, h0, hg, Nat.zero_le _, by simp, by simp [recB_nil]⟩
end Go.Proofs.Ytmbknpipefbelaa
