/-
  NvMath / NvDisk / NvDS / NvKeeps.
-/
import Derived.Test.YtmloljjllmmkoaaGreatMB
namespace Go.Proofs.YtmloljjllmmkoaaGreat
open Go

/-- a number in so many bytes, the lowest first -/
def leN : Nat → Nat → List UInt8
  | _, 0 => []
  | n, k + 1 => UInt8.ofNat (n % 256) :: leN (n / 256) k
def valN : List UInt8 → Nat
  | [] => 0
  | b :: r => b.toNat + 256 * valN r
theorem length_leN : ∀ (n k : Nat), (leN n k).length = k
  | _, 0 => rfl
  | n, k + 1 => by rw [leN, List.length_cons, length_leN]
theorem val_leN : ∀ (k n : Nat), n < 256 ^ k → valN (leN n k) = n
  | 0, n, h => by simp at h; simp [leN, valN, h]
  | k + 1, n, h => by
    have h1 : n / 256 < 256 ^ k := by
      rw [Nat.pow_succ] at h
      exact Nat.div_lt_of_lt_mul (by rw [Nat.mul_comm]; exact h)
    rw [leN, valN, val_leN k _ h1]
    have : (UInt8.ofNat (n % 256)).toNat = n % 256 := by simp
    rw [this]
    omega
theorem valN_lt : ∀ l : List UInt8, valN l < 256 ^ l.length
  | [] => by simp [valN]
  | b :: r => by
    have h1 := valN_lt r
    have h2 := b.toNat_lt
    rw [valN, List.length_cons, Nat.pow_succ]
    omega
theorem leN_val : ∀ l : List UInt8, leN (valN l) l.length = l
  | [] => rfl
  | b :: r => by
    have h2 := b.toNat_lt
    rw [valN, List.length_cons, leN, show (b.toNat + 256 * valN r) / 256 = valN r by omega, leN_val r, show (b.toNat + 256 * valN r) % 256 = b.toNat by omega]
    simp
theorem leN_inj {n m k : Nat} (hn : n < 256 ^ k) (hm : m < 256 ^ k) (h : leN n k = leN m k) : n = m := by
  rw [← val_leN k n hn, h, val_leN k m hm]
theorem leN_snoc : ∀ (k n : Nat), leN n (k + 1) = leN n k ++ [UInt8.ofNat (n / 256 ^ k % 256)]
  | 0, n => by simp [leN]
  | k + 1, n => by
    rw [leN, leN_snoc k (n / 256), leN, List.cons_append, Nat.div_div_eq_div_mul, Nat.pow_succ, Nat.mul_comm 256]

/-- sector 0 -/
def headL (gen used : Nat) : List UInt8 := [78, 86] ++ leN gen 6 ++ leN used 4 ++ List.replicate 52 0
def headB (gen used : Nat) : ByteArray := ⟨(headL gen used).toArray⟩
theorem length_headL (gen used : Nat) : (headL gen used).length = 64 := by simp [headL, length_leN]
theorem size_headB (gen used : Nat) : (headB gen used).size = 64 := by
  show (headL gen used).toArray.size = 64
  rw [List.size_toArray, length_headL]
theorem head_gen {gen : Nat} (used : Nat) (h : gen < 281474976710656) : valN (((headL gen used).drop 2).take 6) = gen := by
  have e : ((headL gen used).drop 2).take 6 = leN gen 6 := by
    simp only [headL, List.append_assoc, List.cons_append, List.nil_append, List.drop_succ_cons, List.drop_zero]
    rw [List.take_append_of_le_length (by rw [length_leN]; omega), List.take_of_length_le (by rw [length_leN]; omega)]
  rw [e, val_leN 6 gen (by omega)]
theorem head_used (gen : Nat) {used : Nat} (h : used < 4294967296) : valN (((headL gen used).drop 8).take 4) = used := by
  have e : ((headL gen used).drop 8).take 4 = leN used 4 := by
    have h1 : headL gen used = ([78, 86] ++ leN gen 6) ++ (leN used 4 ++ List.replicate 52 0) := by simp [headL]
    have h2 : ([78, 86] ++ leN gen 6).length = 8 := by simp [length_leN]
    rw [h1, List.drop_append_of_le_length (by omega), List.drop_of_length_le (by omega), List.nil_append, List.take_append_of_le_length (by rw [length_leN]; omega), List.take_of_length_le (by rw [length_leN]; omega)]
  rw [e, val_leN 4 used (by omega)]
theorem head_inj {g u g' u' : Nat} (h1 : g < 281474976710656) (h2 : u < 4294967296) (h3 : g' < 281474976710656) (h4 : u' < 4294967296) (h : headB g u = headB g' u') : g = g' ∧ u = u' := by
  have e : headL g u = headL g' u' := by
    have := congrArg (fun b : ByteArray => b.data.toList) h
    simpa [headB] using this
  exact ⟨by rw [← head_gen u h1, e, head_gen u' h3], by rw [← head_used g h2, e, head_used g' h4]⟩

/-- records, one behind the other -/
def recB (l : List ByteArray) : List UInt8 := l.flatMap fun r => leN r.size 2 ++ r.data.toList
theorem recB_nil : recB [] = [] := rfl
theorem recB_cons (r : ByteArray) (l : List ByteArray) : recB (r :: l) = leN r.size 2 ++ (r.data.toList ++ recB l) := by simp [recB]
theorem recB_append (a b : List ByteArray) : recB (a ++ b) = recB a ++ recB b := by simp [recB]
theorem length_recB_snoc (l : List ByteArray) (r : ByteArray) : (recB (l ++ [r])).length = (recB l).length + 2 + r.size := by
  rw [recB_append, List.length_append, recB_cons, recB_nil, List.append_nil, List.length_append, length_leN, len_of]
  omega
/-- what bytes are whole records; none: they are not -/
def readRecs : Nat → List UInt8 → Option (List ByteArray)
  | 0, _ => none
  | f + 1, l => if l.length = 0 then some [] else if l.length < 2 ∨ 1300 < valN (l.take 2) ∨ l.length - 2 < valN (l.take 2) then none else (readRecs f (l.drop (2 + valN (l.take 2)))).map fun r => ⟨((l.drop 2).take (valN (l.take 2))).toArray⟩ :: r
theorem read_recB : ∀ (l : List ByteArray) (f : Nat), l.length < f → (∀ r ∈ l, r.size ≤ 1300) → readRecs f (recB l) = some l
  | [], f + 1, _, _ => by simp [readRecs, recB]
  | _, 0, h, _ => by omega
  | r :: l, f + 1, h, hs => by
    have h1 := hs r (by simp)
    have ih := read_recB l f (by simp at h; omega) (fun x hx => hs x (by simp [hx]))
    have hl : (recB (r :: l)).length = 2 + (r.size + (recB l).length) := by rw [recB_cons, List.length_append, List.length_append, length_leN, len_of]
    have ht : (recB (r :: l)).take 2 = leN r.size 2 := by rw [recB_cons, List.take_append_of_le_length (by rw [length_leN]; omega), List.take_of_length_le (by rw [length_leN]; omega)]
    have hv : valN ((recB (r :: l)).take 2) = r.size := by rw [ht, val_leN 2 _ (by omega)]
    have hd : (recB (r :: l)).drop 2 = r.data.toList ++ recB l := by rw [recB_cons, List.drop_append_of_le_length (by rw [length_leN]; omega), List.drop_of_length_le (by rw [length_leN]; omega), List.nil_append]
    have hd2 : (recB (r :: l)).drop (2 + r.size) = recB l := by rw [← List.drop_drop, hd, List.drop_append_of_le_length (by rw [len_of]; omega), List.drop_of_length_le (by rw [len_of]; omega), List.nil_append]
    rw [readRecs, hv, hd, hd2, ih, if_neg (by omega), if_neg (by omega), List.take_append_of_le_length (by rw [len_of]; omega), List.take_of_length_le (by rw [len_of]; omega)]
    simp
/-- and the other way: what was read are those bytes -/
theorem recB_read : ∀ (f : Nat) (b : List UInt8) (l : List ByteArray), readRecs f b = some l → recB l = b ∧ ∀ r ∈ l, r.size ≤ 1300
  | 0, b, l, h => by simp [readRecs] at h
  | f + 1, b, l, h => by
    rw [readRecs] at h
    split at h
    · rename_i h0
      obtain rfl : [] = l := Option.some.inj h
      exact ⟨(List.eq_nil_of_length_eq_zero h0).symm, by simp⟩
    · split at h
      · cases h
      · rename_i h0 h1
        obtain ⟨r, hr, rfl⟩ := Option.map_eq_some_iff.1 h
        obtain ⟨e, hs⟩ := recB_read f _ r hr
        have h2 : (b.take 2).length = 2 := by simp; omega
        have hsz : (⟨((b.drop 2).take (valN (b.take 2))).toArray⟩ : ByteArray).size = valN (b.take 2) := by
          show ((b.drop 2).take (valN (b.take 2))).toArray.size = _
          simp; omega
        refine ⟨?_, fun x hx => ?_⟩
        · rw [recB_cons, hsz, e]
          have := leN_val (b.take 2)
          rw [h2] at this
          rw [this]
          show b.take 2 ++ (((b.drop 2).take (valN (b.take 2))).toArray.toList ++ _) = b
          rw [← List.drop_drop, List.toList_toArray, List.take_append_drop, List.take_append_drop]
        · rcases List.mem_cons.1 hx with rfl | hx
          · rw [hsz]; omega
          · exact hs x hx
end Go.Proofs.YtmloljjllmmkoaaGreat

namespace Go.Proofs.YtmloljjllmmkoaaGreat
open Go

theorem flat_get : ∀ {st : List ByteArray}, (∀ b ∈ st, b.size = 64) → ∀ p : Nat, (flat st)[p]? = (st[p / 64]?).bind fun b => b.data.toList[p % 64]?
  | [], _, p => by simp [flat]
  | b :: r, h, p => by
    have hb : b.data.toList.length = 64 := by rw [len_of, h b (by simp)]
    rw [flat_cons]
    by_cases hp : p < 64
    · rw [List.getElem?_append_left (by omega), show p / 64 = 0 by omega, show p % 64 = p by omega]
      rfl
    · have ih := flat_get (st := r) (fun x hx => h x (by simp [hx])) (p - 64)
      rw [List.getElem?_append_right (by omega), hb, ih, show (p - 64) / 64 = p / 64 - 1 by omega, show (p - 64) % 64 = p % 64 by omega]
      obtain ⟨q, hq⟩ : ∃ q, p / 64 = q + 1 := ⟨p / 64 - 1, by omega⟩
      rw [hq]
      rfl
/-- a sector of bytes, noughts behind them -/
def secL (all : List UInt8) (i : Nat) : List UInt8 := (all.drop (64 * i)).take 64 ++ List.replicate (64 - ((all.drop (64 * i)).take 64).length) 0
def secB (all : List UInt8) (i : Nat) : ByteArray := ⟨(secL all i).toArray⟩
theorem length_secL (all : List UInt8) (i : Nat) : (secL all i).length = 64 := by
  have : ((all.drop (64 * i)).take 64).length ≤ 64 := by simp; omega
  simp only [secL, List.length_append, List.length_replicate]
  omega
theorem size_secB (all : List UInt8) (i : Nat) : (secB all i).size = 64 := by
  show (secL all i).toArray.size = 64
  rw [List.size_toArray, length_secL]
theorem secB_get {all : List UInt8} {i q : Nat} (hq : q < 64) (h : 64 * i + q < all.length) : (secB all i).data.toList[q]? = all[64 * i + q]? := by
  show (secL all i).toArray.toList[q]? = _
  rw [List.toList_toArray, secL, List.getElem?_append_left (by simp; omega), List.getElem?_take, if_pos hq, List.getElem?_drop]
/-- the bytes that count stay, if each sector is as it was, or has what begins with them -/
theorem bytes_stay {st st' : List ByteArray} {from_ : Nat} {all old : List UInt8} (h1 : ∀ b ∈ st, b.size = 64) (h2 : ∀ b ∈ st', b.size = 64) (hp : all.take old.length = old) (hb : ((flat st).drop (64 * from_)).take old.length = old)
    (hm : ∀ j, from_ ≤ j → j < from_ + (old.length + 63) / 64 → st'[j]? = st[j]? ∨ st'[j]? = some (secB all (j - from_))) : ((flat st').drop (64 * from_)).take old.length = old := by
  apply List.ext_getElem?
  intro p
  by_cases hlt : p < old.length
  · have e0 : ((flat st).drop (64 * from_))[p]? = old[p]? := by
      have := congrArg (fun l => l[p]?) hb
      simpa only [List.getElem?_take, if_pos hlt] using this
    have ea : all[p]? = old[p]? := by
      have := congrArg (fun l => l[p]?) hp
      simpa only [List.getElem?_take, if_pos hlt] using this
    rw [List.getElem?_drop, flat_get h1] at e0
    rw [List.getElem?_take, if_pos hlt, List.getElem?_drop, flat_get h2]
    have e1 : (64 * from_ + p) / 64 = from_ + p / 64 := by omega
    have e2 : (64 * from_ + p) % 64 = p % 64 := by omega
    rw [e1, e2] at e0 ⊢
    rcases hm (from_ + p / 64) (by omega) (by omega) with e | e
    · rw [e]; exact e0
    · have hl : old.length ≤ all.length := by
        have := congrArg List.length hp
        rw [List.length_take] at this
        omega
      rw [e, Option.bind_some, show from_ + p / 64 - from_ = p / 64 by omega, secB_get (by omega) (by omega), show 64 * (p / 64) + p % 64 = p by omega]
      exact ea
  · rw [List.getElem?_take, if_neg hlt, List.getElem?_eq_none (by omega)]
/-- all of it is there, if each sector from the one on in which the new bytes begin has been written -/
theorem bytes_all {st' : List ByteArray} {from_ : Nat} {all old : List UInt8} (h2 : ∀ b ∈ st', b.size = 64) (hp : all.take old.length = old) (hb : ((flat st').drop (64 * from_)).take old.length = old)
    (hm : ∀ j, old.length / 64 ≤ j → 64 * j < all.length → st'[from_ + j]? = some (secB all j)) : ((flat st').drop (64 * from_)).take all.length = all := by
  apply List.ext_getElem?
  intro p
  by_cases hlt : p < all.length
  · rw [List.getElem?_take, if_pos hlt]
    by_cases ho : p < old.length
    · have e0 : ((flat st').drop (64 * from_))[p]? = old[p]? := by
        have := congrArg (fun l => l[p]?) hb
        simpa only [List.getElem?_take, if_pos ho] using this
      have ea : all[p]? = old[p]? := by
        have := congrArg (fun l => l[p]?) hp
        simpa only [List.getElem?_take, if_pos ho] using this
      rw [e0, ea]
    · rw [List.getElem?_drop, flat_get h2, show (64 * from_ + p) / 64 = from_ + p / 64 by omega, show (64 * from_ + p) % 64 = p % 64 by omega, hm (p / 64) (by omega) (by omega), Option.bind_some, secB_get (by omega) (by omega), show 64 * (p / 64) + p % 64 = p by omega]
  · rw [List.getElem?_take, if_neg hlt, List.getElem?_eq_none (by omega)]
/-- these sectors are the log of this number and of these records -/
structure Holds (st : List ByteArray) (gen : Nat) (L : List ByteArray) : Prop where
  five : 5 ≤ st.length
  sz : ∀ b ∈ st, b.size = 64
  head : st[0]? = some (headB gen (recB L).length)
  most : gen ≤ 1099511627776
  fits : (recB L).length ≤ 64 * ((st.length - 1) / 2)
  few : ∀ r ∈ L, r.size ≤ 1300
  is : ((flat st).drop (64 * (1 + gen % 2 * ((st.length - 1) / 2)))).take (recB L).length = recB L
/-- what is told of it is one thing -/
theorem Holds.one {st : List ByteArray} {g g' : Nat} {L L' : List ByteArray} (h : Holds st g L) (h' : Holds st g' L') (hs : st.length ≤ 16384) : g = g' ∧ L = L' := by
  have a1 := h.most
  have a2 := h'.most
  have a3 := h.fits
  have a4 := h'.fits
  obtain ⟨rfl, e⟩ := head_inj (by omega) (by omega) (by omega) (by omega) (Option.some.inj (h.head.symm.trans h'.head))
  refine ⟨rfl, ?_⟩
  have e2 := h.is
  rw [e, h'.is] at e2
  have r1 := read_recB L (L.length + L'.length + 1) (by omega) h.few
  have r2 := read_recB L' (L.length + L'.length + 1) (by omega) h'.few
  rw [← e2, r2] at r1
  exact (Option.some.inj r1).symm
/-- where the half of a number begins -/
def halfAt (st : List ByteArray) (gen : Nat) : Nat := 1 + gen % 2 * ((st.length - 1) / 2)
/-- sectors of the half are written, its head is not: the log is what it was -/
theorem Holds.mixed {st st' : List ByteArray} {g : Nat} {L : List ByteArray} {all : List UInt8} (h : Holds st g L) (hl : st'.length = st.length) (hs : ∀ b ∈ st', b.size = 64) (h0 : st'[0]? = st[0]?) (hp : all.take (recB L).length = recB L)
    (hm : ∀ j, halfAt st g ≤ j → j < halfAt st g + ((recB L).length + 63) / 64 → st'[j]? = st[j]? ∨ st'[j]? = some (secB all (j - halfAt st g))) : Holds st' g L :=
  ⟨by rw [hl]; exact h.five, hs, by rw [h0]; exact h.head, h.most, by rw [hl]; exact h.fits, h.few, by rw [hl]; exact bytes_stay h.sz hs hp h.is hm⟩
/-- all of it is written, and the head: one record more -/
theorem Holds.more {st st' : List ByteArray} {g : Nat} {L : List ByteArray} {r : ByteArray} (h : Holds st g L) (hl : st'.length = st.length) (hs : ∀ b ∈ st', b.size = 64) (hr : r.size ≤ 1300) (hf : (recB L).length + 2 + r.size ≤ 64 * ((st.length - 1) / 2))
    (h0 : st'[0]? = some (headB g (recB (L ++ [r])).length)) (hb : ((flat st').drop (64 * halfAt st g)).take (recB L).length = recB L) (hm : ∀ j, (recB L).length / 64 ≤ j → 64 * j < (recB (L ++ [r])).length → st'[halfAt st g + j]? = some (secB (recB (L ++ [r])) j)) : Holds st' g (L ++ [r]) :=
  ⟨by rw [hl]; exact h.five, hs, h0, h.most, by rw [hl, length_recB_snoc]; exact hf, fun x hx => by
    rcases List.mem_append.1 hx with hx | hx
    · exact h.few x hx
    · rw [List.mem_singleton.1 hx]; exact hr, by
    rw [hl]
    exact bytes_all hs (old := recB L) (by rw [recB_append, List.take_append_of_le_length (Nat.le_refl _), List.take_length]) hb hm⟩
/-- a log that is begun anew -/
theorem Holds.anew {st st' : List ByteArray} {g g' : Nat} {L : List ByteArray} (h : Holds st g L) (hl : st'.length = st.length) (hs : ∀ b ∈ st', b.size = 64) (hg : g' ≤ 1099511627776) (h0 : st'[0]? = some (headB g' 0)) : Holds st' g' [] :=
  ⟨by rw [hl]; exact h.five, hs, h0, hg, Nat.zero_le _, by simp, by simp [recB_nil]⟩
end Go.Proofs.YtmloljjllmmkoaaGreat

namespace Go.Proofs.YtmloljjllmmkoaaGreat
open Go

/-- sectors lo to hi of these bytes are loose, and nothing else -/
structure Mid (st : List ByteArray) (from_ : Nat) (all : List UInt8) (lo hi : Nat) (s : DS) : Prop where
  ok : s.Ok
  stay : s.stay = st
  dead : s.dead = false
  bad : ∀ j, s.bad j = false
  loose : ∀ q ∈ s.loose, ∃ j, lo ≤ j ∧ j < hi ∧ q = (((from_ + j : Nat) : Int), secB all j)
  each : ∀ j, lo ≤ j → j < hi → seek ((from_ + j : Nat) : Int) s.loose 0 ≠ none
/-- some of them may stay -/
def Mixed (st : List ByteArray) (from_ : Nat) (all : List UInt8) (lo hi : Nat) (st' : List ByteArray) : Prop :=
  st'.length = st.length ∧ ∀ j : Nat, st'[j]? = st[j]? ∨ ∃ i, lo ≤ i ∧ i < hi ∧ j = from_ + i ∧ st'[j]? = some (secB all i)
section
variable {st : List ByteArray} {from_ lo hi : Nat} {all : List UInt8} {s : DS}
theorem mid_start (h : s.Ok) (hd : s.dead = false) (hb : ∀ j, s.bad j = false) (hl : s.loose = []) : Mid s.stay from_ all lo lo s :=
  ⟨h, rfl, hd, hb, by simp [hl], fun j h1 h2 => by omega⟩
theorem Mid.laid_is (h : Mid st from_ all lo hi s) (f : Nat → Bool) : Mixed st from_ all lo hi (laid f s.loose st) := by
  refine ⟨length_laid _ _ _, fun j => ?_⟩
  by_cases hj : j < st.length
  · rw [List.getElem?_eq_getElem (by rw [length_laid]; exact hj), List.getElem?_eq_getElem hj, get_laid _ _ _ _ hj]
    cases e : seek (j : Int) s.loose 0 with
    | none => exact .inl rfl
    | some z =>
      obtain ⟨i, hi', _, e2⟩ := seek_some e
      obtain ⟨k, h1, h2, e3⟩ := h.loose _ (List.getElem_mem hi')
      rw [e2] at e3
      obtain ⟨e4, e5⟩ := Prod.mk.inj e3
      have e6 : j = from_ + k := by omega
      cases hf : f z.1 with
      | false => exact .inl (by simp [hf])
      | true =>
        have e7 : z.2 = secB all k := e5
        exact .inr ⟨k, h1, h2, e6, by simp [hf, e7]⟩
  · rw [List.getElem?_eq_none (by rw [length_laid]; omega), List.getElem?_eq_none (by omega)]
    exact .inl rfl
theorem Mid.all_laid (h : Mid st from_ all lo hi s) {j : Nat} (h1 : lo ≤ j) (h2 : j < hi) (h3 : from_ + j < st.length) : (laid (fun _ => true) s.loose st)[from_ + j]? = some (secB all j) := by
  rw [List.getElem?_eq_getElem (by rw [length_laid]; exact h3), get_laid _ _ _ _ h3]
  cases e : seek ((from_ + j : Nat) : Int) s.loose 0 with
  | none => exact absurd e (h.each j h1 h2)
  | some z =>
    obtain ⟨i, hi', _, e2⟩ := seek_some e
    obtain ⟨k, _, _, e3⟩ := h.loose _ (List.getElem_mem hi')
    rw [e2] at e3
    obtain ⟨e4, e5⟩ := Prod.mk.inj e3
    obtain rfl : j = k := by omega
    have e7 : z.2 = secB all j := e5
    simp [e7]
theorem Mid.may (h : Mid st from_ all lo hi s) {n : Nat} (hn : n < st.length) : s.may (n : Int) = 0 := by
  have : (n : Int) < (s.stay.length : Int) := by rw [h.stay]; omega
  have h2 : ¬ (s.stay.length : Int) ≤ (n : Int) := by omega
  have h3 : ¬ (n : Int) < 0 := by omega
  simp [DS.may, h.dead, h2, h3]
theorem Mid.fits (h : Mid st from_ all lo hi s) (hn : from_ + hi < st.length) : s.fits ((from_ + hi : Nat) : Int) (secB all hi) = true := by
  unfold DS.fits
  rw [h.may hn, size_secB, h.bad]
  rfl
theorem Mid.writeE (h : Mid st from_ all lo hi s) (hn : from_ + hi < st.length) : s.writeE ((from_ + hi : Nat) : Int) (secB all hi) = if s.armed = 1 then 2 else 0 := by
  unfold DS.writeE
  rw [h.may hn, size_secB, h.bad, if_neg (by decide), if_neg (by decide), if_neg (by decide)]
/-- one sector more -/
theorem Mid.lays (h : Mid st from_ all lo hi s) (hn : from_ + hi < st.length) (hlo : lo ≤ hi) : Mid st from_ all lo (hi + 1) (s.lays ((from_ + hi : Nat) : Int) (secB all hi)) := by
  refine ⟨h.ok.lays (by omega) (by rw [h.stay]; omega) (size_secB _ _), h.stay, h.dead, h.bad, fun q hq => ?_, fun j h1 h2 => ?_⟩
  · rcases mem_putL hq with rfl | hq
    · exact ⟨hi, hlo, by omega, rfl⟩
    · obtain ⟨j, h1, h2, e⟩ := h.loose q hq
      exact ⟨j, h1, by omega, e⟩
  · show seek _ (putL _ _ s.loose) 0 ≠ none
    rw [seek_putL]
    by_cases e : j = hi
    · subst e; simp
    · rw [if_neg (by omega)]
      exact h.each j h1 (by omega)
theorem Mid.write_goes (h : Mid st from_ all lo hi s) (hn : from_ + hi < st.length) (ha : s.armed ≠ 1) : s.write ((from_ + hi : Nat) : Int) (secB all hi) = s.lays ((from_ + hi : Nat) : Int) (secB all hi) := by
  unfold DS.write
  rw [h.fits hn, if_pos rfl, if_neg ha]
theorem Mid.write_torn (h : Mid st from_ all lo hi s) (hn : from_ + hi < st.length) (ha : s.armed = 1) : s.write ((from_ + hi : Nat) : Int) (secB all hi) = (s.lays ((from_ + hi : Nat) : Int) (secB all hi)).goes s.keep := by
  unfold DS.write
  rw [h.fits hn, if_pos rfl, if_pos ha]
/-- the power goes -/
theorem Mid.goes (h : Mid st from_ all lo hi s) (keep : ByteArray) : Mixed st from_ all lo hi (s.goes keep).stay := by
  show Mixed st from_ all lo hi (laid (keepsAt keep) s.loose s.stay)
  rw [h.stay]
  exact h.laid_is _
/-- the power is gone: nothing is loose -/
structure Torn (st : List ByteArray) (from_ : Nat) (all : List UInt8) (lo hi : Nat) (s : DS) : Prop where
  ok : s.Ok
  dead : s.dead = true
  bad : ∀ j, s.bad j = false
  none_ : s.loose = []
  mixed : Mixed st from_ all lo hi s.stay
theorem Mixed.le {st' : List ByteArray} {hi' : Nat} (h : Mixed st from_ all lo hi st') (hl : hi ≤ hi') : Mixed st from_ all lo hi' st' :=
  ⟨h.1, fun j => by
    rcases h.2 j with e | ⟨i, h1, h2, h3, h4⟩
    · exact .inl e
    · exact .inr ⟨i, h1, by omega, h3, h4⟩⟩
theorem Mid.torn (h : Mid st from_ all lo hi s) (keep : ByteArray) {hi' : Nat} (hl : hi ≤ hi') : Torn st from_ all lo hi' (s.goes keep) :=
  ⟨h.ok.goes keep, rfl, h.bad, rfl, (h.goes keep).le hl⟩
theorem Mid.tick (h : Mid st from_ all lo hi s) : Mid st from_ all lo hi s.tick := ⟨h.ok.tick, h.stay, h.dead, h.bad, h.loose, h.each⟩
/-- sectors are written, one behind the other -/
def puts (from_ : Nat) (all : List UInt8) : Nat → Nat → DS → Int × DS
  | 0, _, s => (0, s)
  | k + 1, i, s => if s.writeE ((from_ + i : Nat) : Int) (secB all i) = 0 then puts from_ all k (i + 1) (s.write ((from_ + i : Nat) : Int) (secB all i)) else (s.writeE ((from_ + i : Nat) : Int) (secB all i), s.write ((from_ + i : Nat) : Int) (secB all i))
theorem puts_mid : ∀ (k i : Nat) {s : DS}, Mid st from_ all lo i s → lo ≤ i → from_ + i + k ≤ st.length →
    ((puts from_ all k i s).1 = 0 ∧ Mid st from_ all lo (i + k) (puts from_ all k i s).2) ∨ ((puts from_ all k i s).1 = 2 ∧ Torn st from_ all lo (i + k) (puts from_ all k i s).2)
  | 0, i, s, h, _, _ => .inl ⟨rfl, h⟩
  | k + 1, i, s, h, hlo, hf => by
    have hn : from_ + i < st.length := by omega
    rw [puts, h.writeE hn]
    by_cases ha : s.armed = 1
    · rw [h.write_torn hn ha, if_pos ha, if_neg (by decide)]
      exact .inr ⟨rfl, (h.lays hn hlo).torn _ (by omega)⟩
    · rw [h.write_goes hn ha, if_neg ha, if_pos rfl]
      have := puts_mid k (i + 1) (h.lays hn hlo) (by omega) (by omega)
      rw [show i + 1 + k = i + (k + 1) by omega] at this
      exact this
/-- and synced -/
def put (from_ : Nat) (all : List UInt8) (lo k : Nat) (s : DS) : Int × DS :=
  if (puts from_ all k lo s).1 = 0 then ((puts from_ all k lo s).2.syncE, (puts from_ all k lo s).2.sync) else puts from_ all k lo s
/-- a disk on which all is as it should be between two calls -/
structure Quiet (s : DS) : Prop where
  ok : s.Ok
  dead : s.dead = false
  bad : ∀ j, s.bad j = false
  none_ : s.loose = []
theorem put_is (h : Quiet s) (lo k : Nat) (hf : from_ + lo + k ≤ s.stay.length) :
    ((put from_ all lo k s).1 = 0 ∧ Quiet (put from_ all lo k s).2 ∧ Mixed s.stay from_ all lo (lo + k) (put from_ all lo k s).2.stay ∧ ∀ j, lo ≤ j → j < lo + k → (put from_ all lo k s).2.stay[from_ + j]? = some (secB all j)) ∨
    ((put from_ all lo k s).1 = 2 ∧ Torn s.stay from_ all lo (lo + k) (put from_ all lo k s).2) := by
  have hm := puts_mid k lo (mid_start (from_ := from_) (all := all) (lo := lo) h.ok h.dead h.bad h.none_) (Nat.le_refl _) hf
  rcases hm with ⟨e, hm⟩ | ⟨e, ht⟩
  · unfold put
    rw [if_pos e]
    generalize (puts from_ all k lo s).2 = s1 at hm
    by_cases ha : s1.armed = 1
    · refine .inr ⟨by simp [DS.syncE, hm.dead, ha], ?_⟩
      have e2 : s1.sync = s1.tick.goes s1.keep := by simp [DS.sync, hm.dead, ha]
      show Torn _ _ _ _ _ s1.sync
      rw [e2]
      exact hm.tick.torn _ (Nat.le_refl _)
    · have e2 : s1.sync = s1.tick.settled := by simp [DS.sync, hm.dead, ha]
      refine .inl ⟨by simp [DS.syncE, hm.dead, ha], ?_⟩
      show Quiet s1.sync ∧ Mixed _ _ _ _ _ s1.sync.stay ∧ ∀ j, lo ≤ j → j < lo + k → s1.sync.stay[from_ + j]? = some (secB all j)
      have e3 : s1.sync.stay = laid (fun _ => true) s1.loose s.stay := by
        rw [e2]
        show laid (fun _ => true) s1.loose s1.stay = _
        rw [hm.stay]
      refine ⟨⟨by rw [e2]; exact hm.ok.tick.settled, by rw [e2]; exact hm.dead, by rw [e2]; exact hm.bad, by rw [e2]; rfl⟩, ?_, fun j h1 h2 => ?_⟩
      · rw [e3]; exact hm.laid_is _
      · rw [e3]; exact hm.all_laid h1 h2 (by omega)
  · unfold put
    rw [if_neg (by rw [e]; decide)]
    exact .inr ⟨e, ht⟩
end
end Go.Proofs.YtmloljjllmmkoaaGreat

namespace Go.Proofs.YtmloljjllmmkoaaGreat
open Go

theorem secB_head (g u : Nat) : secB (headL g u) 0 = headB g u := by
  have h := length_headL g u
  simp only [secB, secL, headB, Nat.mul_zero, List.drop_zero]
  rw [List.take_of_length_le (by omega), h, Nat.sub_self, List.replicate_zero, List.append_nil]
section
variable {st st1 st2 : List ByteArray} {g : Nat} {L : List ByteArray} {r : ByteArray}
theorem Mixed.at_zero {from_ lo hi : Nat} {all : List UInt8} (h : Mixed st from_ all lo hi st1) (hf : 1 ≤ from_) : st1[0]? = st[0]? := by
  rcases h.2 0 with e | ⟨i, _, _, e, _⟩
  · exact e
  · omega
theorem Mixed.behind {all : List UInt8} (h : Mixed st1 0 all 0 1 st2) {j : Nat} (hj : 1 ≤ j) : st2[j]? = st1[j]? := by
  rcases h.2 j with e | ⟨i, _, _, e, _⟩
  · exact e
  · omega
theorem halfAt_pos (st : List ByteArray) (g : Nat) : 1 ≤ halfAt st g := by unfold halfAt; omega
theorem halfAt_fit (st : List ByteArray) (g : Nat) (h : 1 ≤ st.length) {n : Nat} (hn : n ≤ (st.length - 1) / 2) : halfAt st g + n ≤ st.length := by
  unfold halfAt
  rcases Nat.mod_two_eq_zero_or_one g with e | e
  · rw [e]; omega
  · rw [e]; omega
theorem halfAt_len (h : st1.length = st.length) (g : Nat) : halfAt st1 g = halfAt st g := by unfold halfAt; rw [h]
/-- the half's sectors are written, some or all: the log is what it was -/
theorem Holds.half (h : Holds st g L) (hs : ∀ b ∈ st1, b.size = 64) {lo hi : Nat} (hm : Mixed st (halfAt st g) (recB (L ++ [r])) lo hi st1) : Holds st1 g L :=
  h.mixed (all := recB (L ++ [r])) hm.1 hs (hm.at_zero (halfAt_pos _ _)) (by rw [recB_append, List.take_append_of_le_length (Nat.le_refl _), List.take_length]) (fun j h1 _ => by
    rcases hm.2 j with e | ⟨i, _, _, e, e2⟩
    · exact .inl e
    · exact .inr (by rw [e2, e, Nat.add_sub_cancel_left]))
/-- the head is written, or not -/
theorem Holds.top (h : Holds st1 g L) (hs : ∀ b ∈ st2, b.size = 64) {all : List UInt8} (hm : Mixed st1 0 all 0 1 st2) (h0 : st2[0]? = st1[0]?) : Holds st2 g L :=
  h.mixed (all := recB L) hm.1 hs h0 (List.take_length ..) (fun j h1 _ => .inl (hm.behind (by have := halfAt_pos st1 g; omega)))
theorem Holds.next (h : Holds st1 g L) (hs : ∀ b ∈ st2, b.size = 64) {all : List UInt8} (hm : Mixed st1 0 all 0 1 st2) (h0 : st2[0]? = some (headB g (recB (L ++ [r])).length)) (hr : r.size ≤ 1300) (hf : (recB L).length + 2 + r.size ≤ 64 * ((st1.length - 1) / 2))
    (ha : ∀ j, (recB L).length / 64 ≤ j → 64 * j < (recB (L ++ [r])).length → st1[halfAt st1 g + j]? = some (secB (recB (L ++ [r])) j)) : Holds st2 g (L ++ [r]) :=
  h.more hm.1 hs hr hf h0 (bytes_stay (all := recB L) h.sz hs (List.take_length ..) h.is (fun j h1 _ => .inl (hm.behind (Nat.le_trans (Nat.le_add_right 1 _) h1)))) (fun j h1 h2 => by
    rw [hm.behind (by have := halfAt_pos st1 g; omega)]
    exact ha j h1 h2)
end
/-- behind a call in which the power went -/
structure Gone (s : DS) : Prop where
  ok : s.Ok
  dead : s.dead = true
  bad : ∀ j, s.bad j = false
  none_ : s.loose = []
theorem Torn.gone {st : List ByteArray} {from_ lo hi : Nat} {all : List UInt8} {s : DS} (h : Torn st from_ all lo hi s) : Gone s := ⟨h.ok, h.dead, h.bad, h.none_⟩
theorem Gone.revive {s : DS} (h : Gone s) : Quiet s.revive ∧ s.revive.stay = s.stay := ⟨⟨h.ok.revive, rfl, h.bad, h.none_⟩, rfl⟩
/-- sector 0 is written, and synced -/
def heads (g u : Nat) (s : DS) : Int × DS := put 0 (headL g u) 0 1 s
/-- what Append makes of a disk -/
def appD (g : Nat) (L : List ByteArray) (r : ByteArray) (s : DS) : Int × DS :=
  if (put (halfAt s.stay g) (recB (L ++ [r])) ((recB L).length / 64) (((recB (L ++ [r])).length + 63) / 64 - (recB L).length / 64) s).1 = 0
  then heads g (recB (L ++ [r])).length (put (halfAt s.stay g) (recB (L ++ [r])) ((recB L).length / 64) (((recB (L ++ [r])).length + 63) / 64 - (recB L).length / 64) s).2
  else put (halfAt s.stay g) (recB (L ++ [r])) ((recB L).length / 64) (((recB (L ++ [r])).length + 63) / 64 - (recB L).length / 64) s
theorem heads_is {s : DS} (h : Quiet s) (g u : Nat) : ((heads g u s).1 = 0 ∧ Quiet (heads g u s).2 ∧ Mixed s.stay 0 (headL g u) 0 1 (heads g u s).2.stay ∧ (heads g u s).2.stay[0]? = some (headB g u)) ∨
    ((heads g u s).1 = 2 ∧ Gone (heads g u s).2 ∧ Mixed s.stay 0 (headL g u) 0 1 (heads g u s).2.stay ∧ ((heads g u s).2.stay[0]? = s.stay[0]? ∨ (heads g u s).2.stay[0]? = some (headB g u))) := by
  have hp := h.ok.pos
  rcases put_is (from_ := 0) (all := headL g u) h 0 1 (by omega) with ⟨e, hq, hm, ha⟩ | ⟨e, ht⟩
  · refine .inl ⟨e, hq, hm, ?_⟩
    have := ha 0 (by omega) (by omega)
    rw [secB_head] at this
    exact this
  · refine .inr ⟨e, ht.gone, ht.mixed, ?_⟩
    rcases ht.mixed.2 0 with e1 | ⟨i, _, _, e2, e3⟩
    · exact .inl e1
    · obtain rfl : i = 0 := by omega
      rw [secB_head] at e3
      exact .inr e3
/-- THE HEART OF P7.5 -/
theorem app_keeps {s : DS} {g : Nat} {L : List ByteArray} {r : ByteArray} (h : Quiet s) (hl : Holds s.stay g L) (hr : r.size ≤ 1300) (hf : (recB L).length + 2 + r.size ≤ 64 * ((s.stay.length - 1) / 2)) :
    ((appD g L r s).1 = 0 ∧ Quiet (appD g L r s).2 ∧ (appD g L r s).2.stay.length = s.stay.length ∧ Holds (appD g L r s).2.stay g (L ++ [r])) ∨
    ((appD g L r s).1 = 2 ∧ Gone (appD g L r s).2 ∧ (appD g L r s).2.stay.length = s.stay.length ∧ (Holds (appD g L r s).2.stay g L ∨ Holds (appD g L r s).2.stay g (L ++ [r]))) := by
  have hlen := length_recB_snoc L r
  have hfit := halfAt_fit s.stay g h.ok.pos (n := ((recB (L ++ [r])).length + 63) / 64) (by omega)
  have hlo : (recB L).length / 64 + (((recB (L ++ [r])).length + 63) / 64 - (recB L).length / 64) = ((recB (L ++ [r])).length + 63) / 64 := by omega
  have hp := put_is (from_ := halfAt s.stay g) (all := recB (L ++ [r])) h ((recB L).length / 64) (((recB (L ++ [r])).length + 63) / 64 - (recB L).length / 64) (by omega)
  unfold appD
  generalize put (halfAt s.stay g) (recB (L ++ [r])) ((recB L).length / 64) (((recB (L ++ [r])).length + 63) / 64 - (recB L).length / 64) s = p at hp
  rcases hp with ⟨e, hq, hm, ha⟩ | ⟨e, ht⟩
  · rw [if_pos e]
    have hl1 := hl.half hq.ok.sz hm
    have ha1 : ∀ j, (recB L).length / 64 ≤ j → 64 * j < (recB (L ++ [r])).length → p.2.stay[halfAt p.2.stay g + j]? = some (secB (recB (L ++ [r])) j) := fun j h1 h2 => by
      rw [halfAt_len hm.1]
      exact ha j h1 (by omega)
    have hf1 : (recB L).length + 2 + r.size ≤ 64 * ((p.2.stay.length - 1) / 2) := by rw [hm.1]; exact hf
    rcases heads_is hq g (recB (L ++ [r])).length with ⟨e1, hq1, hm1, h0⟩ | ⟨e1, hg1, hm1, h0⟩
    · exact .inl ⟨e1, hq1, hm1.1.trans hm.1, hl1.next hq1.ok.sz hm1 h0 hr hf1 ha1⟩
    · refine .inr ⟨e1, hg1, hm1.1.trans hm.1, ?_⟩
      rcases h0 with h0 | h0
      · exact .inl (hl1.top hg1.ok.sz hm1 h0)
      · exact .inr (hl1.next hg1.ok.sz hm1 h0 hr hf1 ha1)
  · rw [if_neg (by rw [e]; decide)]
    exact .inr ⟨e, ht.gone, ht.mixed.1, .inl (hl.half ht.ok.sz ht.mixed)⟩
/-- a log begun anew -/
theorem start_keeps {s : DS} {g g' : Nat} {L : List ByteArray} (h : Quiet s) (hl : Holds s.stay g L) (hg : g' ≤ 1099511627776) :
    ((heads g' 0 s).1 = 0 ∧ Quiet (heads g' 0 s).2 ∧ (heads g' 0 s).2.stay.length = s.stay.length ∧ Holds (heads g' 0 s).2.stay g' []) ∨
    ((heads g' 0 s).1 = 2 ∧ Gone (heads g' 0 s).2 ∧ (heads g' 0 s).2.stay.length = s.stay.length ∧ (Holds (heads g' 0 s).2.stay g L ∨ Holds (heads g' 0 s).2.stay g' [])) := by
  rcases heads_is h g' 0 with ⟨e1, hq1, hm1, h0⟩ | ⟨e1, hg1, hm1, h0⟩
  · exact .inl ⟨e1, hq1, hm1.1, hl.anew hm1.1 hq1.ok.sz hg h0⟩
  · refine .inr ⟨e1, hg1, hm1.1, ?_⟩
    rcases h0 with h0 | h0
    · exact .inl (hl.top hg1.ok.sz hm1 h0)
    · exact .inr (hl.anew hm1.1 hg1.ok.sz hg h0)
end Go.Proofs.YtmloljjllmmkoaaGreat

