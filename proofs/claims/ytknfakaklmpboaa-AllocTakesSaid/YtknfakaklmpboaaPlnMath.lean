/-
  Planes as sets: eight lists of bytes, and what each call makes of them; a map's text. No program in it.
-/
import Derived.Test.YtknfakaklmpboaaSetsOfM
namespace Go.Proofs.Ytknfakaklmpboaa.PL
open SM

def upd {α : Type} (f : Nat → α) (j : Nat) (v : α) : Nat → α := fun i => if i = j then v else f i
theorem upd_self {α : Type} (f : Nat → α) (j : Nat) (v : α) : upd f j v j = v := if_pos rfl
theorem upd_ne {α : Type} {f : Nat → α} {i j : Nat} {v : α} (h : i ≠ j) : upd f j v i = f i := if_neg h

def Fits (n : Nat) (l : List UInt8) : Prop := ∀ m, bit l m = true → 1 ≤ m ∧ m < n
def fitsB (n : Nat) (l : List UInt8) : Bool := (nums l n).head?.isNone && !bit l 0
theorem fits_iff {n : Nat} {l : List UInt8} : fitsB n l = true ↔ Fits n l := by
  unfold fitsB Fits
  constructor
  · intro h m hm
    simp only [Bool.and_eq_true, Bool.not_eq_true'] at h
    obtain ⟨h1, h2⟩ := h
    refine ⟨?_, ?_⟩
    · rcases Nat.eq_zero_or_pos m with rfl | h
      · rw [h2] at hm; cases hm
      · exact h
    · rcases Nat.lt_or_ge m n with h | h
      · exact h
      · have hm2 : m ∈ nums l n := mem_nums.2 ⟨h, hm⟩
        cases hn : nums l n with
        | nil => rw [hn] at hm2; cases hm2
        | cons x r => rw [hn] at h1; cases h1
  · intro h
    simp only [Bool.and_eq_true, Bool.not_eq_true']
    refine ⟨?_, ?_⟩
    · cases hn : nums l n with
      | nil => rfl
      | cons x r =>
        have hx : x ∈ nums l n := by rw [hn]; exact List.mem_cons_self ..
        have := mem_nums.1 hx
        have := h x this.2
        omega
    · cases hb : bit l 0 with
      | false => rfl
      | true => have := h 0 hb; omega
theorem bit_least (l : List UInt8) (m : Nat) : bit (least l) m = bit l m := by unfold bit; rw [gd_least]
theorem bit_nil (m : Nat) : bit [] m = false := by simp [bit, gd_nil]
theorem fits_nil (n : Nat) : Fits n [] := fun m h => by rw [bit_nil] at h; cases h
theorem fits_least {n : Nat} {l : List UInt8} (h : Fits n l) : Fits n (least l) := fun m hm => h m (by rwa [bit_least] at hm)
theorem eq_of_bits {a b : List UInt8} (ha : least a = a) (hb : least b = b) (h : ∀ m, bit a m = bit b m) : a = b := by
  rw [← ha, ← hb]
  exact least_ext (bit_ext h)
theorem bit_mk_or (a b : List UInt8) (m : Nat) : bit (mk bor a b) m = (bit a m || bit b m) := by
  unfold bit; rw [gd_mk _ (by decide), tb_bor]
theorem bit_mk_and (a b : List UInt8) (m : Nat) : bit (mk band a b) m = (bit a m && bit b m) := by
  unfold bit; rw [gd_mk _ (by decide), tb_band]
theorem bit_mk_sub (a b : List UInt8) (m : Nat) : bit (mk bsub a b) m = (bit a m && !bit b m) := by
  unfold bit; rw [gd_mk _ (by decide), tb_bsub _ _ _ (Nat.mod_lt _ (by decide))]
/-- a least list that fits is short -/
theorem length_fits {n : Nat} {l : List UInt8} (h : least l = l) (hf : Fits n l) : 8 * l.length ≤ n + 7 := by
  rcases Nat.eq_zero_or_pos l.length with e | e
  · omega
  · have hn : least l ≠ [] := by rw [h]; intro e'; rw [e'] at e; simp at e
    have hg := least_last l hn
    rw [h] at hg
    by_cases hall : ∀ k, k < 8 → (gd l (l.length - 1)).toNat.testBit k = false
    · exact absurd (u8_ext (x := gd l (l.length - 1)) (y := 0) (fun k hk => by rw [hall k hk]; simp)) hg
    · have : ∃ k, k < 8 ∧ (gd l (l.length - 1)).toNat.testBit k = true := by
        refine Classical.byContradiction fun hne => hall fun k hk => ?_
        cases hb : (gd l (l.length - 1)).toNat.testBit k with
        | false => rfl
        | true => exact absurd ⟨k, hk, hb⟩ hne
      obtain ⟨k, hk, hb⟩ := this
      have := hf (8 * (l.length - 1) + k) (by
        unfold bit
        rw [show (8 * (l.length - 1) + k) / 8 = l.length - 1 by omega, show (8 * (l.length - 1) + k) % 8 = k by omega]
        exact hb)
      omega

/-! ### A map -/
structure Ok (n : Nat) (f : Nat → List UInt8) : Prop where
  lo : 8 ≤ n
  hi : n ≤ 4096
  fits : ∀ p, p < 8 → Fits n (f p)
  least : ∀ p, p < 8 → least (f p) = f p
theorem Ok.len {n : Nat} {f : Nat → List UInt8} (h : Ok n f) {p : Nat} (hp : p < 8) : (f p).length ≤ 512 := by
  have := length_fits (h.least p hp) (h.fits p hp)
  have := h.hi
  omega
theorem Ok.put {n : Nat} {f : Nat → List UInt8} (h : Ok n f) {l : List UInt8} (hl : Fits n l) (p : Nat) : Ok n (upd f p (SM.least l)) :=
  ⟨h.lo, h.hi, fun q hq => by
    by_cases e : q = p
    · subst e; rw [upd_self]; exact fits_least hl
    · rw [upd_ne e]; exact h.fits q hq, fun q hq => by
    by_cases e : q = p
    · subst e; rw [upd_self]; exact least_least _
    · rw [upd_ne e]; exact h.least q hq⟩
theorem Ok.copy {n : Nat} {f : Nat → List UInt8} (h : Ok n f) {q : Nat} (hq : q < 8) (p : Nat) : Ok n (upd f p (f q)) := by
  have := h.put (h.fits q hq) p
  rwa [h.least q hq] at this
theorem ok_new {n : Nat} (h1 : 8 ≤ n) (h2 : n ≤ 4096) : Ok n (fun _ => []) := ⟨h1, h2, fun _ _ => fits_nil n, fun _ _ => rfl⟩
theorem Ok.used {n : Nat} {f g : Nat → List UInt8} (h : Ok n f) (hg : ∀ p, p < 8 → g p = f p) : Ok n g :=
  ⟨h.lo, h.hi, fun p hp => by rw [hg p hp]; exact h.fits p hp, fun p hp => by rw [hg p hp]; exact h.least p hp⟩

/-! ### A byte of a map's text -/
def bitB (p : Nat) : UInt8 := UInt8.ofNat (2 ^ p % 256)
theorem tb_bitB {p k : Nat} (hp : p < 8) (hk : k < 8) : (bitB p).toNat.testBit k = decide (p = k) := pow_tb ⟨p, hp⟩ ⟨k, hk⟩
def byteN (g : Nat → Bool) (k : Nat) : UInt8 := (List.range k).foldl (fun x p => if g p then bor x (bitB p) else x) 0
theorem byteN_succ (g : Nat → Bool) (k : Nat) : byteN g (k + 1) = if g k then bor (byteN g k) (bitB k) else byteN g k := by
  simp [byteN, List.range_succ]
theorem tb_byteN (g : Nat → Bool) : ∀ (k : Nat), k ≤ 8 → ∀ j, j < 8 → (byteN g k).toNat.testBit j = (decide (j < k) && g j)
  | 0, _, j, _ => by simp [byteN]
  | k + 1, hk, j, hj => by
    have ih := tb_byteN g k (by omega) j hj
    rw [byteN_succ]
    by_cases hg : g k = true
    · rw [if_pos hg, tb_bor, ih, tb_bitB (by omega) hj]
      by_cases e : k = j
      · subst e; simp [hg]
      · have h1 : (j < k + 1) ↔ (j < k) := by omega
        simp [e, h1]
    · rw [if_neg hg, ih]
      have hg' : g k = false := by simpa using hg
      by_cases e : j = k
      · subst e; simp [hg']
      · have h1 : (j < k + 1) ↔ (j < k) := by omega
        simp [h1]
theorem tb_byte (g : Nat → Bool) (j : Nat) (hj : j < 8) : (byteN g 8).toNat.testBit j = g j := by
  rw [tb_byteN g 8 (Nat.le_refl _) j hj]; simp [hj]
theorem byteN_zero {g : Nat → Bool} : byteN g 8 = 0 ↔ ∀ p, p < 8 → g p = false := by
  constructor
  · intro h p hp
    rw [← tb_byte g p hp, h]; simp
  · intro h
    exact u8_ext fun k hk => by rw [tb_byte g k hk, h k hk]; simp
/-! ### A map's text -/
def textN (n : Nat) (f : Nat → List UInt8) (k : Nat) : List UInt8 := (List.range n).map fun i => byteN (fun p => bit (f p) i) k
def textL (n : Nat) (f : Nat → List UInt8) : List UInt8 := textN n f 8
theorem length_textN (n : Nat) (f : Nat → List UInt8) (k : Nat) : (textN n f k).length = n := by simp [textN]
theorem length_textL (n : Nat) (f : Nat → List UInt8) : (textL n f).length = n := length_textN n f 8
theorem gd_textN {n i : Nat} (f : Nat → List UInt8) (k : Nat) (h : i < n) : gd (textN n f k) i = byteN (fun p => bit (f p) i) k := by
  simp [gd, textN, h]
theorem gd_textL {n i : Nat} (f : Nat → List UInt8) (h : i < n) : gd (textL n f) i = byteN (fun p => bit (f p) i) 8 := gd_textN f 8 h
theorem textN_zero (n : Nat) (f : Nat → List UInt8) : textN n f 0 = List.replicate n 0 := by
  apply List.ext_getElem <;> simp [textN, byteN]
theorem list_ext {a b : List UInt8} (hl : a.length = b.length) (h : ∀ i, i < a.length → gd a i = gd b i) : a = b := by
  refine List.ext_getElem hl fun i h1 h2 => ?_
  have := h i h1
  rwa [gd_lt h1, gd_lt h2] at this
def orAt (p : Nat) (L : List UInt8) (zs : List Nat) : List UInt8 := zs.foldl (fun L z => L.set z (bor (gd L z) (bitB p))) L
theorem length_orAt (p : Nat) : ∀ (zs : List Nat) (L : List UInt8), (orAt p L zs).length = L.length
  | [], _ => rfl
  | z :: zs, L => by
    show (orAt p (L.set z _) zs).length = _
    rw [length_orAt p zs]; simp
theorem bor_twice (x y : UInt8) : bor (bor x y) y = bor x y := u8_ext fun k _ => by rw [tb_bor, tb_bor, Bool.or_assoc, Bool.or_self]
theorem gd_orAt (p i : Nat) : ∀ (zs : List Nat) (L : List UInt8), (∀ z ∈ zs, z < L.length) → gd (orAt p L zs) i = if i ∈ zs then bor (gd L i) (bitB p) else gd L i
  | [], _, _ => by simp [orAt]
  | z :: zs, L, h => by
    show gd (orAt p (L.set z _) zs) i = _
    have hz := h z (List.mem_cons_self ..)
    rw [gd_orAt p i zs _ (fun y hy => by simpa using h y (List.mem_cons_of_mem _ hy)), gd_set _ _ _ hz]
    by_cases e : z = i
    · subst e
      rw [if_pos rfl, if_pos (List.mem_cons_self ..)]
      split
      · exact bor_twice _ _
      · rfl
    · rw [if_neg e]
      have e' : ¬ i = z := fun h => e h.symm
      have : (i ∈ z :: zs) ↔ i ∈ zs := by simp [List.mem_cons, e']
      simp only [this]
theorem orAt_plane {n p : Nat} (f : Nat → List UInt8) (hf : Fits n (f p)) : orAt p (textN n f p) (nums (f p) 0) = textN n f (p + 1) := by
  refine list_ext (by rw [length_orAt, length_textN, length_textN]) fun i hi => ?_
  rw [length_orAt, length_textN] at hi
  rw [gd_orAt p i _ _ (fun z hz => by rw [length_textN]; exact (hf z (mem_nums.1 hz).2).2), gd_textN f p hi, gd_textN f (p + 1) hi, byteN_succ]
  simp only [mem_nums, Nat.zero_le, true_and]
theorem orAt_take (p : Nat) (L : List UInt8) (zs : List Nat) (k : Nat) (h : k < zs.length) : orAt p L (zs.take (k + 1)) = (orAt p L (zs.take k)).set zs[k] (bor (gd (orAt p L (zs.take k)) zs[k]) (bitB p)) := by
  unfold orAt
  rw [List.take_succ_eq_append_getElem h, List.foldl_append]
  rfl
theorem textL_ext {n : Nat} {f g : Nat → List UInt8} (h : ∀ p, p < 8 → ∀ m, m < n → bit (f p) m = bit (g p) m) : textL n f = textL n g := by
  refine list_ext (by rw [length_textL, length_textL]) fun i hi => ?_
  rw [length_textL] at hi
  rw [gd_textL f hi, gd_textL g hi]
  exact u8_ext fun k hk => by rw [tb_byte _ k hk, tb_byte _ k hk, h k hk i hi]

/-! ### The planes of a text -/
def places (s : List UInt8) (p k : Nat) : List Nat := (List.range k).filter fun i => (gd s i).toNat.testBit p
theorem places_succ (s : List UInt8) (p k : Nat) : places s p (k + 1) = places s p k ++ (if (gd s k).toNat.testBit p then [k] else []) := by
  simp only [places, List.range_succ, List.filter_append, List.filter_cons, List.filter_nil]
theorem length_places (s : List UInt8) (p k : Nat) : (places s p k).length ≤ k := by
  have := List.length_filter_le (fun i => (gd s i).toNat.testBit p) (List.range k)
  simpa [places] using this
theorem mem_places {s : List UInt8} {p k m : Nat} : m ∈ places s p k ↔ m < k ∧ (gd s m).toNat.testBit p = true := by simp [places]
def intsN (l : List Nat) : List Int := l.map fun n : Nat => (n : Int)
theorem mem_intsN {l : List Nat} {m : Nat} : (m : Int) ∈ intsN l ↔ m ∈ l := by
  simp only [intsN, List.mem_map]
  constructor
  · rintro ⟨a, ha, e⟩
    obtain rfl : a = m := by omega
    exact ha
  · intro h; exact ⟨m, h, rfl⟩
theorem okI_nats {l : List Nat} (h : ∀ m ∈ l, m ≤ 65535) : okI (intsN l) = true := by
  unfold okI
  rw [List.all_eq_true]
  intro z hz
  simp only [intsN, List.mem_map] at hz
  obtain ⟨a, ha, rfl⟩ := hz
  have := h a ha
  simp; omega
def planeOf (s : List UInt8) (p : Nat) : List UInt8 := ofL (intsN (places s p s.length))
theorem okI_places {s : List UInt8} {p k : Nat} (h : k ≤ 65535) : okI (intsN (places s p k)) = true := okI_nats fun m hm => by have := (mem_places.1 hm).1; omega
theorem bit_planeOf {s : List UInt8} {p : Nat} (h : s.length ≤ 65535) (m : Nat) : bit (planeOf s p) m = (gd s m).toNat.testBit p := by
  unfold planeOf
  rw [bit_ofL (okI_places h)]
  simp only [mem_intsN, mem_places]
  by_cases hm : m < s.length
  · simp [hm]
  · rw [gd_ge (by omega)]; simp [hm]
theorem least_planeOf {s : List UInt8} {p : Nat} (h : s.length ≤ 65535) : least (planeOf s p) = planeOf s p := least_ofL (okI_places h)
theorem fits_planeOf {s : List UInt8} {p : Nat} (h : s.length ≤ 65535) : Fits s.length (planeOf s p) ↔ (gd s 0).toNat.testBit p = false := by
  unfold Fits
  simp only [bit_planeOf h]
  constructor
  · intro hf
    cases hb : (gd s 0).toNat.testBit p with
    | false => rfl
    | true => have := hf 0 hb; omega
  · intro h0 m hm
    refine ⟨?_, ?_⟩
    · rcases Nat.eq_zero_or_pos m with rfl | h
      · rw [h0] at hm; cases hm
      · exact h
    · rcases Nat.lt_or_ge m s.length with h | h
      · exact h
      · rw [gd_ge h] at hm; simp at hm
theorem planeOf_text {n : Nat} {f : Nat → List UInt8} (h : Ok n f) {p : Nat} (hp : p < 8) : planeOf (textL n f) p = f p := by
  have hn : (textL n f).length ≤ 65535 := by rw [length_textL]; have := h.hi; omega
  refine eq_of_bits (least_planeOf hn) (h.least p hp) fun m => ?_
  rw [bit_planeOf hn]
  by_cases hm : m < n
  · rw [gd_textL f hm, tb_byte _ p hp]
  · rw [gd_ge (by rw [length_textL]; omega)]
    cases hb : bit (f p) m with
    | false => simp
    | true => have := h.fits p hp m hb; omega
theorem text_planeOf {s : List UInt8} (h : s.length ≤ 65535) : textL s.length (planeOf s) = s := by
  refine list_ext (length_textL _ _) fun i hi => ?_
  rw [length_textL] at hi
  rw [gd_textL _ hi]
  exact u8_ext fun k hk => by rw [tb_byte _ k hk, bit_planeOf h]
theorem ok_planeOf {s : List UInt8} (h1 : 8 ≤ s.length) (h2 : s.length ≤ 4096) (h0 : gd s 0 = 0) : Ok s.length (planeOf s) :=
  ⟨h1, h2, fun p _ => (fits_planeOf (by omega)).2 (by rw [h0]; simp), fun p _ => least_planeOf (by omega)⟩
theorem text_head {n : Nat} {f : Nat → List UInt8} (h : Ok n f) : gd (textL n f) 0 = 0 := by
  rw [gd_textL f (by have := h.lo; omega), byteN_zero]
  intro p hp
  cases hb : bit (f p) 0 with
  | false => rfl
  | true => have := h.fits p hp 0 hb; omega

/-! ### Used, Free -/
def usedN (f : Nat → List UInt8) (k : Nat) : List UInt8 := (List.range k).foldl (fun u p => mk bor u (f p)) []
def used (f : Nat → List UInt8) : List UInt8 := usedN f 8
theorem usedN_succ (f : Nat → List UInt8) (k : Nat) : usedN f (k + 1) = mk bor (usedN f k) (f k) := by simp [usedN, List.range_succ]
theorem least_usedN (f : Nat → List UInt8) : ∀ k, least (usedN f k) = usedN f k
  | 0 => rfl
  | k + 1 => by rw [usedN_succ, mk_least]
theorem bit_usedN (f : Nat → List UInt8) (m : Nat) : ∀ k, bit (usedN f k) m = (List.range k).any fun p => bit (f p) m
  | 0 => by simp [usedN, bit_nil]
  | k + 1 => by rw [usedN_succ, bit_mk_or, bit_usedN f m k, List.range_succ, List.any_append]; simp
theorem bit_used (f : Nat → List UInt8) (m : Nat) : bit (used f) m = (List.range 8).any fun p => bit (f p) m := bit_usedN f m 8
theorem fits_usedN {n : Nat} {f : Nat → List UInt8} (h : Ok n f) {k : Nat} (hk : k ≤ 8) : Fits n (usedN f k) := fun m hm => by
  rw [bit_usedN, List.any_eq_true] at hm
  obtain ⟨p, hp, hb⟩ := hm
  exact h.fits p (by rw [List.mem_range] at hp; omega) m hb
theorem len_usedN {n : Nat} {f : Nat → List UInt8} (h : Ok n f) {k : Nat} (hk : k ≤ 8) : (usedN f k).length ≤ 512 := by
  have := length_fits (least_usedN f k) (fits_usedN h hk)
  have := h.hi
  omega
theorem nums_range {n : Nat} {l : List UInt8} (h : Fits n l) : nums l 0 = (List.range n).filter (bit l) := by
  refine sorted_ext _ _ (sorted_nums l 0) (List.Pairwise.filter _ List.pairwise_lt_range) fun m => ?_
  rw [mem_nums, List.mem_filter, List.mem_range]
  constructor
  · rintro ⟨_, hb⟩; exact ⟨(h m hb).2, hb⟩
  · rintro ⟨_, hb⟩; exact ⟨Nat.zero_le _, hb⟩
theorem cnt_range {n : Nat} {l : List UInt8} (h : Fits n l) : cnt l = ((List.range n).filter (bit l)).length := by
  rw [← length_nums_zero, nums_range h]
def freeK (f : Nat → List UInt8) (n k : Nat) : Nat := ((List.range k).filter fun b => decide (1 ≤ b) && (gd (textL n f) b == 0)).length
theorem freeK_succ (f : Nat → List UInt8) (n k : Nat) : freeK f n (k + 1) = freeK f n k + (if 1 ≤ k ∧ gd (textL n f) k = 0 then 1 else 0) := by
  simp only [freeK, List.range_succ, List.filter_append, List.length_append, List.filter_cons, List.filter_nil]
  by_cases h : 1 ≤ k ∧ gd (textL n f) k = 0
  · simp [h]
  · rw [if_neg h]
    by_cases h1 : 1 ≤ k
    · have h2 : gd (textL n f) k ≠ 0 := fun e => h ⟨h1, e⟩
      simp [h2]
    · simp [h1]
theorem freeK_le (f : Nat → List UInt8) (n k : Nat) : freeK f n k ≤ k := by
  have := List.length_filter_le (fun b => decide (1 ≤ b) && (gd (textL n f) b == 0)) (List.range k)
  simpa [freeK] using this
theorem filter_not (q : Nat → Bool) (l : List Nat) : (l.filter q).length + (l.filter fun x => !q x).length = l.length := by
  induction l with
  | nil => rfl
  | cons x l ih => simp only [List.filter_cons]; cases q x <;> simp <;> omega
theorem text_zero {n : Nat} {f : Nat → List UInt8} {b : Nat} (hb : b < n) : (gd (textL n f) b = 0) ↔ bit (used f) b = false := by
  rw [gd_textL f hb, byteN_zero, bit_used, List.any_eq_false]
  simp only [List.mem_range, Bool.not_eq_true]
theorem free_eq {n : Nat} {f : Nat → List UInt8} (h : Ok n f) : freeK f n n + cnt (used f) + 1 = n := by
  have hfit : Fits n (used f) := fits_usedN h (Nat.le_refl 8)
  have hlo := h.lo
  rw [cnt_range hfit]
  have e : ∀ b ∈ List.range n, (decide (1 ≤ b) && (gd (textL n f) b == 0)) = (decide (1 ≤ b) && !bit (used f) b) := by
    intro b hb
    rw [List.mem_range] at hb
    congr 1
    have := text_zero (f := f) hb
    cases hc : bit (used f) b with
    | false => rw [hc] at this; simpa using this
    | true => rw [hc] at this; simpa using this
  unfold freeK
  rw [List.filter_congr e]
  obtain ⟨k, rfl⟩ : ∃ k, n = k + 1 := ⟨n - 1, by omega⟩
  rw [List.range_succ_eq_map]
  have h0 : bit (used f) 0 = false := by
    cases hb : bit (used f) 0 with
    | false => rfl
    | true => have := hfit 0 hb; omega
  rw [List.filter_cons, List.filter_cons, h0]
  simp only [decide_false, Bool.false_and, Bool.false_eq_true, if_false, show ¬ (1 ≤ 0) by omega]
  have e2 : ∀ b ∈ (List.range k).map Nat.succ, (decide (1 ≤ b) && !bit (used f) b) = !bit (used f) b := by
    intro b hb
    simp only [List.mem_map] at hb
    obtain ⟨a, _, rfl⟩ := hb
    simp
  rw [List.filter_congr e2]
  have := filter_not (bit (used f)) ((List.range k).map Nat.succ)
  simp only [List.length_map, List.length_range] at this
  omega

/-! ### How the reference puts a plane -/
def putB (x : UInt8) (p : Nat) (c : Bool) : UInt8 := if c then bsub x (bitB p) + bitB p else bsub x (bitB p)
theorem add_bit_all : ∀ (x : Fin 256) (p : Fin 8), bsub (UInt8.ofNat x.val) (bitB p.val) + bitB p.val = bor (bsub (UInt8.ofNat x.val) (bitB p.val)) (bitB p.val) ∧ (bsub (UInt8.ofNat x.val) (bitB p.val)).toNat + (bitB p.val).toNat < 256 := by decide +kernel
theorem add_bit (x : UInt8) (p : Nat) (hp : p < 8) : bsub x (bitB p) + bitB p = bor (bsub x (bitB p)) (bitB p) ∧ (bsub x (bitB p)).toNat + (bitB p).toNat < 256 :=
  all_u8 (P := fun x => bsub x (bitB p) + bitB p = bor (bsub x (bitB p)) (bitB p) ∧ (bsub x (bitB p)).toNat + (bitB p).toNat < 256) (fun k => add_bit_all k ⟨p, hp⟩) x
theorem tb_putB {x : UInt8} {p : Nat} {c : Bool} (hp : p < 8) {k : Nat} (hk : k < 8) : (putB x p c).toNat.testBit k = if k = p then c else x.toNat.testBit k := by
  unfold putB
  cases c with
  | true =>
    rw [if_pos rfl, (add_bit x p hp).1, tb_bor, tb_bsub _ _ _ hk, tb_bitB hp hk]
    by_cases e : k = p
    · subst e; simp
    · have e' : decide (p = k) = false := by rw [decide_eq_false_iff_not]; exact fun h => e h.symm
      rw [if_neg e, e']; simp
  | false =>
    rw [if_neg (by simp), tb_bsub _ _ _ hk, tb_bitB hp hk]
    by_cases e : k = p
    · subst e; simp
    · have e' : decide (p = k) = false := by rw [decide_eq_false_iff_not]; exact fun h => e h.symm
      rw [if_neg e, e']; simp
/-- the first k bytes are put -/
def putK (L : List UInt8) (p : Nat) (l : List UInt8) (k : Nat) : List UInt8 := (List.range L.length).map fun i => if i < k then putB (gd L i) p (bit l i) else gd L i
theorem length_putK (L : List UInt8) (p : Nat) (l : List UInt8) (k : Nat) : (putK L p l k).length = L.length := by simp [putK]
theorem gd_putK {L : List UInt8} {p : Nat} {l : List UInt8} {k i : Nat} (h : i < L.length) : gd (putK L p l k) i = if i < k then putB (gd L i) p (bit l i) else gd L i := by
  simp [gd, putK, h]
theorem putK_zero (L : List UInt8) (p : Nat) (l : List UInt8) : putK L p l 0 = L := by
  refine list_ext (length_putK _ _ _ _) fun i hi => ?_
  rw [length_putK] at hi
  rw [gd_putK hi]; simp
theorem putK_succ {L : List UInt8} {p : Nat} {l : List UInt8} {k : Nat} (h : k < L.length) : putK L p l (k + 1) = (putK L p l k).set k (putB (gd L k) p (bit l k)) := by
  refine list_ext (by rw [List.length_set, length_putK, length_putK]) fun i hi => ?_
  rw [length_putK] at hi
  rw [gd_putK hi, gd_set _ _ _ (by rw [length_putK]; exact h), gd_putK hi]
  by_cases e : k = i
  · subst e; simp
  · rw [if_neg e]
    have h1 : (i < k + 1) ↔ (i < k) := by omega
    simp only [h1]
theorem put_text {n p : Nat} {f : Nat → List UInt8} {l : List UInt8} (hp : p < 8) : putK (textL n f) p l n = textL n (upd f p (least l)) := by
  refine list_ext (by rw [length_putK, length_textL, length_textL]) fun i hi => ?_
  rw [length_putK, length_textL] at hi
  rw [gd_putK (by rw [length_textL]; exact hi), if_pos hi, gd_textL _ hi, gd_textL _ hi]
  refine u8_ext fun k hk => ?_
  rw [tb_putB hp hk, tb_byte _ k hk, tb_byte _ k hk]
  by_cases e : k = p
  · subst e; rw [if_pos rfl, upd_self, bit_least]
  · rw [if_neg e, upd_ne e]
/-- what the reference collects of a text -/
theorem ref_plane {n p : Nat} {f : Nat → List UInt8} (h : Ok n f) (hp : p < 8) : ofL (intsN (places (textL n f) p n)) = f p := by
  have := planeOf_text h hp
  unfold planeOf at this
  rwa [length_textL] at this
def busy (L : List UInt8) (k : Nat) : List Nat := (List.range k).filter fun b => !(gd L b == 0)
theorem busy_succ (L : List UInt8) (k : Nat) : busy L (k + 1) = busy L k ++ (if gd L k = 0 then [] else [k]) := by
  simp only [busy, List.range_succ, List.filter_append, List.filter_cons, List.filter_nil]
  by_cases h : gd L k = 0
  · simp [h]
  · simp [h]
theorem length_busy (L : List UInt8) (k : Nat) : (busy L k).length ≤ k := by
  have := List.length_filter_le (fun b => !(gd L b == 0)) (List.range k)
  simpa [busy] using this
theorem okI_busy {L : List UInt8} {k : Nat} (h : k ≤ 65535) : okI (intsN (busy L k)) = true := okI_nats fun m hm => by
  simp only [busy, List.mem_filter, List.mem_range] at hm; omega
theorem ref_used {n : Nat} {f : Nat → List UInt8} (h : Ok n f) : ofL (intsN (busy (textL n f) n)) = used f := by
  have hhi := h.hi
  have hb : ∀ m : Nat, bit (used f) m = decide ((m : Int) ∈ intsN (busy (textL n f) n)) := fun m => by
    have hmem : ((m : Int) ∈ intsN (busy (textL n f) n)) ↔ (m < n ∧ gd (textL n f) m ≠ 0) := by
      rw [mem_intsN]
      simp [busy]
    by_cases hm : m < n
    · have ht := text_zero (f := f) hm
      cases hc : bit (used f) m with
      | false => exact (decide_eq_false (fun h => (hmem.1 h).2 (ht.2 hc))).symm
      | true => exact (decide_eq_true (hmem.2 ⟨hm, fun e => by rw [ht.1 e] at hc; cases hc⟩)).symm
    · cases hc : bit (used f) m with
      | false => exact (decide_eq_false (fun h => hm (hmem.1 h).1)).symm
      | true => exact absurd (fits_usedN h (Nat.le_refl 8) m hc).2 hm
  have h1 := ofL_eq (zs := intsN (busy (textL n f) n)) (okI_busy (by omega)) hb
  rw [← h1]
  exact least_usedN f 8

/-! ### What follows -/
theorem diff_back {p q : List UInt8} (hq : least q = q) : mk bsub (mk bor p (mk bsub q p)) (mk bsub p q) = q := by
  refine eq_of_bits (mk_least _ _ _) hq fun m => ?_
  rw [bit_mk_sub, bit_mk_or, bit_mk_sub, bit_mk_sub]
  cases bit p m <;> cases bit q m <;> rfl
theorem nil_of_bits {a : List UInt8} (ha : least a = a) (h : ∀ m, bit a m = false) : a = [] :=
  eq_of_bits ha rfl fun m => by rw [h, bit_nil]
theorem and_diff (p q : List UInt8) : mk band p (mk bsub q p) = [] := by
  refine nil_of_bits (mk_least _ _ _) fun m => ?_
  rw [bit_mk_and, bit_mk_sub]; cases bit p m <;> cases bit q m <;> rfl
theorem diff_in (p q : List UInt8) : mk bsub (mk bsub p q) p = [] := by
  refine nil_of_bits (mk_least _ _ _) fun m => ?_
  rw [bit_mk_sub, bit_mk_sub]; cases bit p m <;> cases bit q m <;> rfl
theorem diff_apart (p q : List UInt8) : mk band (mk bsub q p) (mk bsub p q) = [] := by
  refine nil_of_bits (mk_least _ _ _) fun m => ?_
  rw [bit_mk_and, bit_mk_sub, bit_mk_sub]; cases bit p m <;> cases bit q m <;> rfl
theorem any_two {g : Nat → Bool} {i j : Nat} (hi : i < 8) (hj : j < 8) (h : ∀ p, p < 8 → p ≠ i → p ≠ j → g p = false) : (List.range 8).any g = (g i || g j) := by
  cases hg : (g i || g j) with
  | true =>
    rw [List.any_eq_true]
    rw [Bool.or_eq_true] at hg
    rcases hg with h1 | h1
    · exact ⟨i, List.mem_range.2 hi, h1⟩
    · exact ⟨j, List.mem_range.2 hj, h1⟩
  | false =>
    rw [List.any_eq_false]
    intro p hp
    rw [List.mem_range] at hp
    rw [Bool.or_eq_false_iff] at hg
    by_cases e1 : p = i
    · subst e1; simp [hg.1]
    · by_cases e2 : p = j
      · subst e2; simp [hg.2]
      · simp [h p hp e1 e2]
theorem used_two {a b : List UInt8} {i j : Nat} (hi : i < 8) (hj : j < 8) (hij : i ≠ j) : used (upd (upd (fun _ => []) i a) j b) = mk bor a b := by
  refine eq_of_bits (least_usedN _ 8) (mk_least _ _ _) fun m => ?_
  rw [bit_used, bit_mk_or, any_two hi hj (fun p _ h1 h2 => by rw [upd_ne h2, upd_ne h1, bit_nil]), upd_self, upd_ne hij, upd_self]
theorem used_one {a : List UInt8} {i : Nat} (hi : i < 8) (ha : least a = a) : used (upd (fun _ => []) i a) = a := by
  refine eq_of_bits (least_usedN _ 8) ha fun m => ?_
  rw [bit_used, any_two hi hi (fun p _ h1 _ => by rw [upd_ne h1, bit_nil]), upd_self, Bool.or_self]
theorem used_none : used (fun _ => []) = [] := nil_of_bits (least_usedN _ 8) fun m => by rw [bit_used]; simp [bit_nil]
theorem used_all {a : List UInt8} (ha : least a = a) {f : Nat → List UInt8} (h : ∀ p, p < 8 → f p = a) : used f = a := by
  refine eq_of_bits (least_usedN _ 8) ha fun m => ?_
  rw [bit_used]
  cases hb : bit a m with
  | true => rw [List.any_eq_true]; exact ⟨0, by simp, by rw [h 0 (by omega)]; exact hb⟩
  | false => rw [List.any_eq_false]; intro p hp; rw [List.mem_range] at hp; rw [h p hp, hb]; simp
theorem used_congr {f g : Nat → List UInt8} (h : ∀ p, p < 8 → f p = g p) : used f = used g := by
  refine eq_of_bits (least_usedN _ 8) (least_usedN _ 8) fun m => ?_
  rw [bit_used, bit_used]
  have : ∀ p ∈ List.range 8, bit (f p) m = bit (g p) m := fun p hp => by rw [h p (List.mem_range.1 hp)]
  cases hb : (List.range 8).any (fun p => bit (g p) m) with
  | true => rw [List.any_eq_true] at hb ⊢; obtain ⟨p, hp, e⟩ := hb; exact ⟨p, hp, by rw [this p hp]; exact e⟩
  | false => rw [List.any_eq_false] at hb ⊢; intro p hp; rw [this p hp]; exact hb p hp
/-- what two have together is what the one has, and what the other has apart -/
theorem cnt_or_sub {n : Nat} {a b : List UInt8} (ha : Fits n a) (hb : Fits n b) : cnt (mk bor a b) = cnt a + cnt (mk bsub b a) := by
  have h1 : Fits n (mk bor a b) := fun m hm => by
    rw [bit_mk_or, Bool.or_eq_true] at hm
    rcases hm with h | h
    · exact ha m h
    · exact hb m h
  have h2 : Fits n (mk bsub b a) := fun m hm => by
    rw [bit_mk_sub, Bool.and_eq_true] at hm
    exact hb m hm.1
  rw [cnt_range h1, cnt_range ha, cnt_range h2]
  have : ∀ l : List Nat, (l.filter (bit (mk bor a b))).length = (l.filter (bit a)).length + (l.filter (bit (mk bsub b a))).length := by
    intro l
    induction l with
    | nil => rfl
    | cons x l ih =>
      simp only [List.filter_cons, bit_mk_or, bit_mk_sub]
      cases bit a x <;> cases bit b x <;> simp <;> omega
  exact this _
end Go.Proofs.Ytknfakaklmpboaa.PL

