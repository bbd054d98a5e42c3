/-
  Plain facts on the set of given numbers.
-/
import Derived.Test.YtknfakaklmpboaaSetsMath
namespace Go.Proofs.Ytknfakaklmpboaa.SM

def setBit (l : List UInt8) (z : Nat) : List UInt8 := l.set (z / 8) (bor (gd l (z / 8)) (UInt8.ofNat (2 ^ (z % 8) % 256)))
theorem length_setBit (l : List UInt8) (z : Nat) : (setBit l z).length = l.length := by simp [setBit]
theorem pow_tb : ∀ (a b : Fin 8), (UInt8.ofNat (2 ^ a.val % 256)).toNat.testBit b.val = decide (a.val = b.val) := by decide +kernel
theorem gd_set (l : List UInt8) (i : Nat) (x : UInt8) (h : i < l.length) (j : Nat) : gd (l.set i x) j = if i = j then x else gd l j := by
  simp only [gd, List.getD_eq_getElem?_getD, List.getElem?_set]
  split
  · rfl
  · rfl
theorem bit_setBit (l : List UInt8) (z m : Nat) (h : z / 8 < l.length) : bit (setBit l z) m = (bit l m || decide (m = z)) := by
  unfold bit setBit
  rw [gd_set _ _ _ h]
  split
  · rename_i e
    rw [tb_bor, ← e, pow_tb ⟨z % 8, Nat.mod_lt _ (by decide)⟩ ⟨m % 8, Nat.mod_lt _ (by decide)⟩]
    congr 1
    simp only [decide_eq_decide]
    omega
  · rename_i e
    have : m ≠ z := fun h => e (by rw [h])
    simp [this]
theorem length_fold (zs : List Nat) : ∀ l : List UInt8, (zs.foldl setBit l).length = l.length := by
  induction zs with
  | nil => intro l; rfl
  | cons z zs ih => intro l; rw [List.foldl_cons, ih, length_setBit]
theorem bit_fold (zs : List Nat) : ∀ (l : List UInt8), (∀ z ∈ zs, z / 8 < l.length) → ∀ m, bit (zs.foldl setBit l) m = (bit l m || decide (m ∈ zs)) := by
  induction zs with
  | nil => intro l _ m; simp
  | cons z zs ih =>
    intro l h m
    rw [List.foldl_cons, ih _ (fun y hy => by rw [length_setBit]; exact h y (by simp [hy])), bit_setBit _ _ _ (h z (by simp)), Bool.or_assoc]
    congr 1
    simp
theorem bit_ext {a b : List UInt8} (h : ∀ n, bit a n = bit b n) : ∀ i, gd a i = gd b i := fun i => u8_ext fun k hk => by
  have := h (8 * i + k)
  unfold bit at this
  rwa [show (8 * i + k) / 8 = i by omega, show (8 * i + k) % 8 = k by omega] at this
theorem bit_zeros (n m : Nat) : bit (List.replicate n 0) m = false := by simp [bit, gd_zeros]
/-- a list of bytes that ends with a number of its own is its own least list -/
theorem least_self {l : List UInt8} {z : Nat} (h : bit l z = true) (hl : l.length = z / 8 + 1) : least l = l := by
  have hlast : gd l (z / 8) ≠ 0 := fun e => by rw [bit, e] at h; simp at h
  cases hc : l.reverse with
  | nil => have : l = [] := by simpa using hc
           subst this; simp at hl
  | cons x r =>
    have hx : l = r.reverse ++ [x] := by
      have := congrArg List.reverse hc
      simpa using this
    rw [hx, least_snoc, if_neg]
    intro e
    apply hlast
    rw [hx, gd_append, if_neg (by rw [hx] at hl; simp at hl ⊢; omega)]
    rw [hx] at hl
    simp at hl
    simp [gd, hl, e]

def mostI (zs : List Int) : Int := zs.foldl max (-1)
theorem mostI_snoc (zs : List Int) (z : Int) : mostI (zs ++ [z]) = max (mostI zs) z := by simp [mostI]
theorem mostI_ge : ∀ (zs : List Int) (a : Int), a ≤ zs.foldl max a ∧ ∀ z ∈ zs, z ≤ zs.foldl max a
  | [], a => by simp
  | y :: zs, a => by
    have := mostI_ge zs (max a y)
    refine ⟨by rw [List.foldl_cons]; omega, fun z hz => ?_⟩
    rw [List.foldl_cons]
    rcases List.mem_cons.1 hz with rfl | hz
    · omega
    · exact this.2 z hz
theorem mostI_mem : ∀ (zs : List Int) (a : Int), zs.foldl max a = a ∨ zs.foldl max a ∈ zs
  | [], a => .inl rfl
  | y :: zs, a => by
    rw [List.foldl_cons]
    rcases mostI_mem zs (max a y) with h | h
    · rw [h]
      by_cases hy : a ≤ y
      · right; rw [Int.max_eq_right hy]; simp
      · left; omega
    · right; simp [h]
theorem mostI_le (zs : List Int) (B : Int) (hB : -1 ≤ B) (h : ∀ z ∈ zs, z ≤ B) : mostI zs ≤ B := by
  rcases mostI_mem zs (-1) with e | e
  · unfold mostI; omega
  · exact h _ e
theorem mostI_lo (zs : List Int) : -1 ≤ mostI zs := (mostI_ge zs (-1)).1

/-- are all of these numbers of a set? -/
def okI (zs : List Int) : Bool := zs.all fun z => decide (0 ≤ z ∧ z ≤ 65535)
def lenI (zs : List Int) : Nat := ((mostI zs + 8) / 8).toNat
def natsI (zs : List Int) : List Nat := zs.map Int.toNat
/-- the set of these numbers -/
def ofL (zs : List Int) : List UInt8 := (natsI zs).foldl setBit (List.replicate (lenI zs) 0)
theorem okI_mem {zs : List Int} (h : okI zs = true) {z : Int} (hz : z ∈ zs) : 0 ≤ z ∧ z ≤ 65535 := by
  have := List.all_eq_true.1 h z hz
  simpa using this
theorem lenI_lt {zs : List Int} {z : Int} (hz : z ∈ zs) (h0 : 0 ≤ z) : z.toNat / 8 < lenI zs := by
  have h := (mostI_ge zs (-1)).2 z hz
  have h2 : z ≤ mostI zs := h
  unfold lenI; omega
theorem lenI_le {zs : List Int} (h : okI zs = true) : lenI zs ≤ 8192 := by
  have := mostI_le zs 65535 (by omega) (fun z hz => (okI_mem h hz).2)
  unfold lenI; omega
theorem bit_ofL {zs : List Int} (h : okI zs = true) (m : Nat) : bit (ofL zs) m = decide ((m : Int) ∈ zs) := by
  unfold ofL
  rw [bit_fold _ _ (fun z hz => by
    simp only [natsI, List.mem_map] at hz
    obtain ⟨y, hy, rfl⟩ := hz
    simpa using lenI_lt hy (okI_mem h hy).1), bit_zeros, Bool.false_or]
  simp only [decide_eq_decide, natsI, List.mem_map]
  constructor
  · rintro ⟨y, hy, rfl⟩
    have := (okI_mem h hy).1
    rwa [Int.toNat_of_nonneg this]
  · intro hm
    exact ⟨m, hm, by simp⟩
theorem length_ofL (zs : List Int) : (ofL zs).length = lenI zs := by simp [ofL, length_fold]
theorem least_ofL {zs : List Int} (h : okI zs = true) : least (ofL zs) = ofL zs := by
  rcases mostI_mem zs (-1) with e | e
  · have : lenI zs = 0 := by unfold lenI mostI; rw [e]; decide
    have hl := length_ofL zs
    rw [this] at hl
    rw [List.eq_nil_of_length_eq_zero hl]; rfl
  · have h0 := (okI_mem h e).1
    have hm : mostI zs = ((mostI zs).toNat : Int) := (Int.toNat_of_nonneg h0).symm
    refine least_self (z := (mostI zs).toNat) ?_ ?_
    · rw [bit_ofL h, ← hm]; exact decide_eq_true e
    · rw [length_ofL]; unfold lenI; omega
/-- whatever list has just these numbers: its least list is the set -/
theorem ofL_eq {zs : List Int} (h : okI zs = true) {l : List UInt8} (hl : ∀ m : Nat, bit l m = decide ((m : Int) ∈ zs)) : least l = ofL zs := by
  rw [← least_ofL h]
  exact least_ext (bit_ext fun n => by rw [hl, bit_ofL h])
/-! ### As the reference makes it -/
def stepR (l : List UInt8) (z : Nat) : List UInt8 := setBit (l ++ List.replicate (z / 8 + 1 - l.length) 0) z
def rofL (zs : List Int) : List UInt8 := (natsI zs).foldl stepR []
theorem bit_pad (l : List UInt8) (n m : Nat) : bit (l ++ List.replicate n 0) m = bit l m := by
  unfold bit
  rw [gd_append]
  split
  · rfl
  · rw [gd_zeros, gd_ge (by omega)]
theorem bit_stepR (l : List UInt8) (z m : Nat) : bit (stepR l z) m = (bit l m || decide (m = z)) := by
  unfold stepR
  rw [bit_setBit _ _ _ (by simp; omega), bit_pad]
theorem bit_foldR (zs : List Nat) : ∀ (l : List UInt8) m, bit (zs.foldl stepR l) m = (bit l m || decide (m ∈ zs)) := by
  induction zs with
  | nil => intro l m; simp
  | cons z zs ih =>
    intro l m
    rw [List.foldl_cons, ih, bit_stepR, Bool.or_assoc]
    congr 1
    simp
def Ends (l : List UInt8) : Prop := l = [] ∨ ∃ z, bit l z = true ∧ l.length = z / 8 + 1
theorem ends_stepR {l : List UInt8} (h : Ends l) (z : Nat) : Ends (stepR l z) := by
  right
  have hlen : (stepR l z).length = max l.length (z / 8 + 1) := by unfold stepR; rw [length_setBit]; simp; omega
  by_cases hz : l.length ≤ z / 8 + 1
  · exact ⟨z, by rw [bit_stepR]; simp, by rw [hlen]; omega⟩
  · rcases h with rfl | ⟨y, hy, hl⟩
    · simp at hz
    · exact ⟨y, by rw [bit_stepR, hy]; rfl, by rw [hlen]; omega⟩
theorem ends_foldR (zs : List Nat) : ∀ l : List UInt8, Ends l → Ends (zs.foldl stepR l) := by
  induction zs with
  | nil => intro l h; exact h
  | cons z zs ih => intro l h; exact ih _ (ends_stepR h z)
theorem rofL_eq {zs : List Int} (h : okI zs = true) : rofL zs = ofL zs := by
  have hb : ∀ m : Nat, bit (rofL zs) m = decide ((m : Int) ∈ zs) := fun m => by
    unfold rofL
    rw [bit_foldR]
    rw [show bit [] m = false by simp [bit, gd_nil], Bool.false_or]
    simp only [decide_eq_decide, natsI, List.mem_map]
    constructor
    · rintro ⟨y, hy, rfl⟩
      have := (okI_mem h hy).1
      rwa [Int.toNat_of_nonneg this]
    · intro hm
      exact ⟨m, hm, by simp⟩
  rw [← ofL_eq h hb]
  rcases ends_foldR (natsI zs) [] (.inl rfl) with e | ⟨z, hz, hl⟩
  · unfold rofL; rw [e]; rfl
  · exact (least_self hz hl).symm
theorem rofL_take (zs : List Int) (k : Nat) (h : k < zs.length) : rofL (zs.take (k + 1)) = stepR (rofL (zs.take k)) zs[k].toNat := by
  unfold rofL natsI
  rw [List.take_succ_eq_append_getElem h, List.map_append, List.foldl_append]; rfl
theorem length_rofL_le {zs : List Int} (h : okI zs = true) : (rofL zs).length ≤ 8192 := by
  rw [rofL_eq h, length_ofL]; exact lenI_le h
end Go.Proofs.Ytknfakaklmpboaa.SM

