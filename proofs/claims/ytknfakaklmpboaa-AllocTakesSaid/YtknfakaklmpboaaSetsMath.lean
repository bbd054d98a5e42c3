/-
  Plain facts on sets as lists of bytes: which numbers a list has, its least list, what two lists make. No program in it.
-/
import Derived.Lib.BitFns
import Derived.Laws.Entries
namespace Go.Proofs.Ytknfakaklmpboaa.SM

def gd (l : List UInt8) (i : Nat) : UInt8 := l.getD i 0
def bit (l : List UInt8) (n : Nat) : Bool := (gd l (n / 8)).toNat.testBit (n % 8)
def least (l : List UInt8) : List UInt8 := (l.reverse.dropWhile (· == 0)).reverse
def zipB (f : UInt8 → UInt8 → UInt8) (a b : List UInt8) : List UInt8 := (List.range (max a.length b.length)).map fun i => f (gd a i) (gd b i)
def band (x y : UInt8) : UInt8 := x &&& y
def bor (x y : UInt8) : UInt8 := x ||| y
def bsub (x y : UInt8) : UInt8 := x &&& ~~~ y
def mk (f : UInt8 → UInt8 → UInt8) (a b : List UInt8) : List UInt8 := least (zipB f a b)
def ones (b : UInt8) : Nat := Lib.onesCount b.toNat
def cnt (l : List UInt8) : Nat := (l.map ones).sum
def bitsOf (b : UInt8) : List Nat := (List.range 8).filter fun k => b.toNat.testBit k

/-! ### Bytes -/
theorem all_u8 {P : UInt8 → Prop} (h : ∀ k : Fin 256, P (UInt8.ofNat k.val)) (b : UInt8) : P b := by
  have := h ⟨b.toNat, b.toNat_lt⟩
  simpa using this

theorem u8_ext {x y : UInt8} (h : ∀ k, k < 8 → x.toNat.testBit k = y.toNat.testBit k) : x = y := by
  apply UInt8.toNat_inj.1
  apply Nat.eq_of_testBit_eq
  intro i
  by_cases hi : i < 8
  · exact h i hi
  · have hx : x.toNat < 2 ^ i := Nat.lt_of_lt_of_le x.toNat_lt (Nat.pow_le_pow_right (by decide) (by omega))
    have hy : y.toNat < 2 ^ i := Nat.lt_of_lt_of_le y.toNat_lt (Nat.pow_le_pow_right (by decide) (by omega))
    rw [Nat.testBit_lt_two_pow hx, Nat.testBit_lt_two_pow hy]

theorem tb_band (x y : UInt8) (k : Nat) : (band x y).toNat.testBit k = (x.toNat.testBit k && y.toNat.testBit k) := by simp [band]
theorem tb_bor (x y : UInt8) (k : Nat) : (bor x y).toNat.testBit k = (x.toNat.testBit k || y.toNat.testBit k) := by simp [bor]
theorem not_tb : ∀ (b : Fin 256) (k : Fin 8), (~~~ (UInt8.ofNat b.val)).toNat.testBit k.val = !(UInt8.ofNat b.val).toNat.testBit k.val := by decide +kernel
theorem tb_not (x : UInt8) (k : Nat) (hk : k < 8) : (~~~ x).toNat.testBit k = !x.toNat.testBit k :=
  all_u8 (P := fun x => (~~~ x).toNat.testBit k = !x.toNat.testBit k) (fun b => not_tb b ⟨k, hk⟩) x
theorem tb_bsub (x y : UInt8) (k : Nat) (hk : k < 8) : (bsub x y).toNat.testBit k = (x.toNat.testBit k && !y.toNat.testBit k) := by
  rw [← tb_not y k hk]; simp [bsub]

theorem bitsOf_ones : ∀ b : Fin 256, (bitsOf (UInt8.ofNat b.val)).length = ones (UInt8.ofNat b.val) := by decide +kernel
theorem bitsOf_length (b : UInt8) : (bitsOf b).length = ones b := all_u8 (P := fun b => (bitsOf b).length = ones b) bitsOf_ones b
theorem ones_le (b : UInt8) : ones b ≤ 8 := by
  rw [← bitsOf_length]; unfold bitsOf
  exact Nat.le_trans (List.length_filter_le _ _) (by simp)

theorem bitsOf_step_all : ∀ b : Fin 256, UInt8.ofNat b.val ≠ 0 → bitsOf (UInt8.ofNat b.val) = Lib.trailingZeros8 b.val :: bitsOf (UInt8.ofNat b.val &&& (UInt8.ofNat b.val - 1)) := by decide +kernel
theorem bitsOf_step (b : UInt8) (h : b ≠ 0) : bitsOf b = Lib.trailingZeros8 b.toNat :: bitsOf (b &&& (b - 1)) := by
  have := bitsOf_step_all ⟨b.toNat, b.toNat_lt⟩
  simp only [UInt8.ofNat_toNat] at this
  exact this h
theorem bitsOf_zero : bitsOf 0 = [] := by decide +kernel
theorem mem_bitsOf {b : UInt8} {k : Nat} : k ∈ bitsOf b ↔ k < 8 ∧ b.toNat.testBit k = true := by simp [bitsOf]

/-! ### The walk's own spelling of the operations on bytes -/
theorem wrap_u8 (n : Nat) (h : n < 256) : IntKind.u8.wrap (n : Int) = (n : Int) := by
  simp [IntKind.wrap, IntKind.bits, IntKind.signed]; omega
theorem ofInt_u8 (x : UInt8) : BitVec.ofInt 8 (x.toNat : Int) = x.toBitVec := by
  apply BitVec.eq_of_toNat_eq; simp
theorem bits_and (x y : UInt8) : bits .and .u8 (x.toNat : Int) (y.toNat : Int) = ((band x y).toNat : Int) := by
  show IntKind.u8.wrap ((BitVec.ofInt 8 _ &&& BitVec.ofInt 8 _).toNat : Int) = _
  rw [ofInt_u8, ofInt_u8, wrap_u8 _ (BitVec.isLt _)]; rfl
theorem bits_or (x y : UInt8) : bits .or .u8 (x.toNat : Int) (y.toNat : Int) = ((bor x y).toNat : Int) := by
  show IntKind.u8.wrap ((BitVec.ofInt 8 _ ||| BitVec.ofInt 8 _).toNat : Int) = _
  rw [ofInt_u8, ofInt_u8, wrap_u8 _ (BitVec.isLt _)]; rfl
theorem bits_andNot (x y : UInt8) : bits .andNot .u8 (x.toNat : Int) (y.toNat : Int) = ((bsub x y).toNat : Int) := by
  show IntKind.u8.wrap ((BitVec.ofInt 8 _ &&& ~~~ BitVec.ofInt 8 _).toNat : Int) = _
  rw [ofInt_u8, ofInt_u8, wrap_u8 _ (BitVec.isLt _)]; rfl

/-! ### Lists of bytes -/
theorem gd_nil (i : Nat) : gd [] i = 0 := by simp [gd]
theorem gd_ge {l : List UInt8} {i : Nat} (h : l.length ≤ i) : gd l i = 0 := by simp [gd, h]
theorem gd_append (a b : List UInt8) (i : Nat) : gd (a ++ b) i = if i < a.length then gd a i else gd b (i - a.length) := by
  simp only [gd, List.getD_eq_getElem?_getD, List.getElem?_append]
  split <;> rfl
theorem gd_zeros (n i : Nat) : gd (List.replicate n 0) i = 0 := by
  simp only [gd, List.getD_eq_getElem?_getD, List.getElem?_replicate]
  split <;> rfl

theorem least_snoc (l : List UInt8) (b : UInt8) : least (l ++ [b]) = if b = 0 then least l else l ++ [b] := by
  unfold least
  by_cases h : b = 0
  · subst h; simp
  · have : (b == 0) = false := by simpa using h
    simp [this, h]
theorem snoc_ind {P : List UInt8 → Prop} (h0 : P []) (h1 : ∀ l b, P l → P (l ++ [b])) (l : List UInt8) : P l := by
  have : ∀ r : List UInt8, P r.reverse := by
    intro r
    induction r with
    | nil => exact h0
    | cons x r ih => rw [List.reverse_cons]; exact h1 _ _ ih
  simpa using this l.reverse
theorem gd_least (l : List UInt8) : ∀ i, gd (least l) i = gd l i := by
  refine snoc_ind (P := fun l => ∀ i, gd (least l) i = gd l i) (fun i => by simp [least]) (fun l b ih i => ?_) l
  rw [least_snoc]
  split
  · rename_i h
    subst h
    rw [ih, gd_append]
    split
    · rfl
    · rw [gd_ge (by omega)]
      by_cases hi : i - l.length = 0
      · simp [gd, hi]
      · rw [gd_ge (by simp; omega)]
  · rfl
theorem least_length (l : List UInt8) : (least l).length ≤ l.length := by
  refine snoc_ind (P := fun l => (least l).length ≤ l.length) (by simp [least]) (fun l b ih => ?_) l
  rw [least_snoc]; split <;> simp <;> omega
theorem least_prefix (l : List UInt8) : least l = l.take (least l).length := by
  refine snoc_ind (P := fun l => least l = l.take (least l).length) (by simp [least]) (fun l b ih => ?_) l
  rw [least_snoc]
  split
  · rw [List.take_append_of_le_length (least_length l)]; exact ih
  · rw [List.take_length]
/-- a least list's last byte is not nought -/
theorem least_last (l : List UInt8) (h : least l ≠ []) : gd (least l) ((least l).length - 1) ≠ 0 := by
  revert h
  refine snoc_ind (P := fun l => least l ≠ [] → gd (least l) ((least l).length - 1) ≠ 0) (by simp [least]) (fun l b ih => ?_) l
  rw [least_snoc]
  split
  · exact ih
  · rename_i hb
    intro _
    rw [gd_append]; simp [gd, hb]
theorem least_ext {a b : List UInt8} (h : ∀ i, gd a i = gd b i) : least a = least b := by
  have hg : ∀ i, gd (least a) i = gd (least b) i := fun i => by rw [gd_least, gd_least, h]
  have hlen : (least a).length = (least b).length := by
    rcases Nat.lt_trichotomy (least a).length (least b).length with hl | hl | hl
    · exact absurd (by rw [← hg, gd_ge (by omega)]) (least_last b (by intro e; rw [e] at hl; simp at hl))
    · exact hl
    · exact absurd (by rw [hg, gd_ge (by omega)]) (least_last a (by intro e; rw [e] at hl; simp at hl))
  refine List.ext_getElem hlen fun i h1 h2 => ?_
  have := hg i
  simpa [gd, h1, h2] using this
theorem least_least (l : List UInt8) : least (least l) = least l := least_ext (gd_least l)
theorem least_zeros (l : List UInt8) (n : Nat) : least (l ++ List.replicate n 0) = least l := least_ext fun i => by
  rw [gd_append]; split
  · rfl
  · rw [gd_zeros, gd_ge (by omega)]

theorem zipB_length (f : UInt8 → UInt8 → UInt8) (a b : List UInt8) : (zipB f a b).length = max a.length b.length := by simp [zipB]
theorem gd_zipB (f : UInt8 → UInt8 → UInt8) (hf : f 0 0 = 0) (a b : List UInt8) (i : Nat) : gd (zipB f a b) i = f (gd a i) (gd b i) := by
  by_cases h : i < max a.length b.length
  · simp [gd, zipB, h]
  · rw [gd_ge (by rw [zipB_length]; omega), gd_ge (l := a) (by omega), gd_ge (l := b) (by omega), hf]
theorem gd_mk (f : UInt8 → UInt8 → UInt8) (hf : f 0 0 = 0) (a b : List UInt8) (i : Nat) : gd (mk f a b) i = f (gd a i) (gd b i) := by
  rw [mk, gd_least, gd_zipB f hf]
theorem mk_ext {f g : UInt8 → UInt8 → UInt8} (hf : f 0 0 = 0) (hg : g 0 0 = 0) {a b c d : List UInt8} (h : ∀ i, f (gd a i) (gd b i) = g (gd c i) (gd d i)) : mk f a b = mk g c d :=
  least_ext fun i => by rw [gd_zipB f hf, gd_zipB g hg, h]
theorem mk_length (f : UInt8 → UInt8 → UInt8) (a b : List UInt8) : (mk f a b).length ≤ max a.length b.length := by
  rw [← zipB_length f]; exact least_length _
theorem mk_least (f : UInt8 → UInt8 → UInt8) (a b : List UInt8) : least (mk f a b) = mk f a b := least_least _
theorem mk_nil {f : UInt8 → UInt8 → UInt8} (hf : f 0 0 = 0) {a b : List UInt8} (h : ∀ i, f (gd a i) (gd b i) = 0) : mk f a b = [] := by
  have : least (zipB f a b) = least [] := least_ext fun i => by rw [gd_zipB f hf, h, gd_nil]
  exact this
theorem mk_or_nil (a : List UInt8) : mk bor a [] = least a := least_ext fun i => by
  rw [gd_zipB bor (by decide), gd_nil]; simp [bor]

/-! ### Counting -/
theorem cnt_eq (l : List UInt8) (n : Nat) (h : l.length ≤ n) : cnt l = ((List.range n).map fun i => ones (gd l i)).sum := by
  induction n generalizing l with
  | zero => obtain rfl : l = [] := List.eq_nil_of_length_eq_zero (by omega); rfl
  | succ n ih =>
    rw [List.range_succ_eq_map]
    cases l with
    | nil => 
      have := ih [] (by simp)
      simp only [List.map_cons, List.sum_cons, List.map_map]
      have e : ((fun i => ones (gd [] i)) ∘ Nat.succ) = fun i => ones (gd [] i) := by funext i; simp [gd_nil]
      rw [e, ← this, gd_nil]; decide
    | cons x l =>
      have := ih l (by simpa using h)
      simp only [List.map_cons, List.sum_cons, List.map_map]
      have e : ((fun i => ones (gd (x :: l) i)) ∘ Nat.succ) = fun i => ones (gd l i) := by funext i; simp [gd]
      rw [e, ← this]; simp [cnt, gd]
theorem cnt_ext {a b : List UInt8} (h : ∀ i, gd a i = gd b i) : cnt a = cnt b := by
  rw [cnt_eq a (max a.length b.length) (by omega), cnt_eq b (max a.length b.length) (by omega)]
  rw [List.map_congr_left (fun i _ => by rw [h i])]
theorem cnt_least (l : List UInt8) : cnt (least l) = cnt l := cnt_ext (gd_least l)
theorem cnt_le (l : List UInt8) : cnt l ≤ 8 * l.length := by
  induction l with
  | nil => simp [cnt]
  | cons x l ih => have := ones_le x; simp only [cnt, List.map_cons, List.sum_cons, List.length_cons] at *; omega
theorem length_filter_or_and (p q : Nat → Bool) (l : List Nat) : (l.filter fun k => p k || q k).length + (l.filter fun k => p k && q k).length = (l.filter p).length + (l.filter q).length := by
  induction l with
  | nil => rfl
  | cons x l ih =>
    simp only [List.filter_cons]
    cases p x <;> cases q x <;> simp <;> omega
theorem ones_or_and (x y : UInt8) : ones (bor x y) + ones (band x y) = ones x + ones y := by
  simp only [← bitsOf_length]
  unfold bitsOf
  have := length_filter_or_and (fun k => x.toNat.testBit k) (fun k => y.toNat.testBit k) (List.range 8)
  simp only [tb_bor, tb_band]
  exact this
theorem sum_map_add (f g h k : Nat → Nat) (H : ∀ i, f i + g i = h i + k i) (l : List Nat) : (l.map f).sum + (l.map g).sum = (l.map h).sum + (l.map k).sum := by
  induction l with
  | nil => rfl
  | cons x l ih => have := H x; simp only [List.map_cons, List.sum_cons]; omega
theorem cnt_or_and (a b : List UInt8) : cnt (mk bor a b) + cnt (mk band a b) = cnt a + cnt b := by
  have l1 := mk_length bor a b
  have l2 := mk_length band a b
  rw [cnt_eq _ (max a.length b.length) l1, cnt_eq _ (max a.length b.length) l2, cnt_eq a (max a.length b.length) (by omega), cnt_eq b (max a.length b.length) (by omega)]
  refine sum_map_add _ _ _ _ (fun i => ?_) _
  rw [gd_mk bor (by decide), gd_mk band (by decide)]
  exact ones_or_and _ _
theorem gd_lt {l : List UInt8} {k : Nat} (h : k < l.length) : gd l k = l[k] := by
  simp only [gd, List.getD_eq_getElem?_getD, List.getElem?_eq_getElem h]; rfl
theorem cnt_take (l : List UInt8) (k : Nat) (h : k < l.length) : cnt (l.take (k + 1)) = cnt (l.take k) + ones (gd l k) := by
  rw [gd_lt h, List.take_succ_eq_append_getElem h]; unfold cnt; rw [List.map_append, List.sum_append]; simp

/-! ### Is a number in a set? -/
def bitI (l : List UInt8) (n : Int) : Bool := decide (0 ≤ n) && bit l n.toNat
theorem bit_ge {l : List UInt8} {n : Nat} (h : l.length ≤ n / 8) : bit l n = false := by simp [bit, gd_ge h]
theorem tb_div_all : ∀ (b : Fin 256) (k : Fin 8), (b.val / 2 ^ k.val % 2 == 1) = b.val.testBit k.val := by decide +kernel
theorem tb_div (b : UInt8) (k : Nat) (hk : k < 8) : (b.toNat / 2 ^ k % 2 == 1) = b.toNat.testBit k := tb_div_all ⟨b.toNat, b.toNat_lt⟩ ⟨k, hk⟩
/-! ### The numbers of a set, byte by byte -/
/-- the numbers of byte i, of those bits that b has -/
def seg (b : UInt8) (i : Nat) : List Nat := (bitsOf b).map (8 * i + ·)
/-- all numbers of the bytes from i on -/
def segs (l : List UInt8) : Nat → Nat → List Nat
  | _, 0 => []
  | i, k + 1 => seg (gd l i) i ++ segs l (i + 1) k
/-- the mask of the first byte -/
def mask0 (from_ : Nat) : UInt8 := UInt8.ofNat (255 * 2 ^ (from_ % 8) % 256)
/-- the numbers from one on, as they are gone over -/
def nums (l : List UInt8) (from_ : Nat) : List Nat :=
  if from_ / 8 < l.length then seg (band (gd l (from_ / 8)) (mask0 from_)) (from_ / 8) ++ segs l (from_ / 8 + 1) (l.length - (from_ / 8 + 1)) else []

theorem mem_seg {b : UInt8} {i n : Nat} : n ∈ seg b i ↔ n / 8 = i ∧ b.toNat.testBit (n % 8) = true := by
  simp only [seg, List.mem_map, mem_bitsOf]
  constructor
  · rintro ⟨k, ⟨h1, h2⟩, rfl⟩
    rw [show (8 * i + k) / 8 = i by omega, show (8 * i + k) % 8 = k by omega]
    exact ⟨rfl, h2⟩
  · rintro ⟨rfl, h⟩
    exact ⟨n % 8, ⟨by omega, h⟩, by omega⟩
theorem mem_segs {l : List UInt8} {n : Nat} : ∀ (k i : Nat), n ∈ segs l i k ↔ i ≤ n / 8 ∧ n / 8 < i + k ∧ bit l n = true
  | 0, i => by simp [segs]; omega
  | k + 1, i => by
    simp only [segs, List.mem_append, mem_segs k (i + 1), mem_seg]
    constructor
    · rintro (⟨rfl, h⟩ | ⟨h1, h2, h3⟩)
      · exact ⟨Nat.le_refl _, by omega, h⟩
      · exact ⟨by omega, by omega, h3⟩
    · rintro ⟨h1, h2, h3⟩
      by_cases h : n / 8 = i
      · subst h; exact .inl ⟨rfl, h3⟩
      · exact .inr ⟨by omega, by omega, h3⟩
theorem mask_all : ∀ (f k : Fin 8), (mask0 f.val).toNat.testBit k.val = decide (f.val ≤ k.val) := by decide +kernel
theorem mask0_mod (n : Nat) : mask0 n = mask0 (n % 8) := by unfold mask0; rw [Nat.mod_mod]
theorem tb_mask (n k : Nat) (hk : k < 8) : (mask0 n).toNat.testBit k = decide (n % 8 ≤ k) := by
  rw [mask0_mod]; exact mask_all ⟨n % 8, Nat.mod_lt _ (by decide)⟩ ⟨k, hk⟩
theorem mem_nums {l : List UInt8} {from_ n : Nat} : n ∈ nums l from_ ↔ from_ ≤ n ∧ bit l n = true := by
  unfold nums
  split
  · rename_i h
    simp only [List.mem_append, mem_segs, mem_seg, tb_band, tb_mask _ _ (Nat.mod_lt n (by decide : 8 > 0)), Bool.and_eq_true, decide_eq_true_eq]
    constructor
    · rintro (⟨h1, h2, h3⟩ | ⟨h1, h2, h3⟩)
      · refine ⟨by omega, ?_⟩
        unfold bit; rw [h1]; exact h2
      · exact ⟨by omega, h3⟩
    · rintro ⟨h1, h2⟩
      have hl : n / 8 < l.length := by
        rcases Nat.lt_or_ge (n / 8) l.length with h | h
        · exact h
        · rw [bit_ge h] at h2; cases h2
      by_cases he : n / 8 = from_ / 8
      · refine .inl ⟨he, ?_, by omega⟩
        have h2' := h2
        unfold bit at h2'; rw [he] at h2'; exact h2'
      · exact .inr ⟨by omega, by omega, h2⟩
  · rename_i h
    constructor
    · intro h; cases h
    · rintro ⟨h1, h2⟩
      rw [bit_ge (by omega)] at h2; cases h2
theorem sorted_bitsOf (b : UInt8) : (bitsOf b).Pairwise (· < ·) := List.Pairwise.filter _ List.pairwise_lt_range
theorem sorted_seg (b : UInt8) (i : Nat) : (seg b i).Pairwise (· < ·) := by
  unfold seg
  rw [List.pairwise_map]
  exact (sorted_bitsOf b).imp (fun h => by omega)
theorem sorted_segs (l : List UInt8) : ∀ (k i : Nat), (segs l i k).Pairwise (· < ·)
  | 0, _ => List.Pairwise.nil
  | k + 1, i => by
    rw [segs, List.pairwise_append]
    refine ⟨sorted_seg _ _, sorted_segs l k (i + 1), fun a ha b hb => ?_⟩
    have h1 := (mem_seg.1 ha).1
    have h2 := ((mem_segs k (i + 1)).1 hb).1
    omega
theorem sorted_nums (l : List UInt8) (from_ : Nat) : (nums l from_).Pairwise (· < ·) := by
  unfold nums
  split
  · rw [List.pairwise_append]
    refine ⟨sorted_seg _ _, sorted_segs _ _ _, fun a ha b hb => ?_⟩
    have h1 := (mem_seg.1 ha).1
    have h2 := ((mem_segs _ _).1 hb).1
    omega
  · exact List.Pairwise.nil
/-- two rising lists of the same numbers are one -/
theorem sorted_ext : ∀ (a b : List Nat), a.Pairwise (· < ·) → b.Pairwise (· < ·) → (∀ n, n ∈ a ↔ n ∈ b) → a = b
  | [], [], _, _, _ => rfl
  | [], y :: b, _, _, h => absurd ((h y).2 (by simp)) (by simp)
  | x :: a, [], _, _, h => absurd ((h x).1 (by simp)) (by simp)
  | x :: a, y :: b, ha, hb, h => by
    rw [List.pairwise_cons] at ha hb
    have hxy : x = y := by
      have h1 := (h x).1 (by simp)
      have h2 := (h y).2 (by simp)
      simp only [List.mem_cons] at h1 h2
      rcases h1 with h1 | h1
      · exact h1
      · rcases h2 with h2 | h2
        · exact h2.symm
        · have := ha.1 _ h2; have := hb.1 _ h1; omega
    subst hxy
    rw [sorted_ext a b ha.2 hb.2 (fun n => by
      have := h n
      simp only [List.mem_cons] at this
      constructor
      · intro hn
        rcases this.1 (.inr hn) with h1 | h1
        · subst h1; exact absurd (ha.1 _ hn) (by omega)
        · exact h1
      · intro hn
        rcases this.2 (.inr hn) with h1 | h1
        · subst h1; exact absurd (hb.1 _ hn) (by omega)
        · exact h1)]
theorem length_segs (l : List UInt8) : ∀ (k i : Nat), (segs l i k).length ≤ 8 * k
  | 0, _ => by simp [segs]
  | k + 1, i => by
    have := length_segs l k (i + 1)
    have h := ones_le (gd l i)
    rw [segs, List.length_append, seg, List.length_map, bitsOf_length]
    omega
theorem length_nums (l : List UInt8) (from_ : Nat) : (nums l from_).length ≤ 8 * l.length := by
  unfold nums
  split
  · have := length_segs l (l.length - (from_ / 8 + 1)) (from_ / 8 + 1)
    have h := ones_le (band (gd l (from_ / 8)) (mask0 from_))
    rw [List.length_append, seg, List.length_map, bitsOf_length]
    omega
  · simp
/-- all of a set's numbers are as many as Count says -/
theorem length_segs_cnt (l : List UInt8) : ∀ (k i : Nat), i + k = l.length → (segs l i k).length = cnt (l.drop i)
  | 0, i, h => by rw [List.drop_of_length_le (by omega)]; rfl
  | k + 1, i, h => by
    have hi : i < l.length := by omega
    rw [segs, List.length_append, length_segs_cnt l k (i + 1) (by omega), List.drop_eq_getElem_cons hi, seg, List.length_map, bitsOf_length, gd_lt hi]
    simp only [cnt, List.map_cons, List.sum_cons]
theorem band_mask0 (b : UInt8) : band b (mask0 0) = b := u8_ext fun k hk => by rw [tb_band, tb_mask _ _ hk]; simp
theorem nums_zero (l : List UInt8) : nums l 0 = segs l 0 l.length := by
  unfold nums
  cases l with
  | nil => rfl
  | cons x l => simp [segs, band_mask0]
theorem length_nums_zero (l : List UInt8) : (nums l 0).length = cnt l := by
  rw [nums_zero, length_segs_cnt l l.length 0 (by omega)]; rfl
attribute [irreducible] ones
end Go.Proofs.Ytknfakaklmpboaa.SM

