/-
  SetsMath / SetsA / SetsB / SetsC / KitW / KitL / KitR.
-/
import Derived.Lib.BitFns
import Derived.Laws.Entries
import Derived.Test.YtmloljjllmmkoaaGreatRows
import Derived.WalkKit
import Derived.Outline
import Derived.Lib.Hide
import Derived.Lib.Strings
import Derived.Shelf.Small.Bits
import Derived.BigQuiet
import Derived.Deep.QuietTactic
import Derived.RangeFuncNested
import Derived.RangeFuncBound
import Derived.RangeFuncCalls
import Derived.RangeFuncLeaves
import Derived.RangeFuncBox
import Derived.Shelf.Abstract
import Derived.Shelf.RegionOpen
import Derived.OwnWalkIn
import Derived.TacticsInMore
import Derived.LoopNIn
import Derived.LoopIn
import Derived.Maps.AppendAt
import Derived.Below
import Derived.Deep.Draws
import Derived.Maps.OwnSet
import Derived.ProofKit
import Derived.OpenShut
import Derived.Deep.DeepHandedRow
import Derived.Lib.LaidTab
import Derived.SizedLaws
import Derived.SliceStrings
import Derived.Deep.Slices
import Derived.ChangeArms
import Derived.Laws.OwnMore
import Derived.Laws.BitsAllLaws
import Derived.Lib.BufferWrite
namespace Go.Proofs.YtmloljjllmmkoaaGreat.SM

def gd (l : List UInt8) (i : Nat) : UInt8 := l.getD i 0
def bit (l : List UInt8) (n : Nat) : Bool := (gd l (n / 8)).toNat.testBit (n % 8)
def least (l : List UInt8) : List UInt8 := (l.reverse.dropWhile (· == 0)).reverse
def zipB (f : UInt8 → UInt8 → UInt8) (a b : List UInt8) : List UInt8 := (List.range (max a.length b.length)).map fun i => f (gd a i) (gd b i)
def band (x y : UInt8) : UInt8 := x &&& y
def bor (x y : UInt8) : UInt8 := x ||| y
def bsub (x y : UInt8) : UInt8 := x &&& ~~~ y
def mk (f : UInt8 → UInt8 → UInt8) (a b : List UInt8) : List UInt8 := least (zipB f a b)
def ones (b : UInt8) : Nat := Lib.onesCount b.toNat
def cnt (l : List UInt8) : Nat := (l.map ones).sum
def bitsOf (b : UInt8) : List Nat := (List.range 8).filter fun k => b.toNat.testBit k

/-! ### Bytes -/
theorem all_u8 {P : UInt8 → Prop} (h : ∀ k : Fin 256, P (UInt8.ofNat k.val)) (b : UInt8) : P b := by
  have := h ⟨b.toNat, b.toNat_lt⟩
  simpa using this

theorem u8_ext {x y : UInt8} (h : ∀ k, k < 8 → x.toNat.testBit k = y.toNat.testBit k) : x = y := by
  apply UInt8.toNat_inj.1
  apply Nat.eq_of_testBit_eq
  intro i
  by_cases hi : i < 8
  · exact h i hi
  · have hx : x.toNat < 2 ^ i := Nat.lt_of_lt_of_le x.toNat_lt (Nat.pow_le_pow_right (by decide) (by omega))
    have hy : y.toNat < 2 ^ i := Nat.lt_of_lt_of_le y.toNat_lt (Nat.pow_le_pow_right (by decide) (by omega))
    rw [Nat.testBit_lt_two_pow hx, Nat.testBit_lt_two_pow hy]

theorem tb_band (x y : UInt8) (k : Nat) : (band x y).toNat.testBit k = (x.toNat.testBit k && y.toNat.testBit k) := by simp [band]
theorem tb_bor (x y : UInt8) (k : Nat) : (bor x y).toNat.testBit k = (x.toNat.testBit k || y.toNat.testBit k) := by simp [bor]
theorem not_tb : ∀ (b : Fin 256) (k : Fin 8), (~~~ (UInt8.ofNat b.val)).toNat.testBit k.val = !(UInt8.ofNat b.val).toNat.testBit k.val := by decide +kernel
theorem tb_not (x : UInt8) (k : Nat) (hk : k < 8) : (~~~ x).toNat.testBit k = !x.toNat.testBit k :=
  all_u8 (P := fun x => (~~~ x).toNat.testBit k = !x.toNat.testBit k) (fun b => not_tb b ⟨k, hk⟩) x
theorem tb_bsub (x y : UInt8) (k : Nat) (hk : k < 8) : (bsub x y).toNat.testBit k = (x.toNat.testBit k && !y.toNat.testBit k) := by
  rw [← tb_not y k hk]; simp [bsub]

theorem bitsOf_ones : ∀ b : Fin 256, (bitsOf (UInt8.ofNat b.val)).length = ones (UInt8.ofNat b.val) := by decide +kernel
theorem bitsOf_length (b : UInt8) : (bitsOf b).length = ones b := all_u8 (P := fun b => (bitsOf b).length = ones b) bitsOf_ones b
theorem ones_le (b : UInt8) : ones b ≤ 8 := by
  rw [← bitsOf_length]; unfold bitsOf
  exact Nat.le_trans (List.length_filter_le _ _) (by simp)

theorem bitsOf_step_all : ∀ b : Fin 256, UInt8.ofNat b.val ≠ 0 → bitsOf (UInt8.ofNat b.val) = Lib.trailingZeros8 b.val :: bitsOf (UInt8.ofNat b.val &&& (UInt8.ofNat b.val - 1)) := by decide +kernel
theorem bitsOf_step (b : UInt8) (h : b ≠ 0) : bitsOf b = Lib.trailingZeros8 b.toNat :: bitsOf (b &&& (b - 1)) := by
  have := bitsOf_step_all ⟨b.toNat, b.toNat_lt⟩
  simp only [UInt8.ofNat_toNat] at this
  exact this h
theorem bitsOf_zero : bitsOf 0 = [] := by decide +kernel
theorem mem_bitsOf {b : UInt8} {k : Nat} : k ∈ bitsOf b ↔ k < 8 ∧ b.toNat.testBit k = true := by simp [bitsOf]

/-! ### The walk's own spelling of the operations on bytes -/
theorem wrap_u8 (n : Nat) (h : n < 256) : IntKind.u8.wrap (n : Int) = (n : Int) := by
  simp [IntKind.wrap, IntKind.bits, IntKind.signed]; omega
theorem ofInt_u8 (x : UInt8) : BitVec.ofInt 8 (x.toNat : Int) = x.toBitVec := by
  apply BitVec.eq_of_toNat_eq; simp
theorem bits_and (x y : UInt8) : bits .and .u8 (x.toNat : Int) (y.toNat : Int) = ((band x y).toNat : Int) := by
  show IntKind.u8.wrap ((BitVec.ofInt 8 _ &&& BitVec.ofInt 8 _).toNat : Int) = _
  rw [ofInt_u8, ofInt_u8, wrap_u8 _ (BitVec.isLt _)]; rfl
theorem bits_or (x y : UInt8) : bits .or .u8 (x.toNat : Int) (y.toNat : Int) = ((bor x y).toNat : Int) := by
  show IntKind.u8.wrap ((BitVec.ofInt 8 _ ||| BitVec.ofInt 8 _).toNat : Int) = _
  rw [ofInt_u8, ofInt_u8, wrap_u8 _ (BitVec.isLt _)]; rfl
theorem bits_andNot (x y : UInt8) : bits .andNot .u8 (x.toNat : Int) (y.toNat : Int) = ((bsub x y).toNat : Int) := by
  show IntKind.u8.wrap ((BitVec.ofInt 8 _ &&& ~~~ BitVec.ofInt 8 _).toNat : Int) = _
  rw [ofInt_u8, ofInt_u8, wrap_u8 _ (BitVec.isLt _)]; rfl

/-! ### Lists of bytes -/
theorem gd_nil (i : Nat) : gd [] i = 0 := by simp [gd]
theorem gd_ge {l : List UInt8} {i : Nat} (h : l.length ≤ i) : gd l i = 0 := by simp [gd, h]
theorem gd_append (a b : List UInt8) (i : Nat) : gd (a ++ b) i = if i < a.length then gd a i else gd b (i - a.length) := by
  simp only [gd, List.getD_eq_getElem?_getD, List.getElem?_append]
  split <;> rfl
theorem gd_zeros (n i : Nat) : gd (List.replicate n 0) i = 0 := by
  simp only [gd, List.getD_eq_getElem?_getD, List.getElem?_replicate]
  split <;> rfl

theorem least_snoc (l : List UInt8) (b : UInt8) : least (l ++ [b]) = if b = 0 then least l else l ++ [b] := by
  unfold least
  by_cases h : b = 0
  · subst h; simp
  · have : (b == 0) = false := by simpa using h
    simp [this, h]
theorem snoc_ind {P : List UInt8 → Prop} (h0 : P []) (h1 : ∀ l b, P l → P (l ++ [b])) (l : List UInt8) : P l := by
  have : ∀ r : List UInt8, P r.reverse := by
    intro r
    induction r with
    | nil => exact h0
    | cons x r ih => rw [List.reverse_cons]; exact h1 _ _ ih
  simpa using this l.reverse
theorem gd_least (l : List UInt8) : ∀ i, gd (least l) i = gd l i := by
  refine snoc_ind (P := fun l => ∀ i, gd (least l) i = gd l i) (fun i => by simp [least]) (fun l b ih i => ?_) l
  rw [least_snoc]
  split
  · rename_i h
    subst h
    rw [ih, gd_append]
    split
    · rfl
    · rw [gd_ge (by omega)]
      by_cases hi : i - l.length = 0
      · simp [gd, hi]
      · rw [gd_ge (by simp; omega)]
  · rfl
theorem least_length (l : List UInt8) : (least l).length ≤ l.length := by
  refine snoc_ind (P := fun l => (least l).length ≤ l.length) (by simp [least]) (fun l b ih => ?_) l
  rw [least_snoc]; split <;> simp <;> omega
theorem least_prefix (l : List UInt8) : least l = l.take (least l).length := by
  refine snoc_ind (P := fun l => least l = l.take (least l).length) (by simp [least]) (fun l b ih => ?_) l
  rw [least_snoc]
  split
  · rw [List.take_append_of_le_length (least_length l)]; exact ih
  · rw [List.take_length]
/-- a least list's last byte is not nought -/
theorem least_last (l : List UInt8) (h : least l ≠ []) : gd (least l) ((least l).length - 1) ≠ 0 := by
  revert h
  refine snoc_ind (P := fun l => least l ≠ [] → gd (least l) ((least l).length - 1) ≠ 0) (by simp [least]) (fun l b ih => ?_) l
  rw [least_snoc]
  split
  · exact ih
  · rename_i hb
    intro _
    rw [gd_append]; simp [gd, hb]
theorem least_ext {a b : List UInt8} (h : ∀ i, gd a i = gd b i) : least a = least b := by
  have hg : ∀ i, gd (least a) i = gd (least b) i := fun i => by rw [gd_least, gd_least, h]
  have hlen : (least a).length = (least b).length := by
    rcases Nat.lt_trichotomy (least a).length (least b).length with hl | hl | hl
    · exact absurd (by rw [← hg, gd_ge (by omega)]) (least_last b (by intro e; rw [e] at hl; simp at hl))
    · exact hl
    · exact absurd (by rw [hg, gd_ge (by omega)]) (least_last a (by intro e; rw [e] at hl; simp at hl))
  refine List.ext_getElem hlen fun i h1 h2 => ?_
  have := hg i
  simpa [gd, h1, h2] using this
theorem least_least (l : List UInt8) : least (least l) = least l := least_ext (gd_least l)
theorem least_zeros (l : List UInt8) (n : Nat) : least (l ++ List.replicate n 0) = least l := least_ext fun i => by
  rw [gd_append]; split
  · rfl
  · rw [gd_zeros, gd_ge (by omega)]

theorem zipB_length (f : UInt8 → UInt8 → UInt8) (a b : List UInt8) : (zipB f a b).length = max a.length b.length := by simp [zipB]
theorem gd_zipB (f : UInt8 → UInt8 → UInt8) (hf : f 0 0 = 0) (a b : List UInt8) (i : Nat) : gd (zipB f a b) i = f (gd a i) (gd b i) := by
  by_cases h : i < max a.length b.length
  · simp [gd, zipB, h]
  · rw [gd_ge (by rw [zipB_length]; omega), gd_ge (l := a) (by omega), gd_ge (l := b) (by omega), hf]
theorem gd_mk (f : UInt8 → UInt8 → UInt8) (hf : f 0 0 = 0) (a b : List UInt8) (i : Nat) : gd (mk f a b) i = f (gd a i) (gd b i) := by
  rw [mk, gd_least, gd_zipB f hf]
theorem mk_ext {f g : UInt8 → UInt8 → UInt8} (hf : f 0 0 = 0) (hg : g 0 0 = 0) {a b c d : List UInt8} (h : ∀ i, f (gd a i) (gd b i) = g (gd c i) (gd d i)) : mk f a b = mk g c d :=
  least_ext fun i => by rw [gd_zipB f hf, gd_zipB g hg, h]
theorem mk_length (f : UInt8 → UInt8 → UInt8) (a b : List UInt8) : (mk f a b).length ≤ max a.length b.length := by
  rw [← zipB_length f]; exact least_length _
theorem mk_least (f : UInt8 → UInt8 → UInt8) (a b : List UInt8) : least (mk f a b) = mk f a b := least_least _
theorem mk_nil {f : UInt8 → UInt8 → UInt8} (hf : f 0 0 = 0) {a b : List UInt8} (h : ∀ i, f (gd a i) (gd b i) = 0) : mk f a b = [] := by
  have : least (zipB f a b) = least [] := least_ext fun i => by rw [gd_zipB f hf, h, gd_nil]
  exact this
theorem mk_or_nil (a : List UInt8) : mk bor a [] = least a := least_ext fun i => by
  rw [gd_zipB bor (by decide), gd_nil]; simp [bor]

/-! ### Counting -/
theorem cnt_eq (l : List UInt8) (n : Nat) (h : l.length ≤ n) : cnt l = ((List.range n).map fun i => ones (gd l i)).sum := by
  induction n generalizing l with
  | zero => obtain rfl : l = [] := List.eq_nil_of_length_eq_zero (by omega); rfl
  | succ n ih =>
    rw [List.range_succ_eq_map]
    cases l with
    | nil => 
      have := ih [] (by simp)
      simp only [List.map_cons, List.sum_cons, List.map_map]
      have e : ((fun i => ones (gd [] i)) ∘ Nat.succ) = fun i => ones (gd [] i) := by funext i; simp [gd_nil]
      rw [e, ← this, gd_nil]; decide
    | cons x l =>
      have := ih l (by simpa using h)
      simp only [List.map_cons, List.sum_cons, List.map_map]
      have e : ((fun i => ones (gd (x :: l) i)) ∘ Nat.succ) = fun i => ones (gd l i) := by funext i; simp [gd]
      rw [e, ← this]; simp [cnt, gd]
theorem cnt_ext {a b : List UInt8} (h : ∀ i, gd a i = gd b i) : cnt a = cnt b := by
  rw [cnt_eq a (max a.length b.length) (by omega), cnt_eq b (max a.length b.length) (by omega)]
  rw [List.map_congr_left (fun i _ => by rw [h i])]
theorem cnt_least (l : List UInt8) : cnt (least l) = cnt l := cnt_ext (gd_least l)
theorem cnt_le (l : List UInt8) : cnt l ≤ 8 * l.length := by
  induction l with
  | nil => simp [cnt]
  | cons x l ih => have := ones_le x; simp only [cnt, List.map_cons, List.sum_cons, List.length_cons] at *; omega
theorem length_filter_or_and (p q : Nat → Bool) (l : List Nat) : (l.filter fun k => p k || q k).length + (l.filter fun k => p k && q k).length = (l.filter p).length + (l.filter q).length := by
  induction l with
  | nil => rfl
  | cons x l ih =>
    simp only [List.filter_cons]
    cases p x <;> cases q x <;> simp <;> omega
theorem ones_or_and (x y : UInt8) : ones (bor x y) + ones (band x y) = ones x + ones y := by
  simp only [← bitsOf_length]
  unfold bitsOf
  have := length_filter_or_and (fun k => x.toNat.testBit k) (fun k => y.toNat.testBit k) (List.range 8)
  simp only [tb_bor, tb_band]
  exact this
theorem sum_map_add (f g h k : Nat → Nat) (H : ∀ i, f i + g i = h i + k i) (l : List Nat) : (l.map f).sum + (l.map g).sum = (l.map h).sum + (l.map k).sum := by
  induction l with
  | nil => rfl
  | cons x l ih => have := H x; simp only [List.map_cons, List.sum_cons]; omega
theorem cnt_or_and (a b : List UInt8) : cnt (mk bor a b) + cnt (mk band a b) = cnt a + cnt b := by
  have l1 := mk_length bor a b
  have l2 := mk_length band a b
  rw [cnt_eq _ (max a.length b.length) l1, cnt_eq _ (max a.length b.length) l2, cnt_eq a (max a.length b.length) (by omega), cnt_eq b (max a.length b.length) (by omega)]
  refine sum_map_add _ _ _ _ (fun i => ?_) _
  rw [gd_mk bor (by decide), gd_mk band (by decide)]
  exact ones_or_and _ _
theorem gd_lt {l : List UInt8} {k : Nat} (h : k < l.length) : gd l k = l[k] := by
  simp only [gd, List.getD_eq_getElem?_getD, List.getElem?_eq_getElem h]; rfl
theorem cnt_take (l : List UInt8) (k : Nat) (h : k < l.length) : cnt (l.take (k + 1)) = cnt (l.take k) + ones (gd l k) := by
  rw [gd_lt h, List.take_succ_eq_append_getElem h]; unfold cnt; rw [List.map_append, List.sum_append]; simp

/-! ### Is a number in a set? -/
def bitI (l : List UInt8) (n : Int) : Bool := decide (0 ≤ n) && bit l n.toNat
theorem bit_ge {l : List UInt8} {n : Nat} (h : l.length ≤ n / 8) : bit l n = false := by simp [bit, gd_ge h]
theorem tb_div_all : ∀ (b : Fin 256) (k : Fin 8), (b.val / 2 ^ k.val % 2 == 1) = b.val.testBit k.val := by decide +kernel
theorem tb_div (b : UInt8) (k : Nat) (hk : k < 8) : (b.toNat / 2 ^ k % 2 == 1) = b.toNat.testBit k := tb_div_all ⟨b.toNat, b.toNat_lt⟩ ⟨k, hk⟩
/-! ### The numbers of a set, byte by byte -/
/-- the numbers of byte i, of those bits that b has -/
def seg (b : UInt8) (i : Nat) : List Nat := (bitsOf b).map (8 * i + ·)
/-- all numbers of the bytes from i on -/
def segs (l : List UInt8) : Nat → Nat → List Nat
  | _, 0 => []
  | i, k + 1 => seg (gd l i) i ++ segs l (i + 1) k
/-- the mask of the first byte -/
def mask0 (from_ : Nat) : UInt8 := UInt8.ofNat (255 * 2 ^ (from_ % 8) % 256)
/-- the numbers from one on, as they are gone over -/
def nums (l : List UInt8) (from_ : Nat) : List Nat :=
  if from_ / 8 < l.length then seg (band (gd l (from_ / 8)) (mask0 from_)) (from_ / 8) ++ segs l (from_ / 8 + 1) (l.length - (from_ / 8 + 1)) else []

theorem mem_seg {b : UInt8} {i n : Nat} : n ∈ seg b i ↔ n / 8 = i ∧ b.toNat.testBit (n % 8) = true := by
  simp only [seg, List.mem_map, mem_bitsOf]
  constructor
  · rintro ⟨k, ⟨h1, h2⟩, rfl⟩
    rw [show (8 * i + k) / 8 = i by omega, show (8 * i + k) % 8 = k by omega]
    exact ⟨rfl, h2⟩
  · rintro ⟨rfl, h⟩
    exact ⟨n % 8, ⟨by omega, h⟩, by omega⟩
theorem mem_segs {l : List UInt8} {n : Nat} : ∀ (k i : Nat), n ∈ segs l i k ↔ i ≤ n / 8 ∧ n / 8 < i + k ∧ bit l n = true
  | 0, i => by simp [segs]; omega
  | k + 1, i => by
    simp only [segs, List.mem_append, mem_segs k (i + 1), mem_seg]
    constructor
    · rintro (⟨rfl, h⟩ | ⟨h1, h2, h3⟩)
      · exact ⟨Nat.le_refl _, by omega, h⟩
      · exact ⟨by omega, by omega, h3⟩
    · rintro ⟨h1, h2, h3⟩
      by_cases h : n / 8 = i
      · subst h; exact .inl ⟨rfl, h3⟩
      · exact .inr ⟨by omega, by omega, h3⟩
theorem mask_all : ∀ (f k : Fin 8), (mask0 f.val).toNat.testBit k.val = decide (f.val ≤ k.val) := by decide +kernel
theorem mask0_mod (n : Nat) : mask0 n = mask0 (n % 8) := by unfold mask0; rw [Nat.mod_mod]
theorem tb_mask (n k : Nat) (hk : k < 8) : (mask0 n).toNat.testBit k = decide (n % 8 ≤ k) := by
  rw [mask0_mod]; exact mask_all ⟨n % 8, Nat.mod_lt _ (by decide)⟩ ⟨k, hk⟩
theorem mem_nums {l : List UInt8} {from_ n : Nat} : n ∈ nums l from_ ↔ from_ ≤ n ∧ bit l n = true := by
  unfold nums
  split
  · rename_i h
    simp only [List.mem_append, mem_segs, mem_seg, tb_band, tb_mask _ _ (Nat.mod_lt n (by decide : 8 > 0)), Bool.and_eq_true, decide_eq_true_eq]
    constructor
    · rintro (⟨h1, h2, h3⟩ | ⟨h1, h2, h3⟩)
      · refine ⟨by omega, ?_⟩
        unfold bit; rw [h1]; exact h2
      · exact ⟨by omega, h3⟩
    · rintro ⟨h1, h2⟩
      have hl : n / 8 < l.length := by
        rcases Nat.lt_or_ge (n / 8) l.length with h | h
        · exact h
        · rw [bit_ge h] at h2; cases h2
      by_cases he : n / 8 = from_ / 8
      · refine .inl ⟨he, ?_, by omega⟩
        have h2' := h2
        unfold bit at h2'; rw [he] at h2'; exact h2'
      · exact .inr ⟨by omega, by omega, h2⟩
  · rename_i h
    constructor
    · intro h; cases h
    · rintro ⟨h1, h2⟩
      rw [bit_ge (by omega)] at h2; cases h2
theorem sorted_bitsOf (b : UInt8) : (bitsOf b).Pairwise (· < ·) := List.Pairwise.filter _ List.pairwise_lt_range
theorem sorted_seg (b : UInt8) (i : Nat) : (seg b i).Pairwise (· < ·) := by
  unfold seg
  rw [List.pairwise_map]
  exact (sorted_bitsOf b).imp (fun h => by omega)
theorem sorted_segs (l : List UInt8) : ∀ (k i : Nat), (segs l i k).Pairwise (· < ·)
  | 0, _ => List.Pairwise.nil
  | k + 1, i => by
    rw [segs, List.pairwise_append]
    refine ⟨sorted_seg _ _, sorted_segs l k (i + 1), fun a ha b hb => ?_⟩
    have h1 := (mem_seg.1 ha).1
    have h2 := ((mem_segs k (i + 1)).1 hb).1
    omega
theorem sorted_nums (l : List UInt8) (from_ : Nat) : (nums l from_).Pairwise (· < ·) := by
  unfold nums
  split
  · rw [List.pairwise_append]
    refine ⟨sorted_seg _ _, sorted_segs _ _ _, fun a ha b hb => ?_⟩
    have h1 := (mem_seg.1 ha).1
    have h2 := ((mem_segs _ _).1 hb).1
    omega
  · exact List.Pairwise.nil
/-- two rising lists of the same numbers are one -/
theorem sorted_ext : ∀ (a b : List Nat), a.Pairwise (· < ·) → b.Pairwise (· < ·) → (∀ n, n ∈ a ↔ n ∈ b) → a = b
  | [], [], _, _, _ => rfl
  | [], y :: b, _, _, h => absurd ((h y).2 (by simp)) (by simp)
  | x :: a, [], _, _, h => absurd ((h x).1 (by simp)) (by simp)
  | x :: a, y :: b, ha, hb, h => by
    rw [List.pairwise_cons] at ha hb
    have hxy : x = y := by
      have h1 := (h x).1 (by simp)
      have h2 := (h y).2 (by simp)
      simp only [List.mem_cons] at h1 h2
      rcases h1 with h1 | h1
      · exact h1
      · rcases h2 with h2 | h2
        · exact h2.symm
        · have := ha.1 _ h2; have := hb.1 _ h1; omega
    subst hxy
    rw [sorted_ext a b ha.2 hb.2 (fun n => by
      have := h n
      simp only [List.mem_cons] at this
      constructor
      · intro hn
        rcases this.1 (.inr hn) with h1 | h1
        · subst h1; exact absurd (ha.1 _ hn) (by omega)
        · exact h1
      · intro hn
        rcases this.2 (.inr hn) with h1 | h1
        · subst h1; exact absurd (hb.1 _ hn) (by omega)
        · exact h1)]
theorem length_segs (l : List UInt8) : ∀ (k i : Nat), (segs l i k).length ≤ 8 * k
  | 0, _ => by simp [segs]
  | k + 1, i => by
    have := length_segs l k (i + 1)
    have h := ones_le (gd l i)
    rw [segs, List.length_append, seg, List.length_map, bitsOf_length]
    omega
theorem length_nums (l : List UInt8) (from_ : Nat) : (nums l from_).length ≤ 8 * l.length := by
  unfold nums
  split
  · have := length_segs l (l.length - (from_ / 8 + 1)) (from_ / 8 + 1)
    have h := ones_le (band (gd l (from_ / 8)) (mask0 from_))
    rw [List.length_append, seg, List.length_map, bitsOf_length]
    omega
  · simp
/-- all of a set's numbers are as many as Count says -/
theorem length_segs_cnt (l : List UInt8) : ∀ (k i : Nat), i + k = l.length → (segs l i k).length = cnt (l.drop i)
  | 0, i, h => by rw [List.drop_of_length_le (by omega)]; rfl
  | k + 1, i, h => by
    have hi : i < l.length := by omega
    rw [segs, List.length_append, length_segs_cnt l k (i + 1) (by omega), List.drop_eq_getElem_cons hi, seg, List.length_map, bitsOf_length, gd_lt hi]
    simp only [cnt, List.map_cons, List.sum_cons]
theorem band_mask0 (b : UInt8) : band b (mask0 0) = b := u8_ext fun k hk => by rw [tb_band, tb_mask _ _ hk]; simp
theorem nums_zero (l : List UInt8) : nums l 0 = segs l 0 l.length := by
  unfold nums
  cases l with
  | nil => rfl
  | cons x l => simp [segs, band_mask0]
theorem length_nums_zero (l : List UInt8) : (nums l 0).length = cnt l := by
  rw [nums_zero, length_segs_cnt l l.length 0 (by omega)]; rfl
attribute [irreducible] ones
end Go.Proofs.YtmloljjllmmkoaaGreat.SM

namespace Go.Proofs.YtmloljjllmmkoaaGreat
open Go.RowKit Go SM

attribute [local irreducible] Lib.pop8 Lib.ntz8
theorem ret_int {k : IntKind} {a b : Int} (h : a = b) : Ending.returned (.int k a) = .returned (.int k b) := by rw [h]
theorem ret_bool {a b : Bool} (h : a = b) : Ending.returned (.bool a) = .returned (.bool b) := by rw [h]
/-- a string of bytes, as a value -/
def str (l : List UInt8) : Value := .string ⟨l.toArray⟩

theorem ones8 (b : UInt8) (w : World) :
    Calls Tryz.prog 102 #[.int .u8 b.toNat] w fun e w' => e = .returned (.int .i64 (ones b)) ∧ w = w' := by
  have h := b.toNat_lt
  have e : wrap64 (Lib.pop8 b.toNat) = (ones b : Int) := by have := Lib.pop8_int b.toNat (by omega) (by omega); rw [Int.toNat_natCast] at this; unfold ones wrap64; exact this
  rw [← e]; clear e
  generalize hx : (b.toNat : Int) = x at *
  have h0 : 0 ≤ x := by omega
  have h1 : x ≤ 255 := by omega
  clear hx
  go_enter Tryz.func102, Tryz.ntmps102
  go_wp2
  go_ret
  exact ⟨rfl, rfl⟩

theorem tz8 (b : UInt8) (w : World) :
    Calls Tryz.prog 137 #[.int .u8 b.toNat] w fun e w' => e = .returned (.int .i64 (Lib.trailingZeros8 b.toNat)) ∧ w = w' := by
  have h := b.toNat_lt
  have e : wrap64 (Lib.ntz8 b.toNat) = (Lib.trailingZeros8 b.toNat : Int) := by have := Lib.ntz8_int b.toNat (by omega) (by omega); rw [Int.toNat_natCast] at this; unfold wrap64; exact this
  rw [← e]; clear e
  generalize hx : (b.toNat : Int) = x at *
  have h0 : 0 ≤ x := by omega
  have h1 : x ≤ 255 := by omega
  clear hx
  go_enter Tryz.func137, Tryz.ntmps137
  go_wp2
  go_ret
  exact ⟨rfl, rfl⟩

theorem gd_get {s : ByteArray} {i : Nat} (h : i < s.size) : gd s.data.toList i = s[i] := by
  have : i < s.data.toList.length := by simpa using h
  simp only [gd, List.getD_eq_getElem?_getD, List.getElem?_eq_getElem this]; rfl

theorem bits_and_one (x : Nat) (h : x < 256) : (bits .and .u8 (x : Int) 1 == 1) = (x % 2 == 1) := by
  have := bits_and (UInt8.ofNat x) 1
  have e : (UInt8.ofNat x).toNat = x := by simp; omega
  rw [e] at this
  rw [show bits .and .u8 (x : Int) 1 = _ from this]
  have e2 : (band (UInt8.ofNat x) 1).toNat = x % 2 := by simp [band, Nat.and_one_is_mod]
  rw [e2]
  have : x % 2 = 0 ∨ x % 2 = 1 := by omega
  rcases this with h | h <;> simp [h]

theorem bitI_at {s : ByteArray} {k : Nat} (h : k / 8 < s.size) : (s[k/8].toNat / 2 ^ (k % 8) % 2 == 1) = bitI s.data.toList (k : Int) := by
  simp only [bitI, Int.toNat_natCast, bit, gd_get h]
  rw [tb_div _ _ (by omega)]; simp
theorem bitI_over {s : ByteArray} {k : Nat} (h : ¬ k / 8 < s.size) : bitI s.data.toList (k : Int) = false := by
  simp [bitI, bit_ge (l := s.data.toList) (n := k) (by simpa using h)]
theorem bitI_neg {l : List UInt8} {n : Int} (h : n < 0) : bitI l n = false := by simp [bitI]; omega
theorem shr_lt (b : UInt8) (k : Nat) : b.toNat / 2 ^ k < 256 := Nat.lt_of_le_of_lt (Nat.div_le_self _ _) b.toNat_lt

theorem has_any (s : ByteArray) (n : Int) (w : World) (hs : s.size ≤ 140737488355328) (hl : -9223372036854775808 ≤ n) (hn : n ≤ 9223372036854775807) :
    Calls Tryz.prog 100 #[.string s, .int .i64 n] w fun e w' => e = .returned (.bool (bitI s.data.toList n)) ∧ w = w' := by
  by_cases h0 : 0 ≤ n
  · obtain ⟨k, rfl⟩ := Int.eq_ofNat_of_zero_le h0
    by_cases h : k / 8 < s.size
    · have e : (bits .and .u8 ((s[k/8].toNat : Int) / 2 ^ (k % 8)) 1 == 1) = bitI s.data.toList (k : Int) := by
        rw [← bitI_at h, ← bits_and_one _ (shr_lt _ _)]; simp
      rw [← e]; clear e
      go_enter Tryz.func100, Tryz.ntmps100
      go_wp2
      go_ret
      exact ⟨rfl, rfl⟩
    · rw [bitI_over h]
      go_enter Tryz.func100, Tryz.ntmps100
      go_wp2
      go_ret
      exact ⟨rfl, rfl⟩
  · rw [bitI_neg (by omega)]
    go_enter Tryz.func100, Tryz.ntmps100
    go_wp2
    go_ret
    exact ⟨rfl, rfl⟩

theorem rhas_any (s : ByteArray) (n : Int) (w : World) (hs : s.size ≤ 140737488355328) (hl : -9223372036854775808 ≤ n) (hn : n ≤ 9223372036854775807) :
    Calls Tryz.prog 94 #[.string s, .int .i64 n] w fun e w' => e = .returned (.bool (bitI s.data.toList n)) ∧ w = w' := by
  by_cases h0 : 0 ≤ n
  · obtain ⟨k, rfl⟩ := Int.eq_ofNat_of_zero_le h0
    by_cases h : k / 8 < s.size
    · have hb := s[k/8].toNat_lt
      have e : ((wrap64 s[k/8].toNat / 2 ^ (k % 8)).tmod 2 == 1) = bitI s.data.toList (k : Int) := by
        have e1 : wrap64 (s[k/8].toNat : Int) = (s[k/8].toNat : Int) := by unfold wrap64; omega
        rw [e1, ← bitI_at h]
        have e2 : ((s[k/8].toNat : Int) / 2 ^ (k % 8)) = ((s[k/8].toNat / 2 ^ (k % 8) : Nat) : Int) := by simp
        rw [e2]
        generalize s[k/8].toNat / 2 ^ (k % 8) = m
        rw [Int.tmod_eq_emod_of_nonneg (by omega)]
        have : m % 2 = 0 ∨ m % 2 = 1 := by omega
        rcases this with h | h
        · have : (m : Int) % 2 = 0 := by omega
          simp [h, this]
        · have : (m : Int) % 2 = 1 := by omega
          simp [h, this]
      rw [← e]; clear e hb
      go_enter Tryz.func94, Tryz.ntmps94
      go_wp2
      go_ret
      exact ⟨rfl, rfl⟩
    · rw [bitI_over h]
      go_enter Tryz.func94, Tryz.ntmps94
      go_wp2
      go_ret
      exact ⟨rfl, rfl⟩
  · rw [bitI_neg (by omega)]
    go_enter Tryz.func94, Tryz.ntmps94
    go_wp2
    go_ret
    exact ⟨rfl, rfl⟩

theorem extract_take (s : ByteArray) (n : Nat) : s.extract 0 n = ⟨(s.data.toList.take n).toArray⟩ := by
  apply ByteArray.ext
  apply Array.toList_inj.1
  simp [ByteArray.data_extract, Array.toList_extract, List.extract_eq_take_drop]

set_option maxHeartbeats 1000000 in
theorem count_any (s : ByteArray) (w : World) (hs : s.size ≤ 140737488355328) :
    Calls Tryz.prog 70 #[.string s] w fun e w' => e = .returned (.int .i64 (cnt s.data.toList)) ∧ w = w' := by
  go_enter Tryz.func70, Tryz.ntmps70
  go_wp2
  go_loop [3, 4, 7] (fun n _ i => ∃ k : Nat, k ≤ s.size ∧ i = .int .i64 k ∧ n = .int .i64 (cnt (s.data.toList.take k))) (fun _ _ i => s.size - (intOf i).toNat)
  case atStart => exact ⟨0, Nat.zero_le _, rfl, rfl⟩
  case round =>
    obtain ⟨k, hk, rfl, rfl⟩ := hrel
    have hc := cnt_le (s.data.toList.take k)
    have hl : (s.data.toList.take k).length ≤ k := List.length_take_le _ _
    by_cases hlt : k < s.size
    · have ho : ones s[k] ≤ 8 := ones_le s[k]
      have HS := Lib.hid (show cnt (s.data.toList.take (k + 1)) = cnt (s.data.toList.take k) + ones s[k] from by rw [cnt_take _ k (by simpa using hlt), gd_get hlt])
      go_wp2_with (go_at_call 102; refine (ones8 _ _).mono ?_; rintro e w' ⟨rfl, rfl⟩)
      go_round
      case rel => exact ⟨k + 1, by omega, by go_num, by rw [HS.out]; go_num⟩
      case measure => simp [intOf]; omega
    · go_wp2
      go_ret
      exact ⟨ret_int (by rw [List.take_of_length_le (by simp; omega)]), rfl⟩
end Go.Proofs.YtmloljjllmmkoaaGreat

namespace Go.Proofs.YtmloljjllmmkoaaGreat
open Go.RowKit Go SM

theorem ret_slice {p : Option Addr} {a b c : Nat} (h : a = b) : Ending.returned (.slice p a c) = .returned (.slice p b c) := by rw [h]
def sliceLen : Value → Nat
  | .slice _ n _ => n
  | _ => 0

theorem least_take_zero (bs : List UInt8) (j : Nat) (h : j < bs.length) (hz : gd bs j = 0) : least (bs.take (j + 1)) = least (bs.take j) := by
  rw [List.take_succ_eq_append_getElem h, least_snoc, if_pos (by rw [← gd_lt h]; exact hz)]
theorem least_take_self (bs : List UInt8) (j : Nat) (h : j < bs.length) (hz : gd bs j ≠ 0) : least (bs.take (j + 1)) = bs.take (j + 1) := by
  rw [List.take_succ_eq_append_getElem h, least_snoc, if_neg (by rw [← gd_lt h]; exact hz)]
theorem u8_ne {b : UInt8} (h : b ≠ 0) : ((b.toNat : Int) == 0) = false := by
  rw [beq_eq_false_iff_ne]; intro e; exact h (UInt8.toNat_inj.1 (by simpa using e))

end Go.Proofs.YtmloljjllmmkoaaGreat

namespace Go.Proofs.YtmloljjllmmkoaaGreat
open Go.RowKit Go.Shelf Go SM
attribute [local go_sem] Oper.semAt_some

/-- THE BOXES THAT ARE KEPT: what each holds. -/
def KeepB (l : List (Nat × TypeId × Value)) (A B : World) : Prop := ∀ p ∈ l, Boxed A p.1 p.2.1 p.2.2 → Boxed B p.1 p.2.1 p.2.2
theorem KeepB.trans {l : List (Nat × TypeId × Value)} {A B C : World} (h1 : KeepB l A B) (h2 : KeepB l B C) : KeepB l A C := fun p hp h => h2 p hp (h1 p hp h)
theorem KeepB.refl {l : List (Nat × TypeId × Value)} {A : World} : KeepB l A A := fun _ _ h => h
theorem KeepB.put {l : List (Nat × TypeId × Value)} (W : World) (k : Nat) (o o' : Obj) (ho : W.heap[k]? = some o) (hc : o.isCells = false) : KeepB l W (W.putObj k o') := fun p _ h =>
  h.kept (grownBy_putObj' W k o') (fun e => by
    obtain rfl : p.1 = k := by simpa using e
    rw [show W.heap[p.1]? = _ from h] at ho; cases ho; cases hc)

abbrev encs2 (p : UInt8 × UInt8) : Array Value := #[.int .u8 p.1.toNat, .int .u8 p.2.toNat]
def pairsL (a b : List UInt8) : List (UInt8 × UInt8) := (List.range (max a.length b.length)).map fun i => (gd a i, gd b i)
theorem pairsL_length (a b : List UInt8) : (pairsL a b).length = max a.length b.length := by simp [pairsL]
theorem pairsL_take (a b : List UInt8) (k : Nat) (h : k < max a.length b.length) : (pairsL a b).take (k + 1) = (pairsL a b).take k ++ [(gd a k, gd b k)] := by
  rw [List.take_succ_eq_append_getElem (by rw [pairsL_length]; exact h)]
  simp [pairsL]

theorem grownBy_drew (W : World) : W.grownBy W.drew none := ⟨rfl, rfl, rfl, Nat.le_refl _, fun _ _ _ => rfl⟩

end Go.Proofs.YtmloljjllmmkoaaGreat

namespace Go.Proofs.YtmloljjllmmkoaaGreat
open Go.RowKit Go

/-- the blocks of F, and new ones, may have turned; nothing else has -/
structure Stir (F : Nat → Prop) (w w' : World) : Prop where
  os : w'.os = w.os
  tape : w'.tape = w.tape
  output : w'.output = w.output
  size : w.heap.size ≤ w'.heap.size
  block : ∀ k, k < w.heap.size → ¬ F k → w'.heap[k]? = w.heap[k]?

section
variable {F G : Nat → Prop} {w v u : World}
theorem Stir.refl (F : Nat → Prop) (w : World) : Stir F w w := ⟨rfl, rfl, rfl, Nat.le_refl _, fun _ _ _ => rfl⟩
theorem Stir.trans (h : Stir F w v) (k : Stir G v u) (hG : ∀ i, G i → F i ∨ w.heap.size ≤ i) : Stir F w u :=
  ⟨k.os.trans h.os, k.tape.trans h.tape, k.output.trans h.output, Nat.le_trans h.size k.size, fun i hi hn =>
    (k.block i (Nat.lt_of_lt_of_le hi h.size) (fun g => by rcases hG i g with h1 | h1; exact hn h1; omega)).trans (h.block i hi hn)⟩
theorem Stir.of_below (h : Below w.heap.size w v) : Stir F w v := ⟨h.os, h.tape, h.output, h.size, fun k hk _ => h.block k hk⟩
theorem Stir.and_below (h : Stir F w v) (k : Below v.heap.size v u) : Stir F w u := h.trans (Stir.of_below (F := fun _ => False) k) (fun _ h => h.elim)
theorem Stir.below {B : Nat} (h : Stir F w v) (hF : ∀ k, F k → B ≤ k) (hB : B ≤ w.heap.size) : Below B w v :=
  ⟨h.os, h.tape, h.output, h.size, fun k hk => h.block k (by omega) (fun f => by have := hF k f; omega)⟩
theorem Stir.weaken (h : Stir F w v) (hF : ∀ k, F k → G k) : Stir G w v := ⟨h.os, h.tape, h.output, h.size, fun k hk hn => h.block k hk (fun f => hn (hF k f))⟩
theorem Stir.drewN (h : Stir F w v) (n : Nat) : Stir F w (v.drewN n) := ⟨h.os, h.tape, h.output, h.size, h.block⟩
theorem Stir.drew (h : Stir F w v) : Stir F w v.drew := ⟨h.os, h.tape, h.output, h.size, h.block⟩
theorem Stir.set (h : Stir F w v) {b i : Nat} (hb : F b ∨ w.heap.size ≤ b) (x : Value) : Stir F w (v.setCell ⟨b, i, none⟩ x) := by
  refine ⟨h.os, h.tape, h.output, by simpa [World.setCell] using h.size, fun k hk hn => ?_⟩
  rw [Below.heap_setCell _ _ _ _ (by rintro rfl; rcases hb with h1 | h1; exact hn h1; omega), h.block k hk hn]
theorem Stir.turned (h : Stir F w v) {b : Nat} (hb : F b ∨ w.heap.size ≤ b) (k : v.mapTurned u b) : Stir F w u := by
  have g := k.grown
  exact ⟨g.os.trans h.os, g.tape.trans h.tape, g.output.trans h.output, Nat.le_trans h.size g.size, fun i hi hn =>
    (g.block i (Nat.lt_of_lt_of_le hi h.size) (by intro e; cases e; rcases hb with h1 | h1; exact hn h1; omega)).trans (h.block i hi hn)⟩
end
theorem lt_of_heap {w : World} {b : Nat} {o : Obj} (h : w.heap[b]? = some o) : b < w.heap.size := (Array.getElem?_eq_some_iff.1 h).1
theorem grown_of_below {w v : World} (h : Below w.heap.size w v) : w.grownBy v none := ⟨h.os, h.tape, h.output, h.size, fun k hk _ => h.block k hk⟩
theorem Stir.keep {F : Nat → Prop} {w v : World} (h : Stir F w v) {b : Nat} {o : Obj} (hb : w.heap[b]? = some o) (hn : ¬ F b) : v.heap[b]? = some o := (h.block b (lt_of_heap hb) hn).trans hb
theorem keeps_of {w v : World} {b : Nat} {o : Obj} (h : Below w.heap.size w v) (hb : w.heap[b]? = some o) : v.heap[b]? = some o := (h.block b (lt_of_heap hb)).trans hb
/-- a block with one cell turned -/
theorem heap_set {w : World} {b i : Nat} {C : Array Value} {t : TypeId} {f : Nat × Nat} (h : w.heap[b]? = some (.cells C t f)) (x : Value) : (w.setCell ⟨b, i, none⟩ x).heap[b]? = some (.cells (C.setIfInBounds i x) t f) := by
  simp [World.setCell, Array.getElem?_modify, h]
theorem heap_set_other {w : World} {b c i : Nat} {o : Obj} (h : w.heap[c]? = some o) (hn : c ≠ b) (x : Value) : (w.setCell ⟨b, i, none⟩ x).heap[c]? = some o := by
  rw [Below.heap_setCell _ _ _ _ hn]; exact h
theorem below_drewN {B : Nat} {a w : World} (h : Below B a w) (n : Nat) : Below B a (w.drewN n) := ⟨h.os, h.tape, h.output, h.size, h.block⟩

theorem Stir.alloc {F : Nat → Prop} {w v : World} (h : Stir F w v) (o : Obj) : Stir F w (v.alloc o) := h.and_below ((Below.refl _ v).alloc (Nat.le_refl _) o)
theorem heap_alloc_old {w : World} {b : Nat} {o : Obj} (h : w.heap[b]? = some o) (o' : Obj) : (w.alloc o').heap[b]? = some o := by
  rw [Below.heap_alloc w o' b (lt_of_heap h)]; exact h
theorem ne_of_heap {w : World} {b c : Nat} {o o' : Obj} (h : w.heap[b]? = some o) (h' : w.heap[c]? = some o') (hn : o ≠ o') : b ≠ c := by
  rintro rfl
  rw [h] at h'
  exact hn (Option.some.inj h')
def ptr (b : Nat) : Value := .pointer (some ⟨b, 0, none⟩)
end Go.Proofs.YtmloljjllmmkoaaGreat

namespace Go.Proofs.YtmloljjllmmkoaaGreat
open Go.ChangeShapes Go.WideShapes Go.ChangeAt Go.RowKit Go
theorem own : ownKnob Tryz.prog.godebug = none := by kernel_rfl
section
variable {H : Type} {enc : TypeId × Value → H} {P : Program}
/-- what the call did below the heap's old size is nothing: results, arguments, variables and places are as said -/
theorem post_of_below {f : Func} {s : ChangeSpec} {apart fresh handsOn again : Bool} {W W' : World} {args : Array Value} {v : Value} {ds gs : List (DataW H)} {before pa pv : List MemPlace}
    (hW : DataW.Whole enc P f.params.toList s.vars apart W args.toList ds gs before)
    (hres : ∀ (b : Nat) (sp : Nat → Bool) (hd : Bool), DataW.TrodAll enc P W' b sp hd f.resultTypes.toList (v.resultList f.resultTypes.size) (s.fn H (ds ++ gs)).results [])
    (hargs : ∀ sp : Nat → Bool, (∀ p ∈ before, sp p.block = true) → DataW.TrodAll enc P W' 0 sp true f.params.toList args.toList (s.fn H (ds ++ gs)).args pa)
    (hvars : ∀ sp : Nat → Bool, (∀ p ∈ before, sp p.block = true) → DataW.TrodVars enc P W' sp s.vars (s.fn H (ds ++ gs)).vars pv)
    (hps : before = pa ++ pv) (hb : Below W.heap.size W W')
    (hok : ∀ (j : Nat) (t : TypeId) (r : Value), f.resultTypes[j]? = some t → (v.resultList f.resultTypes.size)[j]? = some r → Value.okWide P W' .any 0 t r) :
    s.post enc P f apart fresh handsOn again W args v W' := by
  have lt : ∀ p ∈ before, p.block < W.heap.size := fun p hp => hW.lt p hp
  have old : ∀ p ∈ before, (fun b => decide (b < W.heap.size)) p.block = true := fun p hp => by simpa using lt p hp
  have kept : W.keptBut W' (fun p => p ∈ before ∧ p ∈ [] ++ (pa ++ pv)) := World.keptBut_mono (fun p hp => ⟨hp, by simpa [hps] using hp⟩) (hb.frame (· ∈ before))
  obtain ⟨_, _, _, _, _, hz, hn⟩ := id hW
  refine ⟨ds, gs, before, [], pa, pv, hW, hres _ _ _, hargs _ old, hvars _ old, World.keptBut_mono (fun p hp => ⟨hp.1, Or.inr (by simpa using hp.2)⟩) kept, fun _ => ⟨hok, _, _, ([] ++ pa) ++ pv, ⟨[] ++ pa, pv, trodAll_append (hargs _ (fun _ _ => rfl)) (hres _ _ _), hvars _ (fun _ _ => rfl), rfl, ?_, ?_⟩, ?_⟩⟩
  · intro b off hp
    have hin : MemPlace.cell b off ∈ before := by simpa [hps] using hp
    rw [hb.frozen (lt _ hin)]
    exact hz b off hin
  · intro ha
    simpa [hps] using hn ha
  · intro p hp _
    simpa [hps] using hp
end

/-- a world for the witness -/
noncomputable def laidWorld (os : Os) : World := World.holding Tryz.prog os ⟨#[], #[], []⟩
theorem laid_met (os : Os) (args : Array Value) : laidMet Tryz.prog [] ((laidWorld os).forCall (fun _ _ => 0) ⟨#[], args, []⟩).memory :=
  laidMet_of_run' 8 (by kernel_rfl) (by kernel_rfl)

theorem reach_size {s : ByteArray} (h : s.data.toList.length ≤ reachBytes) : s.size ≤ 140737488351232 := by
  have e : s.size = s.data.toList.length := by simp
  rw [e]; exact h
theorem int_range {n : Int} (h : (Lit.int .i64 n).wf = true) : -9223372036854775808 ≤ n ∧ n ≤ 9223372036854775807 := by
  have e : IntKind.i64.min = -9223372036854775808 := by decide
  simp [Lit.wf] at h
  rw [e] at h
  exact h
theorem laidOut : laidOutB Tryz.prog = true := by kernel_rfl
theorem addr_plain (b off j : Nat) : Addr.add ⟨b, off, none⟩ j = ⟨b, off + j, none⟩ := Addr.add_lit b off j
def IntOk (k : Int) : Prop := -9223372036854775808 ≤ k ∧ k ≤ 9223372036854775807
def intVals (l : List Int) : List Value := l.map fun k => .int .i64 k
def strVals (l : List ByteArray) : List Value := l.map fun k => .string k
/-- the lesser of a length and a bound, in both spellings of the walk -/
theorem cut_to (n : Nat) (c : Int) (hc : 0 ≤ c) : ∃ k : Nat, k ≤ n ∧ (k : Int) ≤ c ∧ (if c < (n : Int) then c else (n : Int)) = (k : Int) ∧ min (n : Int) c = (k : Int) ∧ (k = n ∨ (k : Int) = c) := by
  by_cases h : c < (n : Int)
  · exact ⟨c.toNat, by omega, by omega, by rw [if_pos h]; omega, by omega, by omega⟩
  · exact ⟨n, by omega, by omega, by rw [if_neg h], by omega, by omega⟩
theorem wrapI (n : Int) (h1 : -9223372036854775808 ≤ n) (h2 : n ≤ 9223372036854775807) : IntKind.i64.wrap n = n := by
  simp [IntKind.wrap, IntKind.bits, IntKind.signed]; omega
/-- the low bits of a number -/
theorem and_to (m : Nat) (hm : m ≤ 1048576) (n : Int) : ∃ z : Nat, bits .and .i64 n (m : Int) = (z : Int) ∧ z ≤ m := by
  have h : (BitVec.ofInt 64 n &&& BitVec.ofInt 64 (m : Int)).toNat ≤ m := by
    rw [BitVec.toNat_and]
    refine Nat.le_trans Nat.and_le_right ?_
    rw [BitVec.toNat_ofInt]
    omega
  refine ⟨_, ?_, h⟩
  show IntKind.i64.wrap ((BitVec.ofInt 64 n &&& BitVec.ofInt 64 (m : Int)).toNat : Int) = _
  exact wrapI _ (by omega) (by omega)
end Go.Proofs.YtmloljjllmmkoaaGreat

namespace Go.Proofs.YtmloljjllmmkoaaGreat
open Go.RowKit Go

/-- no cell ahead of N bears the mark -/
def Free (f : Nat × Nat) (N : Nat) : Prop := f = (0, 0) ∨ N ≤ f.1
theorem frozen_free {w : World} {g i N : Nat} {cur : Array Value} {t : TypeId} {f : Nat × Nat} (h : w.heap[g]? = some (.cells cur t f)) (hf : Free f N) (hi : i < N) : w.frozen? ⟨g, i, none⟩ = false := by
  rcases hf with rfl | hf
  · simp [World.frozen?, h]
  · have : ¬ f.1 ≤ i := by omega
    simp [World.frozen?, h, this]
theorem storeCells_free (P : Program) (g o : Nat) (t : TypeId) (f : Nat × Nat) (N : Nat) (hf : Free f N) : ∀ (vs : List Value) (i : Nat) (cur : Array Value) (w : World), w.heap[g]? = some (.cells cur t f) → o + i + vs.length ≤ cur.size → o + i + vs.length ≤ N → (∀ v ∈ vs, v.oneCell' = true) →
    (storeCells ⟨g, o, none⟩ vs i).run P w = .ok () (w.setRow g (cur.toList.take (o + i) ++ vs ++ cur.toList.drop (o + i + vs.length)).toArray)
  | [], i, cur, w, hg, _, _, _ => by
    simp only [storeCells, List.append_nil, List.length_nil, Nat.add_zero, List.take_append_drop, Array.toArray_toList]
    rw [setRow_self w g cur t f hg]
    rfl
  | v :: r, i, cur, w, hg, hl, hN, h1 => by
    rw [List.length_cons] at hl hN
    have hi : o + i < cur.size := by omega
    have hadd : (⟨g, o, none⟩ : Addr).add i = ⟨g, o + i, none⟩ := Addr.add_lit ..
    have hcell : w.cell? ⟨g, o + i, none⟩ = some cur[o + i] := by simp [World.cell?, hg, hi]
    have hfro := frozen_free hg hf (show o + i < N by omega)
    have hst : (store ((⟨g, o, none⟩ : Addr).add i) v).run P w = .ok () (w.setRow g (cur.setIfInBounds (o + i) v)) := by
      rw [hadd, run_store P w _ v _ (h1 v (by simp)), hcell]
      simp [hfro, setCell_eq_setRow w g (o + i) cur t f v hg]
    have ih := storeCells_free P g o t f N hf r (i + 1) (cur.setIfInBounds (o + i) v) (w.setRow g (cur.setIfInBounds (o + i) v)) (setRow_heap w g cur _ t _ hg) (by simp; omega) (by omega) (fun x hx => h1 x (by simp [hx]))
    simp only [storeCells, Sem.run_bind, hst, Result.andThen_ok, ih, setRow_setRow]
    congr 3
    apply List.ext_getElem?
    intro j
    simp only [Array.toList_setIfInBounds, List.getElem?_append, List.getElem?_take, List.getElem?_drop, List.getElem?_set, List.length_append, List.length_take, List.length_set, List.length_cons, Array.length_toList, List.getElem?_cons]
    have e1 : min (o + (i + 1)) cur.size = o + i + 1 := by omega
    have e2 : min (o + i) cur.size = o + i := by omega
    rw [e1, e2]
    by_cases h2 : j < o + i
    · have : j < o + i + 1 + r.length := by omega
      have h4 : j < o + (i + 1) := by omega
      have h5 : j < o + i + (r.length + 1) := by omega
      have h6 : j < o + i + 1 := by omega
      have h7 : ¬ o + i = j := by omega
      simp [h2, this, h4, h5, h6, h7]
    · by_cases h3 : j = o + i
      · subst h3
        simp [hi]
        omega
      · by_cases h4 : j < o + i + 1 + r.length
        · have h5 : ¬ j < o + i + 1 := by omega
          have h6 : j < o + i + (r.length + 1) := by omega
          have h7 : j - (o + i) ≠ 0 := by omega
          have h8 : j - (o + i) - 1 = j - (o + i + 1) := by omega
          simp [h2, h4, h5, h6, h7, h8]
        · have h5 : ¬ j < o + i + (r.length + 1) := by omega
          have h6 : ¬ o + i = o + (i + 1) + r.length + (j - (o + i + 1 + r.length)) := by omega
          have h7 : o + (i + 1) + r.length + (j - (o + i + 1 + r.length)) = o + i + (r.length + 1) + (j - (o + i + (r.length + 1))) := by omega
          rw [if_neg h4, if_neg h5, if_neg h6, h7]
/-- 'copy(row[o:], s)' -/
theorem run_copy_free {P : Program} (w : World) (dT sT ty elem : TypeId) (g o dLen dCap : Nat) (s : ByteArray) (cur : Array Value) (t : TypeId) (f : Nat × Nat) (N : Nat)
    (hu : P.underlying dT = some (.slice elem)) (hs : (P.info? elem).map (·.size) = some 1) (hg : w.heap[g]? = some (.cells cur t f)) (hf : Free f N) (hle : s.size ≤ dLen) (hfit : o + s.size ≤ cur.size) (hN : o + s.size ≤ N) :
    (Builtin.copy_ #[dT, sT] ty #[.slice (some ⟨g, o, none⟩) dLen dCap, .string s]).run P w =
      .ok (goInt s.size) (w.setRow g (cur.toList.take o ++ Lib.byteCells s.data.toList ++ cur.toList.drop (o + s.size)).toArray) := by
  have hlen : (Lib.byteCells s.data.toList).length = s.size := by rw [Lib.byteCells_length]; simp
  have hst := storeCells_free P g o t f N hf (Lib.byteCells s.data.toList) 0 cur w hg (by rw [hlen]; omega) (by rw [hlen]; omega) (Lib.byteCells_one _)
  rw [hlen] at hst
  have htk : List.take s.size (List.map (fun b : UInt8 => Value.int IntKind.u8 (b.toNat : Int)) s.data.toList) = Lib.byteCells s.data.toList := List.take_of_length_le (by rw [List.length_map]; simp)
  cases hq : P.info? elem with
  | none => simp [hq] at hs
  | some i =>
    simp [Builtin.copy_, run_underlying hu, Builtin.lenOf, Builtin.firstCells, sizeOf, typeInfo, hq, Nat.min_eq_left hle]
    rw [htk, hst]
    simp [Result.andThen]
end Go.Proofs.YtmloljjllmmkoaaGreat

