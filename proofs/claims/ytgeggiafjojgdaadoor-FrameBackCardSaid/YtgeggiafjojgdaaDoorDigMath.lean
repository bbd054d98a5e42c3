/-
  What a sum is, on words of 64 bits: the round, what a word does, what bytes do; and how the walk spells the operations on words.
-/
import Derived.Test.YtgeggiafjojgdaaDoorRows
import Derived.WalkKit
import Derived.Laws.BitsAllLaws
namespace Go.Proofs.YtgeggiafjojgdaaDoor.DG
open Go.RowKit Go

/-- the four words -/
structure St where
  a : UInt64
  b : UInt64
  c : UInt64
  d : UInt64

/-- turned to the left -/
def rotl (x : UInt64) (k : Nat) : UInt64 := x <<< UInt64.ofNat k ||| x >>> UInt64.ofNat (64 - k)
/-- a round -/
def rnd (s : St) : St :=
  let a := s.a + s.b
  let b := rotl s.b 13 ^^^ a
  let a := rotl a 32
  let c := s.c + s.d
  let d := rotl s.d 16 ^^^ c
  let a := a + d
  let d := rotl d 21 ^^^ a
  let c := c + b
  let b := rotl b 17 ^^^ c
  let c := rotl c 32
  ⟨a, b, c, d⟩
/-- a word comes in -/
def take (s : St) (m : UInt64) : St :=
  let t := rnd (rnd ⟨s.a, s.b, s.c, s.d ^^^ m⟩)
  ⟨t.a ^^^ m, t.b, t.c, t.d⟩
/-- the four words of a key's two -/
def start (k l : UInt64) : St := ⟨k ^^^ 0x736f6d6570736575, l ^^^ 0x646f72616e646f6d, k ^^^ 0x6c7967656e657261, l ^^^ 0x7465646279746573⟩
/-- bytes as a number, the lowest first -/
def num : List UInt8 → Nat
  | [] => 0
  | x :: l => x.toNat + 256 * num l
def word (l : List UInt8) : UInt64 := UInt64.ofNat (num l)
/-- a sum that goes on: the words, the part, the size -/
structure Hs where
  four : St
  part : UInt64
  size : UInt8
def put (h : Hs) (x : UInt8) : Hs :=
  let p := h.part ||| (x.toUInt64 <<< UInt64.ofNat (8 * (h.size.toNat % 8)))
  if (h.size + 1).toNat % 8 = 0 then ⟨take h.four p, 0, h.size + 1⟩ else ⟨h.four, p, h.size + 1⟩
def puts (h : Hs) (l : List UInt8) : Hs := l.foldl put h
theorem puts_append (h : Hs) (l m : List UInt8) : puts h (l ++ m) = puts (puts h l) m := by simp [puts]
/-- a word's bytes -/
def text (x : UInt64) : List UInt8 := (List.range 8).map fun i => (x >>> UInt64.ofNat (8 * i)).toUInt8
theorem text_length (x : UInt64) : (text x).length = 8 := by simp [text]
def close (s : St) : List UInt8 :=
  let t := rnd (rnd (rnd (rnd ⟨s.a, s.b, s.c ^^^ 255, s.d⟩)))
  text (t.a ^^^ t.b ^^^ t.c ^^^ t.d)
def sumOf (h : Hs) : List UInt8 := close (take h.four (h.part ||| (h.size.toUInt64 <<< UInt64.ofNat 56)))
theorem sumOf_length (h : Hs) : (sumOf h).length = 8 := text_length _
def new (key : List UInt8) : Hs := ⟨start (word (key.take 8)) (word (key.drop 8)), 0, 0⟩
def sum (key s : List UInt8) : List UInt8 := sumOf (puts (new key) s)
theorem sum_length (key s : List UInt8) : (sum key s).length = 8 := text_length _

/-! ### Strings -/
def bs (l : List UInt8) : ByteArray := ⟨l.toArray⟩
theorem bs_list (l : List UInt8) : (bs l).data.toList = l := by simp [bs]
theorem bs_size (l : List UInt8) : (bs l).size = l.length := by simp [bs, ByteArray.size]
theorem bs_self (s : ByteArray) : bs s.data.toList = s := rfl
theorem bs_inj {a b : List UInt8} : bs a = bs b ↔ a = b := by
  constructor
  · intro h
    rw [← bs_list a, h, bs_list]
  · rintro rfl; rfl

/-! ### The values -/
def u64 (x : UInt64) : Value := .int .u64 (x.toNat : Int)
theorem u64_nat_lt (x : UInt64) : x.toNat < 18446744073709551616 := x.toNat_lt

theorem add_spell (x y : UInt64) : ((x.toNat : Int) + (y.toNat : Int)) % 18446744073709551616 = ((x + y).toNat : Int) := by
  rw [UInt64.toNat_add, Int.natCast_emod, Int.natCast_add]; rfl
theorem xor_spell (x y : UInt64) : bits .xor .u64 (x.toNat : Int) (y.toNat : Int) = ((x ^^^ y).toNat : Int) := by
  rw [u64_xor_nat _ _ x.toNat_lt y.toNat_lt, UInt64.toNat_xor]
theorem or_spell (x y : UInt64) : bits .or .u64 (x.toNat : Int) (y.toNat : Int) = ((x ||| y).toNat : Int) := by
  rw [u64_or_nat _ _ x.toNat_lt y.toNat_lt, UInt64.toNat_or]
theorem ofNat64 (n : Nat) (h : n < 18446744073709551616) : (UInt64.ofNat n).toNat = n := by
  rw [UInt64.toNat_ofNat']; exact Nat.mod_eq_of_lt h
theorem k64 (k : Nat) (hk : k < 64) : (UInt64.ofNat k).toNat % 64 = k := by rw [ofNat64 k (by omega)]; omega
theorem shl_spell (x : UInt64) (k : Nat) (hk : k < 64) : ((x.toNat : Int) * 2 ^ k) % 18446744073709551616 = ((x <<< UInt64.ofNat k).toNat : Int) := by
  rw [UInt64.toNat_shiftLeft]
  have e := k64 k hk
  rw [e, Nat.shiftLeft_eq, Int.natCast_emod, Int.natCast_mul, Int.natCast_pow]; rfl
theorem shr_spell (x : UInt64) (k : Nat) (hk : k < 64) : (x.toNat : Int) / 2 ^ k = ((x >>> UInt64.ofNat k).toNat : Int) := by
  rw [UInt64.toNat_shiftRight]
  have e := k64 k hk
  rw [e, Nat.shiftRight_eq_div_pow, Int.natCast_ediv, Int.natCast_pow]; rfl
theorem rot_spell (x : UInt64) (k : Nat) (h0 : 0 < k) (hk : k < 64) :
    bits .or .u64 (((x.toNat : Int) * 2 ^ k) % 18446744073709551616) ((x.toNat : Int) / 2 ^ (64 - k)) = ((rotl x k).toNat : Int) := by
  rw [shl_spell x k hk, shr_spell x (64 - k) (by omega), or_spell]; rfl
example : sum [0,1,2,3,4,5,6,7,8,9,10,11,12,13,14,15] [] = [0x31, 0x0e, 0x0e, 0xdd, 0x47, 0xdb, 0x6f, 0x72] := by decide +kernel
example : sum [0,1,2,3,4,5,6,7,8,9,10,11,12,13,14,15] [0,1,2,3,4,5,6,7,8,9,10,11,12,13,14] = [0xe5, 0x45, 0xbe, 0x49, 0x61, 0xca, 0x29, 0xa1] := by decide +kernel
end Go.Proofs.YtgeggiafjojgdaaDoor.DG

