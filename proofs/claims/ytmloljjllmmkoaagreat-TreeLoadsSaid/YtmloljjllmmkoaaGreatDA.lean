/-
  DigMath / DigW / DigA / DigB / DigC / DigD / DigE.
-/
import Derived.Test.YtmloljjllmmkoaaGreatRows
import Derived.WalkKit
import Derived.Laws.BitsAllLaws
import Derived.Below
import Derived.Deep.Draws
import Derived.Outline
import Derived.Lib.Hide
import Derived.Lib.Strings
import Derived.BigQuiet
import Derived.Deep.QuietTactic
import Derived.BigRegion
import Derived.Deep.RegionWith
import Derived.Laws.Rows
namespace Go.Proofs.YtmloljjllmmkoaaGreat.DG
open Go.RowKit Go

/-- the four words -/
structure St where
  a : UInt64
  b : UInt64
  c : UInt64
  d : UInt64

/-- turned to the left -/
def rotl (x : UInt64) (k : Nat) : UInt64 := x <<< UInt64.ofNat k ||| x >>> UInt64.ofNat (64 - k)
/-- a round -/
def rnd (s : St) : St :=
  let a := s.a + s.b
  let b := rotl s.b 13 ^^^ a
  let a := rotl a 32
  let c := s.c + s.d
  let d := rotl s.d 16 ^^^ c
  let a := a + d
  let d := rotl d 21 ^^^ a
  let c := c + b
  let b := rotl b 17 ^^^ c
  let c := rotl c 32
  ⟨a, b, c, d⟩
/-- a word comes in -/
def take (s : St) (m : UInt64) : St :=
  let t := rnd (rnd ⟨s.a, s.b, s.c, s.d ^^^ m⟩)
  ⟨t.a ^^^ m, t.b, t.c, t.d⟩
/-- the four words of a key's two -/
def start (k l : UInt64) : St := ⟨k ^^^ 0x736f6d6570736575, l ^^^ 0x646f72616e646f6d, k ^^^ 0x6c7967656e657261, l ^^^ 0x7465646279746573⟩
/-- bytes as a number, the lowest first -/
def num : List UInt8 → Nat
  | [] => 0
  | x :: l => x.toNat + 256 * num l
def word (l : List UInt8) : UInt64 := UInt64.ofNat (num l)
/-- a sum that goes on: the words, the part, the size -/
structure Hs where
  four : St
  part : UInt64
  size : UInt8
def put (h : Hs) (x : UInt8) : Hs :=
  let p := h.part ||| (x.toUInt64 <<< UInt64.ofNat (8 * (h.size.toNat % 8)))
  if (h.size + 1).toNat % 8 = 0 then ⟨take h.four p, 0, h.size + 1⟩ else ⟨h.four, p, h.size + 1⟩
def puts (h : Hs) (l : List UInt8) : Hs := l.foldl put h
theorem puts_append (h : Hs) (l m : List UInt8) : puts h (l ++ m) = puts (puts h l) m := by simp [puts]
/-- a word's bytes -/
def text (x : UInt64) : List UInt8 := (List.range 8).map fun i => (x >>> UInt64.ofNat (8 * i)).toUInt8
theorem text_length (x : UInt64) : (text x).length = 8 := by simp [text]
def close (s : St) : List UInt8 :=
  let t := rnd (rnd (rnd (rnd ⟨s.a, s.b, s.c ^^^ 255, s.d⟩)))
  text (t.a ^^^ t.b ^^^ t.c ^^^ t.d)
def sumOf (h : Hs) : List UInt8 := close (take h.four (h.part ||| (h.size.toUInt64 <<< UInt64.ofNat 56)))
theorem sumOf_length (h : Hs) : (sumOf h).length = 8 := text_length _
def new (key : List UInt8) : Hs := ⟨start (word (key.take 8)) (word (key.drop 8)), 0, 0⟩
def sum (key s : List UInt8) : List UInt8 := sumOf (puts (new key) s)
theorem sum_length (key s : List UInt8) : (sum key s).length = 8 := text_length _

/-! ### Strings -/
def bs (l : List UInt8) : ByteArray := ⟨l.toArray⟩
theorem bs_list (l : List UInt8) : (bs l).data.toList = l := by simp [bs]
theorem bs_size (l : List UInt8) : (bs l).size = l.length := by simp [bs, ByteArray.size]
theorem bs_self (s : ByteArray) : bs s.data.toList = s := rfl
theorem bs_inj {a b : List UInt8} : bs a = bs b ↔ a = b := by
  constructor
  · intro h
    rw [← bs_list a, h, bs_list]
  · rintro rfl; rfl

/-! ### The values -/
def u64 (x : UInt64) : Value := .int .u64 (x.toNat : Int)
theorem u64_nat_lt (x : UInt64) : x.toNat < 18446744073709551616 := x.toNat_lt

theorem add_spell (x y : UInt64) : ((x.toNat : Int) + (y.toNat : Int)) % 18446744073709551616 = ((x + y).toNat : Int) := by
  rw [UInt64.toNat_add, Int.natCast_emod, Int.natCast_add]; rfl
theorem xor_spell (x y : UInt64) : bits .xor .u64 (x.toNat : Int) (y.toNat : Int) = ((x ^^^ y).toNat : Int) := by
  rw [u64_xor_nat _ _ x.toNat_lt y.toNat_lt, UInt64.toNat_xor]
theorem or_spell (x y : UInt64) : bits .or .u64 (x.toNat : Int) (y.toNat : Int) = ((x ||| y).toNat : Int) := by
  rw [u64_or_nat _ _ x.toNat_lt y.toNat_lt, UInt64.toNat_or]
theorem ofNat64 (n : Nat) (h : n < 18446744073709551616) : (UInt64.ofNat n).toNat = n := by
  rw [UInt64.toNat_ofNat']; exact Nat.mod_eq_of_lt h
theorem k64 (k : Nat) (hk : k < 64) : (UInt64.ofNat k).toNat % 64 = k := by rw [ofNat64 k (by omega)]; omega
theorem shl_spell (x : UInt64) (k : Nat) (hk : k < 64) : ((x.toNat : Int) * 2 ^ k) % 18446744073709551616 = ((x <<< UInt64.ofNat k).toNat : Int) := by
  rw [UInt64.toNat_shiftLeft]
  have e := k64 k hk
  rw [e, Nat.shiftLeft_eq, Int.natCast_emod, Int.natCast_mul, Int.natCast_pow]; rfl
theorem shr_spell (x : UInt64) (k : Nat) (hk : k < 64) : (x.toNat : Int) / 2 ^ k = ((x >>> UInt64.ofNat k).toNat : Int) := by
  rw [UInt64.toNat_shiftRight]
  have e := k64 k hk
  rw [e, Nat.shiftRight_eq_div_pow, Int.natCast_ediv, Int.natCast_pow]; rfl
theorem rot_spell (x : UInt64) (k : Nat) (h0 : 0 < k) (hk : k < 64) :
    bits .or .u64 (((x.toNat : Int) * 2 ^ k) % 18446744073709551616) ((x.toNat : Int) / 2 ^ (64 - k)) = ((rotl x k).toNat : Int) := by
  rw [shl_spell x k hk, shr_spell x (64 - k) (by omega), or_spell]; rfl
example : sum [0,1,2,3,4,5,6,7,8,9,10,11,12,13,14,15] [] = [0x31, 0x0e, 0x0e, 0xdd, 0x47, 0xdb, 0x6f, 0x72] := by decide +kernel
example : sum [0,1,2,3,4,5,6,7,8,9,10,11,12,13,14,15] [0,1,2,3,4,5,6,7,8,9,10,11,12,13,14] = [0xe5, 0x45, 0xbe, 0x49, 0x61, 0xca, 0x29, 0xa1] := by decide +kernel
end Go.Proofs.YtmloljjllmmkoaaGreat.DG

namespace Go.Proofs.YtmloljjllmmkoaaGreat.DG
open Go.RowKit Go

/-- block b holds o now; nothing else has turned -/
structure Turned (b : Nat) (o : Obj) (w w' : World) : Prop where
  os : w'.os = w.os
  tape : w'.tape = w.tape
  output : w'.output = w.output
  size : w'.heap.size = w.heap.size
  here : w'.heap[b]? = some o
  block : ∀ k, k ≠ b → w'.heap[k]? = w.heap[k]?

theorem Turned.refl {b : Nat} {o : Obj} {w : World} (h : w.heap[b]? = some o) : Turned b o w w := ⟨rfl, rfl, rfl, rfl, h, fun _ _ => rfl⟩
theorem Turned.trans {b : Nat} {o o' : Obj} {w v u : World} (h : Turned b o w v) (k : Turned b o' v u) : Turned b o' w u :=
  ⟨k.os.trans h.os, k.tape.trans h.tape, k.output.trans h.output, k.size.trans h.size, k.here, fun i hi => (k.block i hi).trans (h.block i hi)⟩
theorem Turned.drew {b : Nat} {o : Obj} {w v : World} (h : Turned b o w v) : Turned b o w v.drew := ⟨h.os, h.tape, h.output, h.size, h.here, h.block⟩
theorem Turned.drewN {b n : Nat} {o : Obj} {w v : World} (h : Turned b o w v) : Turned b o w (v.drewN n) := ⟨h.os, h.tape, h.output, h.size, h.here, h.block⟩
theorem Turned.set {b i : Nat} {C : Array Value} {t : TypeId} {f : Nat × Nat} {w v : World} (h : Turned b (.cells C t f) w v) (u : Value) :
    Turned b (.cells (C.setIfInBounds i u) t f) w (v.setCell ⟨b, i, none⟩ u) := by
  refine ⟨h.os, h.tape, h.output, ?_, ?_, fun k hk => ?_⟩
  · simp [World.setCell, h.size]
  · simp [World.setCell, Array.getElem?_modify, h.here]
  · rw [Below.heap_setCell _ _ _ _ hk, h.block k hk]
theorem Turned.below {b B : Nat} {o : Obj} {w v : World} (h : Turned b o w v) (hb : B ≤ b) : Below B w v :=
  ⟨h.os, h.tape, h.output, Nat.le_of_eq h.size.symm, fun k hk => h.block k (by omega)⟩

/-- four words, and what lies behind them -/
def W4 (s : St) (r : List Value) (t : TypeId) : Obj := .cells ⟨u64 s.a :: u64 s.b :: u64 s.c :: u64 s.d :: r⟩ t (0, 0)
section
variable {w : World} {b : Nat} {s : St} {r : List Value} {t : TypeId}
theorem W4.c0 (h : w.heap[b]? = some (W4 s r t)) : w.cell? ⟨b, 0, none⟩ = some (.int .u64 s.a.toNat) := by simp [World.cell?, h, W4, u64]
theorem W4.c1 (h : w.heap[b]? = some (W4 s r t)) : w.cell? ⟨b, 1, none⟩ = some (.int .u64 s.b.toNat) := by simp [World.cell?, h, W4, u64]
theorem W4.c2 (h : w.heap[b]? = some (W4 s r t)) : w.cell? ⟨b, 2, none⟩ = some (.int .u64 s.c.toNat) := by simp [World.cell?, h, W4, u64]
theorem W4.c3 (h : w.heap[b]? = some (W4 s r t)) : w.cell? ⟨b, 3, none⟩ = some (.int .u64 s.d.toNat) := by simp [World.cell?, h, W4, u64]
theorem W4.fr (h : w.heap[b]? = some (W4 s r t)) (i : Nat) : w.frozen? ⟨b, i, none⟩ = false := by simp [World.frozen?, h, W4]
theorem W4.lt (h : w.heap[b]? = some (W4 s r t)) : b < w.heap.size := by
  rcases Nat.lt_or_ge b w.heap.size with hl | hg
  · exact hl
  · rw [Array.getElem?_eq_none hg] at h; cases h
theorem Turned.set0 {v : World} (h : Turned b (W4 s r t) w v) (x : UInt64) : Turned b (W4 ⟨x, s.b, s.c, s.d⟩ r t) w (v.setCell ⟨b, 0, none⟩ (.int .u64 x.toNat)) := by
  have := Turned.set (i := 0) h (.int .u64 x.toNat); simpa [W4, u64] using this
theorem Turned.set1 {v : World} (h : Turned b (W4 s r t) w v) (x : UInt64) : Turned b (W4 ⟨s.a, x, s.c, s.d⟩ r t) w (v.setCell ⟨b, 1, none⟩ (.int .u64 x.toNat)) := by
  have := Turned.set (i := 1) h (.int .u64 x.toNat); simpa [W4, u64] using this
theorem Turned.set2 {v : World} (h : Turned b (W4 s r t) w v) (x : UInt64) : Turned b (W4 ⟨s.a, s.b, x, s.d⟩ r t) w (v.setCell ⟨b, 2, none⟩ (.int .u64 x.toNat)) := by
  have := Turned.set (i := 2) h (.int .u64 x.toNat); simpa [W4, u64] using this
theorem Turned.set3 {v : World} (h : Turned b (W4 s r t) w v) (x : UInt64) : Turned b (W4 ⟨s.a, s.b, s.c, x⟩ r t) w (v.setCell ⟨b, 3, none⟩ (.int .u64 x.toNat)) := by
  have := Turned.set (i := 3) h (.int .u64 x.toNat); simpa [W4, u64] using this
end
end Go.Proofs.YtmloljjllmmkoaaGreat.DG

namespace Go.Proofs.YtmloljjllmmkoaaGreat.DG
open Go.RowKit Go

theorem ret_int {k : IntKind} {a b : Int} (h : a = b) : Ending.returned (.int k a) = .returned (.int k b) := by rw [h]

theorem rot_any (x : UInt64) (k : Nat) (w : World) (h0 : 0 < k) (hk : k < 64) :
    Calls Tryz.prog 138 #[.int .u64 x.toNat, .int .i64 k] w fun e w' => e = .returned (.int .u64 (rotl x k).toNat) ∧ w = w' := by
  rw [← rot_spell x k h0 hk]
  have hm : bits .and .u64 (k : Int) 63 = k := by
    rw [show (63 : Int) = ((63 : Nat) : Int) from rfl, u64_and_nat _ _ (by omega) (by omega), nat_mask6, Nat.mod_eq_of_lt hk]
  have hn : (64 - (k : Int)).toNat = 64 - k := by omega
  go_enter Tryz.func138, Tryz.ntmps138
  go_wp2_with fail
  go_ret
  exact ⟨rfl, rfl⟩

theorem rot_is {x y : UInt64} {k : Nat} (i : Int) (w : World) (hi : i = (k : Int)) (h0 : 0 < k) (hk : k < 64) (h : rotl x k = y) :
    Calls Tryz.prog 138 #[.int .u64 x.toNat, .int .i64 i] w fun e w' => e = .returned (.int .u64 y.toNat) ∧ w = w' := by
  rw [← h, hi]; exact rot_any x k w h0 hk

theorem round_steps (b : Nat) (s : St) (r : List Value) (t : TypeId) (w : World) (h : w.heap[b]? = some (W4 s r t)) (a1 r1 b1 a2 c1 r2 d1 a3 r3 d2 c2 r4 b2 c3 : UInt64)
    (e1 : ((s.a.toNat : Int) + (s.b.toNat : Int)) % 18446744073709551616 = (a1.toNat : Int)) (e2 : rotl s.b 13 = r1) (e3 : bits .xor .u64 (r1.toNat : Int) (a1.toNat : Int) = (b1.toNat : Int)) (e4 : rotl a1 32 = a2)
    (e5 : ((s.c.toNat : Int) + (s.d.toNat : Int)) % 18446744073709551616 = (c1.toNat : Int)) (e6 : rotl s.d 16 = r2) (e7 : bits .xor .u64 (r2.toNat : Int) (c1.toNat : Int) = (d1.toNat : Int))
    (e8 : ((a2.toNat : Int) + (d1.toNat : Int)) % 18446744073709551616 = (a3.toNat : Int)) (e9 : rotl d1 21 = r3) (e10 : bits .xor .u64 (r3.toNat : Int) (a3.toNat : Int) = (d2.toNat : Int))
    (e11 : ((c1.toNat : Int) + (b1.toNat : Int)) % 18446744073709551616 = (c2.toNat : Int)) (e12 : rotl b1 17 = r4) (e13 : bits .xor .u64 (r4.toNat : Int) (c2.toNat : Int) = (b2.toNat : Int)) (e14 : rotl c2 32 = c3) :
    Calls Tryz.prog 133 #[.pointer (some ⟨b, 0, none⟩)] w fun e w' => (∃ v, e = .returned v) ∧ Turned b (W4 ⟨a3, b2, c3, d2⟩ r t) w w' := by
  have c0 := W4.c0 h
  have c1' := W4.c1 h
  have c2' := W4.c2 h
  have c3' := W4.c3 h
  have fr := W4.fr h
  have HT := Turned.refl h
  have u1 : IntKind.u64.wrap ((s.a.toNat : Int) + (s.b.toNat : Int)) = (a1.toNat : Int) := e1
  have u5 : IntKind.u64.wrap ((s.c.toNat : Int) + (s.d.toNat : Int)) = (c1.toNat : Int) := e5
  have u8 : IntKind.u64.wrap ((a2.toNat : Int) + (d1.toNat : Int)) = (a3.toNat : Int) := e8
  have u11 : IntKind.u64.wrap ((c1.toNat : Int) + (b1.toNat : Int)) = (c2.toNat : Int) := e11
  have R1 := fun w => rot_is (k := 13) 13 w rfl (by omega) (by omega) e2
  have R2 := fun w => rot_is (k := 32) 32 w rfl (by omega) (by omega) e4
  have R3 := fun w => rot_is (k := 16) 16 w rfl (by omega) (by omega) e6
  have R4 := fun w => rot_is (k := 21) 21 w rfl (by omega) (by omega) e9
  have R5 := fun w => rot_is (k := 17) 17 w rfl (by omega) (by omega) e12
  have R6 := fun w => rot_is (k := 32) 32 w rfl (by omega) (by omega) e14
  clear h e2 e4 e6 e9 e12 e14
  go_enter Tryz.func133, Tryz.ntmps133
  go_wp2_with fail
  go_quiet (fail)
  go_wp2_with fail
  refine (R1 _).mono ?_
  rintro e w' ⟨rfl, rfl⟩
  go_wp2_with fail
  refine (R2 _).mono ?_
  rintro e w' ⟨rfl, rfl⟩
  go_wp2_with fail
  refine (R3 _).mono ?_
  rintro e w' ⟨rfl, rfl⟩
  go_wp2_with fail
  refine (R4 _).mono ?_
  rintro e w' ⟨rfl, rfl⟩
  go_wp2_with fail
  refine (R5 _).mono ?_
  rintro e w' ⟨rfl, rfl⟩
  go_wp2_with fail
  refine (R6 _).mono ?_
  rintro e w' ⟨rfl, rfl⟩
  go_wp2_with fail
  go_end0
  exact ⟨⟨_, rfl⟩, ((((HT.drewN.set0 _).set1 _).set2 _).set3 _)⟩

theorem round_any (b : Nat) (s : St) (r : List Value) (t : TypeId) (w : World) (h : w.heap[b]? = some (W4 s r t)) :
    Calls Tryz.prog 133 #[.pointer (some ⟨b, 0, none⟩)] w fun e w' => (∃ v, e = .returned v) ∧ Turned b (W4 (rnd s) r t) w w' :=
  round_steps b s r t w h _ _ _ _ _ _ _ _ _ _ _ _ _ _ (add_spell _ _) rfl (xor_spell _ _) rfl (add_spell _ _) rfl (xor_spell _ _) (add_spell _ _) rfl (xor_spell _ _) (add_spell _ _) rfl (xor_spell _ _) rfl

theorem take_any (b : Nat) (s : St) (m : UInt64) (r : List Value) (t : TypeId) (w : World) (h : w.heap[b]? = some (W4 s r t)) :
    Calls Tryz.prog 132 #[.pointer (some ⟨b, 0, none⟩), .int .u64 m.toNat] w fun e w' => (∃ v, e = .returned v) ∧ Turned b (W4 (take s m) r t) w w' := by
  have c3 := W4.c3 h
  have fr := W4.fr h
  have HT := Turned.refl h
  obtain ⟨x, hx⟩ : ∃ x, s.d ^^^ m = x := ⟨_, rfl⟩
  have e := xor_spell s.d m
  rw [hx] at e
  have e' : bits .xor .u64 (m.toNat : Int) (s.d.toNat : Int) = (x.toNat : Int) := by rw [xor_spell, ← hx, UInt64.xor_comm]
  have ht : take s m = ⟨(rnd (rnd ⟨s.a, s.b, s.c, x⟩)).a ^^^ m, (rnd (rnd ⟨s.a, s.b, s.c, x⟩)).b, (rnd (rnd ⟨s.a, s.b, s.c, x⟩)).c, (rnd (rnd ⟨s.a, s.b, s.c, x⟩)).d⟩ := by
    simp only [take, hx]
  rw [ht]
  clear ht hx h
  go_enter Tryz.func132, Tryz.ntmps132
  go_wp2_with fail
  go_region
  all_goals (
    go_wp2_with fail
    have H1 := (HT.set3 x).drew
    refine (round_any b _ r t _ H1.here).mono ?_
    rintro e1 w1 ⟨⟨v1, rfl⟩, T1⟩
    have H2 := H1.trans T1
    clear H1 T1
    go_wp2_with fail
    refine (round_any b _ r t _ H2.here).mono ?_
    rintro e2 w2 ⟨⟨v2, rfl⟩, T2⟩
    have H3 := H2.trans T2
    clear H2 T2 c3 fr e e' HT
    obtain ⟨y, hy⟩ : ∃ y, rnd (rnd ⟨s.a, s.b, s.c, x⟩) = y := ⟨_, rfl⟩
    rw [hy] at H3
    have hy' := Lib.hid hy
    clear hy
    have c0 := W4.c0 H3.here
    have fr := W4.fr H3.here
    obtain ⟨z, hz⟩ : ∃ z, y.a ^^^ m = z := ⟨_, rfl⟩
    have e := xor_spell y.a m
    rw [hz] at e
    have e' : bits .xor .u64 (m.toNat : Int) (y.a.toNat : Int) = (z.toNat : Int) := by rw [xor_spell, ← hz, UInt64.xor_comm]
    have hz' := Lib.hid hz
    clear hz
    go_wp2_with fail
    go_region
    all_goals (
      go_wp2_with fail
      go_end0
      refine ⟨⟨_, rfl⟩, ?_⟩
      rw [hy'.out, hz'.out]
      exact (H3.set0 z).drew))

theorem results_cell {fn : Func} {p : Tmp} {ty : TypeId} (h : fn.results = #[.cell p ty]) (tmps : Array Value) (P : Program) (w : World) :
    (results fn tmps).run P w =
      ((asAddr (tmps.getD p undef)).run P w).andThen fun a w₁ => (loadVar ty a).run P w₁ := by
  simp only [results, h]
  simp [Sem.run_bind, Result.andThen]

theorem start_any (k l : UInt64) (w : World) :
    Calls Tryz.prog 130 #[.int .u64 k.toNat, .int .u64 l.toNat] w fun e w' => e = .returned (.agg #[u64 (start k l).a, u64 (start k l).b, u64 (start k l).c, u64 (start k l).d]) ∧ Below w.heap.size w w' := by
  have e1 : bits .xor .u64 (k.toNat : Int) 8317987319222330741 = ((k ^^^ 0x736f6d6570736575).toNat : Int) := xor_spell k 0x736f6d6570736575
  have e2 : bits .xor .u64 (l.toNat : Int) 7237128888997146477 = ((l ^^^ 0x646f72616e646f6d).toNat : Int) := xor_spell l 0x646f72616e646f6d
  have e3 : bits .xor .u64 (k.toNat : Int) 7816392313619706465 = ((k ^^^ 0x6c7967656e657261).toNat : Int) := xor_spell k 0x6c7967656e657261
  have e4 : bits .xor .u64 (l.toNat : Int) 8387220255154660723 = ((l ^^^ 0x7465646279746573).toNat : Int) := xor_spell l 0x7465646279746573
  show Calls _ _ _ _ fun e w' => e = .returned (.agg #[.int .u64 ((k ^^^ 0x736f6d6570736575).toNat : Int), .int .u64 ((l ^^^ 0x646f72616e646f6d).toNat : Int), .int .u64 ((k ^^^ 0x6c7967656e657261).toNat : Int), .int .u64 ((l ^^^ 0x7465646279746573).toNat : Int)]) ∧ Below w.heap.size w w'
  rw [← e1, ← e2, ← e3, ← e4]
  clear e1 e2 e3 e4
  go_enter Tryz.func130, Tryz.ntmps130
  go_wp2_with fail
  refine bodyPost_ret ?_ rfl ⟨rfl, ?_⟩
  · rw [results_cell rfl]
    go_simp
  · exact (Below.refl _ _).alloc (Nat.le_refl _) _
end Go.Proofs.YtmloljjllmmkoaaGreat.DG

namespace Go.Proofs.YtmloljjllmmkoaaGreat.DG
open Go.RowKit Go

theorem num_lt (l : List UInt8) : num l < 256 ^ l.length := by
  induction l with
  | nil => simp [num]
  | cons x l ih =>
    have := x.toNat_lt
    simp only [num, List.length_cons, Nat.pow_succ]
    omega
theorem num_lt64 {l : List UInt8} (h : l.length ≤ 8) : num l < 18446744073709551616 :=
  Nat.lt_of_lt_of_le (num_lt l) (Nat.pow_le_pow_right (by decide) h)
theorem num_append (l m : List UInt8) : num (l ++ m) = num l + 256 ^ l.length * num m := by
  induction l with
  | nil => simp [num]
  | cons x l ih =>
    simp only [List.cons_append, num, ih, List.length_cons, Nat.pow_succ, Nat.mul_add, Nat.mul_comm (256 ^ l.length) 256, Nat.mul_assoc]
    omega
theorem word_toNat {l : List UInt8} (h : l.length ≤ 8) : (word l).toNat = num l := ofNat64 _ (num_lt64 h)
theorem pow256 (k : Nat) : 256 ^ k = 2 ^ (8 * k) := by rw [Nat.pow_mul]
/-- one byte more, put on top -/
theorem num_or (l : List UInt8) (x : UInt8) (_h : l.length < 8) : num l ||| (x.toNat * 2 ^ (8 * l.length)) = num (l ++ [x]) := by
  have hl := num_lt l
  rw [pow256] at hl
  rw [Nat.or_comm, nat_join (8 * l.length) _ _ (by simp) hl, num_append, pow256]
  simp only [num]
  rw [Nat.mul_zero, Nat.add_zero, Nat.mul_comm x.toNat]; omega
theorem shl_lt (x : UInt8) (k : Nat) (h : k < 8) : x.toNat * 2 ^ (8 * k) < 18446744073709551616 := by
  have := x.toNat_lt
  have h2 : 2 ^ (8 * k) ≤ 2 ^ 56 := Nat.pow_le_pow_right (by decide) (by omega)
  calc x.toNat * 2 ^ (8 * k) ≤ 255 * 2 ^ 56 := Nat.mul_le_mul (by omega) h2
    _ < _ := by decide
theorem or_step (l : List UInt8) (x : UInt8) (h : l.length < 8) :
    bits .or .u64 (num l : Int) (((x.toNat : Int) * 2 ^ (8 * l.length)) % 18446744073709551616) = (num (l ++ [x]) : Int) := by
  have e : ((x.toNat : Int) * 2 ^ (8 * l.length)) % 18446744073709551616 = ((x.toNat * 2 ^ (8 * l.length) : Nat) : Int) := by
    have := shl_lt x l.length h
    rw [Int.natCast_mul, Int.natCast_pow]
    rw [Int.emod_eq_of_lt]
    · rfl
    · exact Int.mul_nonneg (Int.natCast_nonneg _) (Int.pow_nonneg (by decide))
    · have := Int.ofNat_lt.2 this
      rwa [Int.natCast_mul, Int.natCast_pow] at this
  rw [e, u64_or_nat _ _ (num_lt64 (by omega)) (shl_lt x l.length h), num_or l x h]

theorem u64_of_u8 (x : UInt8) : IntKind.u64.wrap (x.toNat : Int) = (x.toNat : Int) := by
  have := x.toNat_lt
  show (x.toNat : Int) % 18446744073709551616 = _
  omega

set_option maxRecDepth 100000 in
theorem word_any (s : ByteArray) (hs : s.size ≤ 8) (w : World) :
    Calls Tryz.prog 131 #[.string s] w fun e w' => e = .returned (.int .u64 (word s.data.toList).toNat) ∧ w = w' := by
  rw [word_toNat (by simpa using hs)]
  go_enter Tryz.func131, Tryz.ntmps131
  go_wp2
  go_loop [3, 7] (fun a i => ∃ k : Nat, k ≤ s.size ∧ i = .int .i64 k ∧ a = .int .u64 (num (s.data.toList.take k))) (fun _ i => s.size - (intOf i).toNat)
  case atStart => exact ⟨0, Nat.zero_le _, rfl, rfl⟩
  case round =>
    obtain ⟨k, hk, rfl, rfl⟩ := hrel
    by_cases hlt : k < s.size
    · have hl : k < s.data.toList.length := by simpa using hlt
      have e := or_step (s.data.toList.take k) s[k] (by rw [List.length_take]; omega)
      rw [show (s.data.toList.take k).length = k by rw [List.length_take]; omega] at e
      have HN := Lib.hid (show s.data.toList.take (k + 1) = s.data.toList.take k ++ [s[k]] by
        rw [List.take_succ_eq_append_getElem hl]; rfl)
      have e' : bits .or .u64 (num (s.data.toList.take k) : Int) (IntKind.u64.wrap ((s[k].toNat : Int) * 2 ^ (8 * k))) = (num (s.data.toList.take k ++ [s[k]]) : Int) := e
      have hc : IntKind.u64.wrap (s[k].toNat : Int) = (s[k].toNat : Int) := u64_of_u8 _
      go_wp2
      go_round
      case rel => exact ⟨k + 1, by omega, by go_num, by rw [HN.out]⟩
      case measure => simp [intOf]; omega
    · obtain rfl : k = s.size := by omega
      have HN := Lib.hid (show s.data.toList.take s.size = s.data.toList by rw [List.take_of_length_le]; simp)
      go_wp2
      go_ret
      exact ⟨ret_int (by rw [HN.out]), rfl⟩

/-- the cells of a word's first k bytes, noughts behind them -/
def tcells (x : UInt64) (k : Nat) : Array Value := ⟨((text x).take k ++ List.replicate (8 - k) 0).map fun b : UInt8 => .int .u8 (b.toNat : Int)⟩
theorem tcells_succ (x : UInt64) (k : Nat) (h : k < 8) : (tcells x k).setIfInBounds k (.int .u8 (((x >>> UInt64.ofNat (8 * k)).toUInt8).toNat : Int)) = tcells x (k + 1) := by
  match k, h with
  | 0, _ => rfl
  | 1, _ => rfl
  | 2, _ => rfl
  | 3, _ => rfl
  | 4, _ => rfl
  | 5, _ => rfl
  | 6, _ => rfl
  | 7, _ => rfl
  | n + 8, h => omega
theorem byte_spell (x : UInt64) (k : Nat) (h : k < 8) : IntKind.u8.wrap ((x.toNat : Int) / 2 ^ (8 * k)) = (((x >>> UInt64.ofNat (8 * k)).toUInt8).toNat : Int) := by
  rw [shr_spell x (8 * k) (by omega)]
  generalize x >>> UInt64.ofNat (8 * k) = y
  show (y.toNat : Int) % 256 = _
  rw [UInt64.toNat_toUInt8]
  rfl

set_option maxRecDepth 100000 in
theorem text_any (x : UInt64) (w : World) :
    Calls Tryz.prog 134 #[.int .u64 x.toNat] w fun e w' => e = .returned (.string (bs (text x))) ∧ Below w.heap.size w w' := by
  have hconv : (convert 85 9 (.slice (some ⟨w.heap.size, 0, none⟩) (text x).length 8)).run Tryz.prog (w.alloc (.cells (tcells x 8) 207)) = .ok (.string (bs (text x))) (w.alloc (.cells (tcells x 8) 207)) :=
    run_convert_bytes_back _ 85 9 5 ⟨w.heap.size, 0, none⟩ 8 (text x) Tryz.underlying85 Tryz.underlying5 Tryz.underlying9 (fun j hj => by
      rw [Addr.add_lit, Nat.zero_add, World.cell?_alloc_at _ _ _ _ rfl]
      have hj8 : j < 8 := by rw [text_length] at hj; exact hj
      simp only [tcells, List.getElem?_toArray, List.getElem?_map]
      rw [List.take_of_length_le (by rw [text_length]; exact Nat.le_refl _), List.getElem?_append_left hj, List.getElem?_eq_getElem hj]
      rfl)
  rw [text_length] at hconv
  have h0 : tcells x 0 = #[.int .u8 0, .int .u8 0, .int .u8 0, .int .u8 0, .int .u8 0, .int .u8 0, .int .u8 0, .int .u8 0] := rfl
  go_enter Tryz.func134, Tryz.ntmps134
  go_wp2
  go_loopw [5] (fun i wr => ∃ k : Nat, k ≤ 8 ∧ i = .int .i64 k ∧ wr = w.alloc (.cells (tcells x k) 207)) (fun i _ => 8 - (intOf i).toNat)
  case atStart => exact ⟨0, Nat.zero_le _, rfl, by rw [h0]⟩
  case round =>
    obtain ⟨k, hk, rfl, rfl⟩ := hrel
    by_cases hlt : k < 8
    · have e1 := byte_spell x k hlt
      have e2 := tcells_succ x k hlt
      have hz : (tcells x k).size = 8 := by simp [tcells, text_length]; omega
      generalize (x >>> UInt64.ofNat (8 * k)).toUInt8 = y at e1 e2
      go_wp2
      go_roundw
      case rel => exact ⟨k + 1, by omega, by go_num, rfl⟩
      case measure => simp [intOf]; omega
    · obtain rfl : k = 8 := by omega
      go_wp2
      go_ret
      exact ⟨rfl, (Below.refl _ w).alloc (Nat.le_refl _) _⟩
end Go.Proofs.YtmloljjllmmkoaaGreat.DG

namespace Go.Proofs.YtmloljjllmmkoaaGreat.DG
open Go.RowKit Go

/-- a sum that goes on, in memory -/
def HObj (h : Hs) : Obj := W4 h.four [.int .u64 (h.part.toNat : Int), .int .u8 (h.size.toNat : Int)] 202

theorem extract_take (s : ByteArray) (k : Nat) : (s.extract 0 k).data.toList = s.data.toList.take k := by
  rw [Lib.extract_data, List.drop_zero, Nat.sub_zero]
theorem extract_drop (s : ByteArray) (k : Nat) : (s.extract k s.size).data.toList = s.data.toList.drop k := by
  rw [Lib.extract_data, List.take_of_length_le (by simp)]

set_option maxRecDepth 100000 in
set_option maxHeartbeats 1000000 in
theorem new_any (s : ByteArray) (hs : s.size = 16) (w : World) :
    Calls Tryz.prog 117 #[.string s] w fun e w' => ∃ b, e = .returned (.tuple #[.pointer (some ⟨b, 0, none⟩), .int .i64 0]) ∧ w.heap.size ≤ b ∧ w'.heap[b]? = some (HObj (new s.data.toList)) ∧ Below w.heap.size w w' := by
  have k1 : (s.extract 0 8).size ≤ 8 := by simp; omega
  have k2 : (s.extract 8 16).size ≤ 8 := by simp; omega
  have l1 := extract_take s 8
  have l2 := extract_drop s 8
  rw [hs] at l2
  have C1 := fun w => word_any (s.extract 0 8) k1 w
  have C2 := fun w => word_any (s.extract 8 16) k2 w
  rw [l1] at C1
  rw [l2] at C2
  have C3 := fun w => start_any (word (s.data.toList.take 8)) (word (s.data.toList.drop 8)) w
  obtain ⟨z, hz⟩ : ∃ z, start (word (s.data.toList.take 8)) (word (s.data.toList.drop 8)) = z := ⟨_, rfl⟩
  rw [hz] at C3
  have hN := Lib.hid (show new s.data.toList = ⟨z, 0, 0⟩ by rw [← hz]; rfl)
  have hn16 : ((s.size : Int) != 16) = false := by rw [hs]; rfl
  have hi : (s.size : Int) = 16 := by rw [hs]; rfl
  clear k1 k2 l1 l2 hz
  obtain ⟨p, hp⟩ : ∃ p, s.extract 0 8 = p := ⟨_, rfl⟩
  obtain ⟨q, hq⟩ : ∃ q, s.extract 8 16 = q := ⟨_, rfl⟩
  obtain ⟨k, hk⟩ : ∃ k, word (s.data.toList.take 8) = k := ⟨_, rfl⟩
  obtain ⟨l, hl⟩ : ∃ l, word (s.data.toList.drop 8) = l := ⟨_, rfl⟩
  rw [hp, hk] at C1
  rw [hq, hl] at C2
  rw [hk, hl] at C3
  clear hk hl
  have C12 : ∀ (U : ByteArray) (V : UInt64) (w : World), (U = p ∧ V = k ∨ U = q ∧ V = l) → Calls Tryz.prog 131 #[.string U] w fun e w' => e = .returned (.int .u64 V.toNat) ∧ w = w' := by
    rintro U V w (⟨rfl, rfl⟩ | ⟨rfl, rfl⟩)
    · exact C1 w
    · exact C2 w
  clear C1 C2
  go_enter Tryz.func117, Tryz.ntmps117
  go_wp2
  go_region_with (first
    | (go_at_call 131; refine (C12 _ _ _ (by first | exact Or.inl ⟨rfl, rfl⟩ | exact Or.inr ⟨rfl, rfl⟩)).mono ?_; rintro e w' ⟨rfl, rfl⟩)
    | (go_at_call 130; refine (C3 _).mono ?_; rintro e w' ⟨rfl, hB⟩))
  all_goals (
    go_wp2_with fail
    go_ret2
    refine ⟨w'.heap.size, rfl, hB.size, ?_, (Below.refl _ _).drew.trans (hB.alloc hB.size _)⟩
    rw [hN.out, heap_alloc_new]
    rfl)

theorem new_wrong (s : ByteArray) (hs : s.size ≠ 16) (_hm : s.size ≤ 281474976710656) (w : World) :
    Calls Tryz.prog 117 #[.string s] w fun e w' => e = .returned (.tuple #[.pointer none, .int .i64 20]) ∧ w = w' := by
  have hn : ((s.size : Int) != 16) = true := by simp; omega
  go_enter Tryz.func117, Tryz.ntmps117
  go_wp2
  go_ret2
  exact ⟨rfl, rfl⟩
end Go.Proofs.YtmloljjllmmkoaaGreat.DG

namespace Go.Proofs.YtmloljjllmmkoaaGreat.DG
open Go.RowKit Go

theorem HObj.c4 {w : World} {b : Nat} {h : Hs} (hb : w.heap[b]? = some (HObj h)) : w.cell? ⟨b, 4, none⟩ = some (.int .u64 (h.part.toNat : Int)) := by simp [World.cell?, hb, HObj, W4]
theorem HObj.c5 {w : World} {b : Nat} {h : Hs} (hb : w.heap[b]? = some (HObj h)) : w.cell? ⟨b, 5, none⟩ = some (.int .u8 (h.size.toNat : Int)) := by simp [World.cell?, hb, HObj, W4]
theorem HObj.fr {w : World} {b : Nat} {h : Hs} (hb : w.heap[b]? = some (HObj h)) (i : Nat) : w.frozen? ⟨b, i, none⟩ = false := by simp [World.frozen?, hb, HObj, W4]
theorem Turned.part {w v : World} {b : Nat} {h : Hs} (t : Turned b (HObj h) w v) (x : UInt64) : Turned b (HObj ⟨h.four, x, h.size⟩) w (v.setCell ⟨b, 4, none⟩ (.int .u64 x.toNat)) := by
  have := Turned.set (i := 4) t (.int .u64 x.toNat); simpa [HObj, W4, u64] using this
theorem Turned.size5 {w v : World} {b : Nat} {h : Hs} (t : Turned b (HObj h) w v) (x : UInt8) : Turned b (HObj ⟨h.four, h.part, x⟩) w (v.setCell ⟨b, 5, none⟩ (.int .u8 x.toNat)) := by
  have := Turned.set (i := 5) t (.int .u8 x.toNat); simpa [HObj, W4, u64] using this

theorem part_spell (p : UInt64) (x z : UInt8) :
    bits .or .u64 (p.toNat : Int) (IntKind.u64.wrap ((x.toNat : Int) * 2 ^ (8 * (z.toNat % 8)))) = ((p ||| (x.toUInt64 <<< UInt64.ofNat (8 * (z.toNat % 8)))).toNat : Int) := by
  have e := shl_spell x.toUInt64 (8 * (z.toNat % 8)) (by omega)
  rw [UInt8.toNat_toUInt64] at e
  show bits .or .u64 (p.toNat : Int) (((x.toNat : Int) * 2 ^ (8 * (z.toNat % 8))) % 18446744073709551616) = _
  rw [e, or_spell]
theorem size_spell (z : UInt8) : IntKind.u8.wrap ((z.toNat : Int) + 1) = ((z + 1).toNat : Int) := by
  show ((z.toNat : Int) + 1) % 256 = _
  rw [UInt8.toNat_add, show (1 : UInt8).toNat = 1 from rfl]; omega

set_option maxRecDepth 100000 in
set_option maxHeartbeats 1000000 in
theorem write_any (b : Nat) (h : Hs) (s : ByteArray) (hs : s.size ≤ 281474976710656) (w : World) (hb : w.heap[b]? = some (HObj h)) :
    Calls Tryz.prog 118 #[.pointer (some ⟨b, 0, none⟩), .string s] w fun e w' => (∃ v, e = .returned v) ∧ Turned b (HObj (puts h s.data.toList)) w w' := by
  go_enter Tryz.func118, Tryz.ntmps118
  go_wp2
  go_loopw [7] (fun i wr => ∃ k : Nat, k ≤ s.size ∧ i = .int .i64 k ∧ Turned b (HObj (puts h (s.data.toList.take k))) w wr) (fun i _ => s.size - (intOf i).toNat)
  case atStart => exact ⟨0, Nat.zero_le _, rfl, Turned.refl hb⟩
  case round =>
    obtain ⟨k, hk, rfl, HT⟩ := hrel
    by_cases hlt : k < s.size
    · have hl : k < s.data.toList.length := by simpa using hlt
      have HN := Lib.hid (show puts h (s.data.toList.take (k + 1)) = put (puts h (s.data.toList.take k)) s[k] by
        rw [List.take_succ_eq_append_getElem hl, puts_append]; rfl)
      obtain ⟨g, hg⟩ : ∃ g, puts h (s.data.toList.take k) = g := ⟨_, rfl⟩
      rw [hg] at HN HT
      clear hg
      have c4 := HObj.c4 HT.here
      have c5 := HObj.c5 HT.here
      have fr := HObj.fr HT.here
      have hc := u64_of_u8 s[k]
      have hlt' : (k : Int) < (s.size : Int) := by omega
      have hp := part_spell g.part s[k] g.size
      have hz := size_spell g.size
      have hput : put g s[k] = if (g.size + 1).toNat % 8 = 0 then ⟨take g.four (g.part ||| (s[k].toUInt64 <<< UInt64.ofNat (8 * (g.size.toNat % 8)))), 0, g.size + 1⟩ else ⟨g.four, g.part ||| (s[k].toUInt64 <<< UInt64.ofNat (8 * (g.size.toNat % 8))), g.size + 1⟩ := rfl
      rw [hput] at HN
      clear hput
      generalize g.part ||| (s[k].toUInt64 <<< UInt64.ofNat (8 * (g.size.toNat % 8))) = p at HN hp
      generalize g.size + 1 = z at HN hz
      have T3 := Lib.hid ((HT.part p).size5 z)
      have c5b : (wr.setCell ⟨b, 4, none⟩ (.int .u64 (p.toNat : Int))).cell? ⟨b, 5, none⟩ = some (.int .u8 (g.size.toNat : Int)) := HObj.c5 (h := ⟨g.four, p, g.size⟩) (HT.part p).here
      have c5c := HObj.c5 T3.out.here
      have c4c := HObj.c4 T3.out.here
      have frc := HObj.fr T3.out.here
      by_cases h8 : z.toNat % 8 = 0
      · rw [if_pos h8] at HN
        have t8 : ((z.toNat : Int) % 8 == 0) = true := by simp; omega
        clear h8
        go_wp2_with fail
        go_region
        go_wp2_with fail
        have T3' := T3.out
        clear T3 c4 c5 fr c5b
        generalize (wr.setCell ⟨b, 4, none⟩ (.int .u64 (p.toNat : Int))).setCell ⟨b, 5, none⟩ (.int .u8 (z.toNat : Int)) = w3 at *
        clear HT
        go_region_with (go_at_call 132; refine (take_any b g.four p _ _ _ (show w3.drew.drew.heap[b]? = _ from T3'.here)).mono ?_; rintro e w' ⟨⟨v, rfl⟩, T4⟩)
        trace_state
        all_goals (
          have T5 : Turned b (HObj ⟨take g.four p, p, z⟩) w w' := T3'.drew.drew.trans T4
          have fr := HObj.fr T5.here
          have c4 := HObj.c4 T5.here
          have T6 := T5.part 0
          go_wp2_with fail
          go_roundw
          case rel => exact ⟨k + 1, by omega, by go_num, by rw [HN.out]; exact T6⟩
          case measure => simp [intOf]; omega)
      · rw [if_neg h8] at HN
        have t8 : ((z.toNat : Int) % 8 == 0) = false := by simp; omega
        clear h8
        go_wp2_with fail
        go_region
        go_wp2_with fail
        go_roundw
        case rel => exact ⟨k + 1, by omega, by go_num, by rw [HN.out]; exact T3.out.drew⟩
        case measure => simp [intOf]; omega
    · obtain rfl : k = s.size := by omega
      rw [show s.data.toList.take s.size = s.data.toList by rw [List.take_of_length_le]; simp] at HT
      go_wp2
      go_end0
      exact ⟨⟨_, rfl⟩, HT⟩
end Go.Proofs.YtmloljjllmmkoaaGreat.DG

namespace Go.Proofs.YtmloljjllmmkoaaGreat.DG
open Go.RowKit Go

def rnds : Nat → St → St
  | 0, s => s
  | k + 1, s => rnd (rnds k s)
theorem close_eq (s : St) (u : St) (hu : rnds 4 ⟨s.a, s.b, s.c ^^^ 255, s.d⟩ = u) : close s = text (u.a ^^^ u.b ^^^ u.c ^^^ u.d) := by
  subst hu; rfl
theorem xor255 (x : UInt64) : bits .xor .u64 (x.toNat : Int) 255 = ((x ^^^ 255).toNat : Int) := xor_spell x 255
theorem size_part (p : UInt64) (z : UInt8) : bits .or .u64 (p.toNat : Int) (IntKind.u64.wrap ((z.toNat : Int) * 72057594037927936)) = ((p ||| (z.toUInt64 <<< UInt64.ofNat 56)).toNat : Int) := by
  have e := shl_spell z.toUInt64 56 (by decide)
  rw [UInt8.toNat_toUInt64, show (2 : Int) ^ 56 = 72057594037927936 by decide] at e
  rw [IntKind.wrap_u64, e, or_spell]

set_option maxRecDepth 100000 in
set_option maxHeartbeats 1000000 in
theorem sum_any (b : Nat) (h : Hs) (w : World) (hb : w.heap[b]? = some (HObj h)) :
    Calls Tryz.prog 119 #[.pointer (some ⟨b, 0, none⟩)] w fun e w' => e = .returned (.string (bs (sumOf h))) ∧ Below w.heap.size w w' := by
  have c0 := W4.c0 hb
  have c1 := W4.c1 hb
  have c2 := W4.c2 hb
  have c3 := W4.c3 hb
  have hlt := W4.lt hb
  have hm := size_part h.part h.size
  have hc := u64_of_u8 h.size
  have hS := Lib.hid (show sumOf h = close (take h.four (h.part ||| (h.size.toUInt64 <<< UInt64.ofNat 56))) from rfl)
  generalize h.part ||| (h.size.toUInt64 <<< UInt64.ofNat 56) = m at hm hS
  obtain ⟨w1, e1⟩ : ∃ w1, w.alloc (.cells #[.int .u64 h.four.a.toNat, .int .u64 h.four.b.toNat, .int .u64 h.four.c.toNat, .int .u64 h.four.d.toNat] 199) = w1 := ⟨_, rfl⟩
  have HN := Lib.hid (show w1.heap[w.heap.size]? = some (W4 h.four [] 199) by rw [← e1]; exact heap_alloc_new _ _)
  have B1 : Below w.heap.size w w1 := by rw [← e1]; exact (Below.refl _ w).alloc (Nat.le_refl _) _
  have c4 : w1.cell? ⟨b, 4, none⟩ = _ := (B1.cell (p := ⟨b, 4, none⟩) hlt).trans (HObj.c4 hb)
  have c5 : w1.cell? ⟨b, 5, none⟩ = _ := (B1.cell (p := ⟨b, 5, none⟩) hlt).trans (HObj.c5 hb)
  clear hb
  go_enter Tryz.func119, Tryz.ntmps119
  go_wp2_with fail
  go_region_with (go_at_call 132; refine (take_any w.heap.size h.four m [] 199 _ (show w1.drew.heap[w.heap.size]? = _ from HN.out)).mono ?_; rintro e w' ⟨⟨v, rfl⟩, T1⟩)
  all_goals (
    have N1 := T1.here
    have B2 : Below w.heap.size w w' := B1.drew.trans (T1.below (Nat.le_refl _))
    clear T1 HN c0 c1 c2 c3 c4 c5 hm hc
    generalize take h.four m = t at N1 hS
    have c2 := W4.c2 N1
    have fr := W4.fr N1
    have hx := xor255 t.c
    have T2 := (Turned.refl N1).set2 (t.c ^^^ 255)
    have hS2 := Lib.hid (show ∀ u, rnds 4 ⟨t.a, t.b, t.c ^^^ 255, t.d⟩ = u → close t = text (u.a ^^^ u.b ^^^ u.c ^^^ u.d) from fun u hu => close_eq t u hu)
    generalize t.c ^^^ 255 = y at hx T2 hS2
    obtain ⟨w2, e2⟩ : ∃ w2, w'.setCell ⟨w.heap.size, 2, none⟩ (.int .u64 y.toNat) = w2 := ⟨_, rfl⟩
    rw [e2] at T2
    have N2 := T2.here
    have B3 : Below w.heap.size w w2 := B2.trans (T2.below (Nat.le_refl _))
    clear T2 N1 B2
    generalize (⟨t.a, t.b, y, t.d⟩ : St) = q at N2 hS2
    go_wp2_with fail
    go_loopw [24] (fun i wr => ∃ k : Nat, k ≤ 4 ∧ i = .int .i64 k ∧ wr.heap[w.heap.size]? = some (W4 (rnds k q) [] 199) ∧ Below w.heap.size w wr) (fun i _ => 4 - (intOf i).toNat)
    case atStart => exact ⟨0, Nat.zero_le _, rfl, N2, B3⟩
    case round =>
      obtain ⟨k, hk, rfl, N3, B4⟩ := hrel
      by_cases hlt4 : k < 4
      · go_wp2_with fail
        refine (round_any w.heap.size _ [] _ _ N3).mono ?_
        rintro e w3 ⟨⟨v2, rfl⟩, T3⟩
        go_wp2_with fail
        go_roundw
        case rel => exact ⟨k + 1, by omega, by go_num, T3.here, B4.trans (T3.below (Nat.le_refl _))⟩
        case measure => simp [intOf]; omega
      · obtain rfl : k = 4 := by omega
        obtain ⟨u, hu⟩ : ∃ u, rnds 4 q = u := ⟨_, rfl⟩
        rw [hu] at N3
        have hS3 := Lib.hid (hS2.out u hu)
        clear hS2 hu
        have c0 := W4.c0 N3
        have c1 := W4.c1 N3
        have c2 := W4.c2 N3
        have c3 := W4.c3 N3
        have x1 := xor_spell u.a u.b
        have x2 := xor_spell (u.a ^^^ u.b) u.c
        have x3 := xor_spell (u.a ^^^ u.b ^^^ u.c) u.d
        generalize u.a ^^^ u.b ^^^ u.c ^^^ u.d = y3 at hS3 x3
        generalize u.a ^^^ u.b ^^^ u.c = y2 at x2 x3
        generalize u.a ^^^ u.b = y1 at x1 x2
        go_wp2_with fail
        refine (text_any y3 _).mono ?_
        rintro e w4 ⟨rfl, B5⟩
        go_wp2_with fail
        go_ret
        exact ⟨by rw [hS.out, hS3.out]; rfl, B4.trans (B5.mono B4.size)⟩)

/-- what Sum answers -/
def sumV (key s : List UInt8) : Value := if key.length = 16 then .tuple #[.string (bs (sum key s)), .int .i64 0] else .tuple #[.string (bs []), .int .i64 20]

set_option maxRecDepth 100000 in
theorem dsum_any (key s : ByteArray) (hk : key.size ≤ 281474976710656) (hs : s.size ≤ 281474976710656) (w : World) :
    Calls Tryz.prog 91 #[.string key, .string s] w fun e w' => e = .returned (sumV key.data.toList s.data.toList) ∧ Below w.heap.size w w' := by
  by_cases h16 : key.size = 16
  · have hV := Lib.hid (show sumV key.data.toList s.data.toList = .tuple #[.string (bs (sumOf (puts (new key.data.toList) s.data.toList))), .int .i64 0] by
      unfold sumV; rw [if_pos (by simpa using h16)]; rfl)
    go_enter Tryz.func91, Tryz.ntmps91
    go_wp2_with fail
    refine (new_any key h16 _).mono ?_
    rintro e w1 ⟨b, rfl, hb, H1, B1⟩
    go_wp2_with fail
    refine (write_any b _ s hs _ H1).mono ?_
    rintro e w2 ⟨⟨v, rfl⟩, T2⟩
    go_wp2_with fail
    refine (sum_any b _ _ T2.here).mono ?_
    rintro e w3 ⟨rfl, B3⟩
    go_wp2_with fail
    go_ret2
    have B2 := B1.trans (T2.below hb)
    exact ⟨by rw [hV.out]; rfl, B2.trans (B3.mono B2.size)⟩
  · have hV := Lib.hid (show sumV key.data.toList s.data.toList = .tuple #[.string (bs []), .int .i64 20] by
      unfold sumV; rw [if_neg (by simpa using h16)])
    go_enter Tryz.func91, Tryz.ntmps91
    go_wp2_with fail
    refine (new_wrong key h16 (by omega) _).mono ?_
    rintro e w1 ⟨rfl, rfl⟩
    go_wp2_with fail
    go_ret2
    exact ⟨by rw [hV.out]; rfl, Below.refl _ _⟩
end Go.Proofs.YtmloljjllmmkoaaGreat.DG

