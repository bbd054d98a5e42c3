/-
  The reference: what its sum makes on the way.
-/
import Derived.Test.YtgeggiafjojgdaaDoorDigH
import Derived.IntWalk
import Derived.Laws.MakeOwn
import Derived.Laws.OwnMore
import Derived.OwnWalk
import Derived.Maps.AppendAt
namespace Go.Proofs.YtgeggiafjojgdaaDoor.DG
open Go.RowKit Go

theorem row_cells {W : World} {base : Nat} {e : TypeId} {v : Value} {n : Nat} {xs : List Value} (h : W.ownsRow base e 1 v n xs) (hv : v ≠ .slice none 0 0) :
    ∃ g cap, v = .slice (some ⟨g, 0, none⟩) n cap ∧ base ≤ g ∧ g < W.heap.size ∧ n ≤ cap ∧ cap ≤ maxLen ∧ ∀ (i : Nat) u, xs[i]? = some u → W.cell? ⟨g, i, none⟩ = some u := by
  rcases h.2 with ⟨e, _⟩ | ⟨g, cap, cur, h1, h2, h3, h4, h5, h6, h7⟩
  · exact absurd e hv
  · refine ⟨g, cap, h1, h2, (Array.getElem?_eq_some_iff.1 h3).1, h4, h5, fun i u hu => ?_⟩
    have hi : i < n := by
      have := (List.getElem?_eq_some_iff.1 hu).1
      have := h.1
      omega
    rw [← h7, List.getElem?_take_of_lt (by omega)] at hu
    simp only [World.cell?, h3]
    simpa using hu

theorem info5 : (Tryd.prog.info? 5).map (fun i => (i.zero, i.size, i.bytes)) = some (some (.int .u8 0), 1, 1) := by kernel_rfl
/-- bytes in a block, as a text -/
theorem conv_block (W : World) (b k : Nat) (C : Array Value) (t : TypeId) (l : List UInt8) (h : W.heap[b]? = some (.cells C t (0, 0))) (hk : l.length = k) (hC : C.toList = l.map fun x : UInt8 => .int .u8 (x.toNat : Int)) :
    (convert 33 9 (.slice (some ⟨b, 0, none⟩) k k)).run Tryd.prog W = .ok (.string (bs l)) W := by
  subst hk
  refine run_convert_bytes_back W 33 9 5 ⟨b, 0, none⟩ l.length l Tryd.underlying33 Tryd.underlying5 Tryd.underlying9 (fun j hj => ?_)
  rw [Addr.add_lit, Nat.zero_add]
  have e : C[j]? = some (.int .u8 (l[j].toNat : Int)) := by
    rw [← Array.getElem?_toList, hC, List.getElem?_map, List.getElem?_eq_getElem hj]; rfl
  simp [World.cell?, h, e]
theorem made_run (W : World) (k : Nat) (h : k ≤ 100000) : (Instr.makeSlice 33 (.int .i64 (k : Int)) (.int .i64 (k : Int))).run Tryd.prog W = .ok (.slice (some ⟨W.heap.size, 0, none⟩) k k) (W.alloc (.cells (madeCells #[.int .u8 0] k) 5)) := by
  obtain ⟨i0, hi, hz0, hz1, hz2⟩ := info_parts info5
  have hmk := run_makeSlice (P := Tryd.prog) (w := W) 33 5 i0 (.int .u8 0) Tryd.underlying33 hi hz0 .i64 .i64 (k : Int) (k : Int) (by omega) (by omega) (by rw [hz1]; omega) (by rw [hz2]; omega) (by omega)
  rwa [hz1, Nat.mul_one, Int.toNat_natCast, show Value.cells (.int .u8 0) = #[.int .u8 0] from rfl] at hmk
theorem made_list (k : Nat) : (madeCells #[.int .u8 0] k).toList = (List.replicate k (0 : UInt8)).map fun x : UInt8 => .int .u8 (x.toNat : Int) := by
  rw [toList_madeCells_one]; simp
theorem pad_spell (n : Nat) (h : n ≤ 140737488351232) : IntKind.i64.wrap (7 - (n : Int).tmod 8) = ((7 - n % 8 : Nat) : Int) := by
  rw [Int.tmod_eq_emod_of_nonneg (by omega)]
  have h1 : -9223372036854775808 ≤ 7 - (n : Int) % 8 := by omega
  have h2 : 7 - (n : Int) % 8 ≤ 9223372036854775807 := by omega
  exact (IntWalk.i64_in _ ⟨h1, h2⟩).trans (by omega)


/-! ### Words of a text, one behind the other -/
def eat (s : St) (l : List UInt8) : Nat → St
  | 0 => s
  | k + 1 => take (eat s l k) (word ((l.drop (8 * k)).take 8))
theorem take_is (s : St) (m x : UInt64) (hx : s.d ^^^ m = x) (t : St) (ht : rnd (rnd ⟨s.a, s.b, s.c, x⟩) = t) : take s m = ⟨t.a ^^^ m, t.b, t.c, t.d⟩ := by
  subst hx; subst ht; rfl
theorem rround_raw (s : St) (w : World) :
    Calls Tryd.prog 34 #[.agg #[.int .u64 (s.a.toNat : Int), .int .u64 (s.b.toNat : Int), .int .u64 (s.c.toNat : Int), .int .u64 (s.d.toNat : Int)]] w fun e w' => e = .returned (.agg #[.int .u64 ((rnd s).a.toNat : Int), .int .u64 ((rnd s).b.toNat : Int), .int .u64 ((rnd s).c.toNat : Int), .int .u64 ((rnd s).d.toNat : Int)]) ∧ Below w.heap.size w w' := rround_any s w

/-! ### A word's bytes, one behind the other -/
def u8s (l : List UInt8) : List Value := l.map fun b => Value.int .u8 b.toNat
theorem text_step (x : UInt64) (k : Nat) (h : k < 8) : ∃ y : UInt8, (text x).take (k + 1) = (text x).take k ++ [y] ∧ x.toNat / 2 ^ (8 * k) % 256 = y.toNat ∧ x.toNat / 2 ^ (8 * k) / 256 = x.toNat / 2 ^ (8 * (k + 1)) := by
  refine ⟨(x >>> UInt64.ofNat (8 * k)).toUInt8, ?_, ?_, ?_⟩
  · match k, h with
    | 0, _ => rfl
    | 1, _ => rfl
    | 2, _ => rfl
    | 3, _ => rfl
    | 4, _ => rfl
    | 5, _ => rfl
    | 6, _ => rfl
    | 7, _ => rfl
    | n + 8, h => omega
  · have h1 := shr_spell x (8 * k) (by omega)
    have h2 : (x >>> UInt64.ofNat (8 * k)).toNat = x.toNat / 2 ^ (8 * k) := by
      rw [UInt64.toNat_shiftRight, k64 _ (by omega), Nat.shiftRight_eq_div_pow]
    rw [UInt64.toNat_toUInt8, h2]
  · rw [Nat.div_div_eq_div_mul, show 8 * (k + 1) = 8 * k + 8 by omega, Nat.pow_add]
end Go.Proofs.YtgeggiafjojgdaaDoor.DG

