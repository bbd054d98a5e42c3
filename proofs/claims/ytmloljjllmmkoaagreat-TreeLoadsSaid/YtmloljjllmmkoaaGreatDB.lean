/-
  DigG / DigH / DigI0 / DigM.
-/
import Derived.Test.YtmloljjllmmkoaaGreatDA
import Derived.Deep.CutRange
import Derived.IntWalk
import Derived.Laws.MakeOwn
import Derived.Laws.OwnMore
import Derived.OwnWalk
import Derived.Maps.AppendAt
namespace Go.Proofs.YtmloljjllmmkoaaGreat.DG
open Go.RowKit Go

theorem below_drewN {B : Nat} {a w : World} (h : Below B a w) (n : Nat) : Below B a (w.drewN n) := ⟨h.os, h.tape, h.output, h.size, h.block⟩

theorem rrot_any (x : UInt64) (k : Nat) (w : World) (h0 : 0 < k) (hk : k < 64) :
    Calls Tryz.prog 135 #[.int .u64 x.toNat, .int .i64 k] w fun e w' => e = .returned (.int .u64 (rotl x k).toNat) ∧ ∃ n, w' = w.drewN n := by
  rw [← rot_spell x k h0 hk]
  have hn : (64 - (k : Int)).toNat = 64 - k := by omega
  have hk2 : (0 : Int) ≤ 64 - (k : Int) := by omega
  go_enter Tryz.func135, Tryz.ntmps135
  go_wp2_with fail
  go_quiet (fail)
  go_wp2_with fail
  go_ret
  exact ⟨rfl, _, rfl⟩

theorem rrot_is {x y : UInt64} {k : Nat} (i : Int) (w : World) (hi : i = (k : Int)) (h0 : 0 < k) (hk : k < 64) (h : rotl x k = y) :
    Calls Tryz.prog 135 #[.int .u64 x.toNat, .int .i64 i] w fun e w' => e = .returned (.int .u64 y.toNat) ∧ ∃ n, w' = w.drewN n := by
  rw [← h, hi]; exact rrot_any x k w h0 hk

set_option maxHeartbeats 2000000 in
theorem rround_steps (s : St) (w : World) (a1 r1 b1 a2 c1 r2 d1 a3 r3 d2 c2 r4 b2 c3 : UInt64)
    (e1 : ((s.a.toNat : Int) + (s.b.toNat : Int)) % 18446744073709551616 = (a1.toNat : Int)) (e2 : rotl s.b 13 = r1) (e3 : bits .xor .u64 (r1.toNat : Int) (a1.toNat : Int) = (b1.toNat : Int)) (e4 : rotl a1 32 = a2)
    (e5 : ((s.c.toNat : Int) + (s.d.toNat : Int)) % 18446744073709551616 = (c1.toNat : Int)) (e6 : rotl s.d 16 = r2) (e7 : bits .xor .u64 (r2.toNat : Int) (c1.toNat : Int) = (d1.toNat : Int))
    (e8 : ((a2.toNat : Int) + (d1.toNat : Int)) % 18446744073709551616 = (a3.toNat : Int)) (e9 : rotl d1 21 = r3) (e10 : bits .xor .u64 (r3.toNat : Int) (a3.toNat : Int) = (d2.toNat : Int))
    (e11 : ((c1.toNat : Int) + (b1.toNat : Int)) % 18446744073709551616 = (c2.toNat : Int)) (e12 : rotl b1 17 = r4) (e13 : bits .xor .u64 (r4.toNat : Int) (c2.toNat : Int) = (b2.toNat : Int)) (e14 : rotl c2 32 = c3) :
    Calls Tryz.prog 121 #[.agg #[u64 s.a, u64 s.b, u64 s.c, u64 s.d]] w fun e w' => e = .returned (.agg #[u64 a3, u64 b2, u64 c3, u64 d2]) ∧ Below w.heap.size w w' := by
  show Calls _ _ #[.agg #[.int .u64 (s.a.toNat : Int), .int .u64 (s.b.toNat : Int), .int .u64 (s.c.toNat : Int), .int .u64 (s.d.toNat : Int)]] w fun e w' => e = .returned (.agg #[.int .u64 (a3.toNat : Int), .int .u64 (b2.toNat : Int), .int .u64 (c3.toNat : Int), .int .u64 (d2.toNat : Int)]) ∧ Below w.heap.size w w'
  have u1 : IntKind.u64.wrap ((s.a.toNat : Int) + (s.b.toNat : Int)) = (a1.toNat : Int) := e1
  have u5 : IntKind.u64.wrap ((s.c.toNat : Int) + (s.d.toNat : Int)) = (c1.toNat : Int) := e5
  have u8 : IntKind.u64.wrap ((a2.toNat : Int) + (d1.toNat : Int)) = (a3.toNat : Int) := e8
  have u11 : IntKind.u64.wrap ((c1.toNat : Int) + (b1.toNat : Int)) = (c2.toNat : Int) := e11
  have R1 := fun w => rrot_is (k := 13) 13 w rfl (by omega) (by omega) e2
  have R2 := fun w => rrot_is (k := 32) 32 w rfl (by omega) (by omega) e4
  have R3 := fun w => rrot_is (k := 16) 16 w rfl (by omega) (by omega) e6
  have R4 := fun w => rrot_is (k := 21) 21 w rfl (by omega) (by omega) e9
  have R5 := fun w => rrot_is (k := 17) 17 w rfl (by omega) (by omega) e12
  have R6 := fun w => rrot_is (k := 32) 32 w rfl (by omega) (by omega) e14
  clear e2 e4 e6 e9 e12 e14
  obtain ⟨w0, e0⟩ : ∃ w0, (w.alloc (.cells #[.int .u64 a1.toNat, .int .u64 s.b.toNat, .int .u64 s.c.toNat, .int .u64 s.d.toNat] 188)).alloc (.cells #[.int .u64 0, .int .u64 0, .int .u64 0, .int .u64 0] 188) = w0 := ⟨_, rfl⟩
  have T : Turned w.heap.size (W4 ⟨a1, s.b, s.c, s.d⟩ [] 188) w0 w0 := Turned.refl (by
    rw [← e0, Below.heap_alloc _ _ _ (by simp), heap_alloc_new]; rfl)
  have G0 : w0.heap[w.heap.size + 1]? = some (.cells #[.int .u64 0, .int .u64 0, .int .u64 0, .int .u64 0] 188 (0, 0)) := by
    rw [← e0]; exact heap_alloc2_new _ _ _
  have B0 : Below w.heap.size w w0 := by rw [← e0]; exact ((Below.refl _ w).alloc (Nat.le_refl _) _).alloc (by simp) _
  have HG := Lib.hid G0
  clear G0
  have c0 := W4.c0 T.here
  have c1' := W4.c1 T.here
  have c2' := W4.c2 T.here
  have c3' := W4.c3 T.here
  have fr := W4.fr T.here
  go_enter Tryz.func121, Tryz.ntmps121
  go_upto_region 2 with fail
  go_cut [] from 9 to 15 (fun wx => Turned w.heap.size (W4 ⟨a1, b1, s.c, s.d⟩ [] 188) w0 wx)
  case first =>
    go_region_with (go_at_call 135; refine (R1 _).mono ?_; rintro e w' ⟨rfl, n1, rfl⟩)
    all_goals (go_wp2_with fail; go_meet; exact T.drewN.set1 b1)
  case rest =>
  clear R1 c0 c1' c2' c3' fr T
  have T := hcut
  have c0 := W4.c0 T.here
  have c1' := W4.c1 T.here
  have c2' := W4.c2 T.here
  have c3' := W4.c3 T.here
  have fr := W4.fr T.here
  go_wp2_with fail
  refine (R2 _).mono ?_
  rintro e w' ⟨rfl, n1, rfl⟩
  go_upto_region 5 with fail
  go_cut [] from 26 to 32 (fun wx => Turned w.heap.size (W4 ⟨a2, b1, c1, d1⟩ [] 188) w0 wx)
  case first =>
    go_region_with (go_at_call 135; refine (R3 _).mono ?_; rintro e w' ⟨rfl, n1, rfl⟩)
    all_goals (go_wp2_with fail; go_meet; exact (((T.drewN.set0 a2).set2 c1).drewN.set3 d1))
  case rest =>
  clear R3 c0 c1' c2' c3' fr T
  have T := hcut
  have c0 := W4.c0 T.here
  have c1' := W4.c1 T.here
  have c2' := W4.c2 T.here
  have c3' := W4.c3 T.here
  have fr := W4.fr T.here
  go_upto_region 7 with fail
  go_cut [] from 39 to 45 (fun wx => Turned w.heap.size (W4 ⟨a3, b1, c1, d2⟩ [] 188) w0 wx)
  case first =>
    go_region_with (go_at_call 135; refine (R4 _).mono ?_; rintro e w' ⟨rfl, n1, rfl⟩)
    all_goals (go_wp2_with fail; go_meet; exact ((T.set0 a3).drewN.set3 d2))
  case rest =>
  clear R4 c0 c1' c2' c3' fr T
  have T := hcut
  have c0 := W4.c0 T.here
  have c1' := W4.c1 T.here
  have c2' := W4.c2 T.here
  have c3' := W4.c3 T.here
  have fr := W4.fr T.here
  go_upto_region 9 with fail
  go_cut [] from 52 to 58 (fun wx => Turned w.heap.size (W4 ⟨a3, b2, c2, d2⟩ [] 188) w0 wx)
  case first =>
    go_region_with (go_at_call 135; refine (R5 _).mono ?_; rintro e w' ⟨rfl, n1, rfl⟩)
    all_goals (go_wp2_with fail; go_meet; exact ((T.set2 c2).drewN.set1 b2))
  case rest =>
  clear R5 c0 c1' c2' c3' fr T
  have T := hcut
  have c0 := W4.c0 T.here
  have c1' := W4.c1 T.here
  have c2' := W4.c2 T.here
  have c3' := W4.c3 T.here
  have fr := W4.fr T.here
  have G : wc.heap[w.heap.size + 1]? = _ := (T.block _ (by omega)).trans HG.out
  have g0 : wc.cell? ⟨w.heap.size + 1, 0, none⟩ = some (.int .u64 0) := by simp [World.cell?, G]
  have g1 : wc.cell? ⟨w.heap.size + 1, 1, none⟩ = some (.int .u64 0) := by simp [World.cell?, G]
  have g2 : wc.cell? ⟨w.heap.size + 1, 2, none⟩ = some (.int .u64 0) := by simp [World.cell?, G]
  have g3 : wc.cell? ⟨w.heap.size + 1, 3, none⟩ = some (.int .u64 0) := by simp [World.cell?, G]
  have gr : ∀ i, wc.frozen? ⟨w.heap.size + 1, i, none⟩ = false := fun i => by simp [World.frozen?, G]
  have BB := Lib.hid (B0.trans (T.below (Nat.le_refl _)))
  clear G HG T hcut B0
  go_wp2_with fail
  refine (R6 _).mono ?_
  rintro e w' ⟨rfl, n1, rfl⟩
  go_wp2_with fail
  refine bodyPost_ret ?_ rfl ⟨rfl, ?_⟩
  · rw [results_cell rfl]
    go_simp
  · repeat' (first | exact below_drewN BB.out _ | refine Below.setCell ?_ (by simp) _)

theorem rround_any (s : St) (w : World) :
    Calls Tryz.prog 121 #[.agg #[u64 s.a, u64 s.b, u64 s.c, u64 s.d]] w fun e w' => e = .returned (.agg #[u64 (rnd s).a, u64 (rnd s).b, u64 (rnd s).c, u64 (rnd s).d]) ∧ Below w.heap.size w w' :=
  rround_steps s w _ _ _ _ _ _ _ _ _ _ _ _ _ _ (add_spell _ _) rfl (xor_spell _ _) rfl (add_spell _ _) rfl (xor_spell _ _) (add_spell _ _) rfl (xor_spell _ _) (add_spell _ _) rfl (xor_spell _ _) rfl
end Go.Proofs.YtmloljjllmmkoaaGreat.DG

namespace Go.Proofs.YtmloljjllmmkoaaGreat.DG
open Go.RowKit Go

theorem wrap_small {n : Nat} (h : n < 18446744073709551616) : IntKind.u64.wrap (n : Int) = (n : Int) := by
  show (n : Int) % 18446744073709551616 = _
  omega

set_option maxRecDepth 100000 in
theorem rword_any (s : ByteArray) (hs : s.size = 8) (w : World) :
    Calls Tryz.prog 120 #[.string s] w fun e w' => e = .returned (.int .u64 (word s.data.toList).toNat) ∧ w = w' := by
  have hl : s.data.toList.length = 8 := by simpa using hs
  rw [word_toNat (by omega)]
  go_enter Tryz.func120, Tryz.ntmps120
  go_wp2
  go_loop [3, 4] (fun a i => ∃ k : Nat, k ≤ 8 ∧ i = .int .i64 ((k : Int) - 1) ∧ a = .int .u64 (num (s.data.toList.drop k))) (fun _ i => ((intOf i) + 1).toNat)
  case atStart => exact ⟨8, Nat.le_refl _, rfl, by rw [List.drop_of_length_le (by omega)]; rfl⟩
  case round =>
    obtain ⟨k, hk, rfl, rfl⟩ := hrel
    cases k with
    | zero =>
      have e0 : ((0 : Nat) : Int) - 1 = -1 := rfl
      rw [e0, List.drop_zero]
      go_wp2
      go_ret
      exact ⟨rfl, rfl⟩
    | succ j =>
      have hj : j < s.data.toList.length := by omega
      have e0 : ((j + 1 : Nat) : Int) - 1 = (j : Int) := by omega
      rw [e0]
      have hlt : (j : Int) < (s.size : Int) := by omega
      have hlt' : j < s.size := by omega
      have hN : num (s.data.toList.drop j) = (s[j]).toNat + 256 * num (s.data.toList.drop (j + 1)) := by
        rw [List.drop_eq_getElem_cons hj]; rfl
      have hb : num (s.data.toList.drop j) < 18446744073709551616 := num_lt64 (by rw [List.length_drop]; omega)
      generalize num (s.data.toList.drop (j + 1)) = N at hN ⊢
      generalize hM : num (s.data.toList.drop j) = M at hN hb
      have hx := u64_of_u8 s[j]
      generalize hX : s[j] = X at hN hx
      have e1 : IntKind.u64.wrap (256 * (N : Int)) = ((256 * N : Nat) : Int) := by
        rw [show (256 * (N : Int)) = ((256 * N : Nat) : Int) by omega]; exact wrap_small (by omega)
      have e2 : IntKind.u64.wrap (((256 * N : Nat) : Int) + (X.toNat : Int)) = (M : Int) := by
        rw [show (((256 * N : Nat) : Int) + (X.toNat : Int)) = ((M : Nat) : Int) by omega]; exact wrap_small hb
      have e3 : (256 * (N : Int)) % 18446744073709551616 = ((256 * N : Nat) : Int) := e1
      generalize 256 * N = L at e1 e2 e3
      have HM := Lib.hid hM
      clear hM hN hb
      go_wp2
      go_round
      case rel => exact ⟨j, by omega, by go_num, by rw [HM.out]⟩
      case measure => simp [intOf]
end Go.Proofs.YtmloljjllmmkoaaGreat.DG

namespace Go.Proofs.YtmloljjllmmkoaaGreat.DG
open Go.RowKit Go

theorem row_cells {W : World} {base : Nat} {e : TypeId} {v : Value} {n : Nat} {xs : List Value} (h : W.ownsRow base e 1 v n xs) (hv : v ≠ .slice none 0 0) :
    ∃ g cap, v = .slice (some ⟨g, 0, none⟩) n cap ∧ base ≤ g ∧ g < W.heap.size ∧ n ≤ cap ∧ cap ≤ maxLen ∧ ∀ (i : Nat) u, xs[i]? = some u → W.cell? ⟨g, i, none⟩ = some u := by
  rcases h.2 with ⟨e, _⟩ | ⟨g, cap, cur, h1, h2, h3, h4, h5, h6, h7⟩
  · exact absurd e hv
  · refine ⟨g, cap, h1, h2, (Array.getElem?_eq_some_iff.1 h3).1, h4, h5, fun i u hu => ?_⟩
    have hi : i < n := by
      have := (List.getElem?_eq_some_iff.1 hu).1
      have := h.1
      omega
    rw [← h7, List.getElem?_take_of_lt (by omega)] at hu
    simp only [World.cell?, h3]
    simpa using hu

theorem info5 : (Tryz.prog.info? 5).map (fun i => (i.zero, i.size, i.bytes)) = some (some (.int .u8 0), 1, 1) := by kernel_rfl
/-- bytes in a block, as a text -/
theorem conv_block (W : World) (b k : Nat) (C : Array Value) (t : TypeId) (l : List UInt8) (h : W.heap[b]? = some (.cells C t (0, 0))) (hk : l.length = k) (hC : C.toList = l.map fun x : UInt8 => .int .u8 (x.toNat : Int)) :
    (convert 85 9 (.slice (some ⟨b, 0, none⟩) k k)).run Tryz.prog W = .ok (.string (bs l)) W := by
  subst hk
  refine run_convert_bytes_back W 85 9 5 ⟨b, 0, none⟩ l.length l Tryz.underlying85 Tryz.underlying5 Tryz.underlying9 (fun j hj => ?_)
  rw [Addr.add_lit, Nat.zero_add]
  have e : C[j]? = some (.int .u8 (l[j].toNat : Int)) := by
    rw [← Array.getElem?_toList, hC, List.getElem?_map, List.getElem?_eq_getElem hj]; rfl
  simp [World.cell?, h, e]
theorem made_run (W : World) (k : Nat) (h : k ≤ 100000) : (Instr.makeSlice 85 (.int .i64 (k : Int)) (.int .i64 (k : Int))).run Tryz.prog W = .ok (.slice (some ⟨W.heap.size, 0, none⟩) k k) (W.alloc (.cells (madeCells #[.int .u8 0] k) 5)) := by
  obtain ⟨i0, hi, hz0, hz1, hz2⟩ := info_parts info5
  have hmk := run_makeSlice (P := Tryz.prog) (w := W) 85 5 i0 (.int .u8 0) Tryz.underlying85 hi hz0 .i64 .i64 (k : Int) (k : Int) (by omega) (by omega) (by rw [hz1]; omega) (by rw [hz2]; omega) (by omega)
  rwa [hz1, Nat.mul_one, Int.toNat_natCast, show Value.cells (.int .u8 0) = #[.int .u8 0] from rfl] at hmk
theorem made_list (k : Nat) : (madeCells #[.int .u8 0] k).toList = (List.replicate k (0 : UInt8)).map fun x : UInt8 => .int .u8 (x.toNat : Int) := by
  rw [toList_madeCells_one]; simp
theorem pad_spell (n : Nat) (h : n ≤ 140737488351232) : IntKind.i64.wrap (7 - (n : Int).tmod 8) = ((7 - n % 8 : Nat) : Int) := by
  rw [Int.tmod_eq_emod_of_nonneg (by omega)]
  have h1 : -9223372036854775808 ≤ 7 - (n : Int) % 8 := by omega
  have h2 : 7 - (n : Int) % 8 ≤ 9223372036854775807 := by omega
  exact (IntWalk.i64_in _ ⟨h1, h2⟩).trans (by omega)


/-! ### Words of a text, one behind the other -/
def eat (s : St) (l : List UInt8) : Nat → St
  | 0 => s
  | k + 1 => take (eat s l k) (word ((l.drop (8 * k)).take 8))
theorem take_is (s : St) (m x : UInt64) (hx : s.d ^^^ m = x) (t : St) (ht : rnd (rnd ⟨s.a, s.b, s.c, x⟩) = t) : take s m = ⟨t.a ^^^ m, t.b, t.c, t.d⟩ := by
  subst hx; subst ht; rfl
theorem rround_raw (s : St) (w : World) :
    Calls Tryz.prog 121 #[.agg #[.int .u64 (s.a.toNat : Int), .int .u64 (s.b.toNat : Int), .int .u64 (s.c.toNat : Int), .int .u64 (s.d.toNat : Int)]] w fun e w' => e = .returned (.agg #[.int .u64 ((rnd s).a.toNat : Int), .int .u64 ((rnd s).b.toNat : Int), .int .u64 ((rnd s).c.toNat : Int), .int .u64 ((rnd s).d.toNat : Int)]) ∧ Below w.heap.size w w' := rround_any s w

/-! ### A word's bytes, one behind the other -/
def u8s (l : List UInt8) : List Value := l.map fun b => Value.int .u8 b.toNat
theorem text_step (x : UInt64) (k : Nat) (h : k < 8) : ∃ y : UInt8, (text x).take (k + 1) = (text x).take k ++ [y] ∧ x.toNat / 2 ^ (8 * k) % 256 = y.toNat ∧ x.toNat / 2 ^ (8 * k) / 256 = x.toNat / 2 ^ (8 * (k + 1)) := by
  refine ⟨(x >>> UInt64.ofNat (8 * k)).toUInt8, ?_, ?_, ?_⟩
  · match k, h with
    | 0, _ => rfl
    | 1, _ => rfl
    | 2, _ => rfl
    | 3, _ => rfl
    | 4, _ => rfl
    | 5, _ => rfl
    | 6, _ => rfl
    | 7, _ => rfl
    | n + 8, h => omega
  · have h1 := shr_spell x (8 * k) (by omega)
    have h2 : (x >>> UInt64.ofNat (8 * k)).toNat = x.toNat / 2 ^ (8 * k) := by
      rw [UInt64.toNat_shiftRight, k64 _ (by omega), Nat.shiftRight_eq_div_pow]
    rw [UInt64.toNat_toUInt8, h2]
  · rw [Nat.div_div_eq_div_mul, show 8 * (k + 1) = 8 * k + 8 by omega, Nat.pow_add]
end Go.Proofs.YtmloljjllmmkoaaGreat.DG

namespace Go.Proofs.YtmloljjllmmkoaaGreat.DG
open Go.RowKit Go

theorem eat_append (s : St) (l m : List UInt8) (k : Nat) (h : 8 * k ≤ l.length) : eat s (l ++ m) k = eat s l k := by
  induction k with
  | zero => rfl
  | succ k ih =>
    simp only [eat]
    rw [ih (by omega), List.drop_append_of_le_length (by omega), List.take_append_of_le_length (by rw [List.length_drop]; omega)]

theorem word_or (l : List UInt8) (x : UInt8) (h : l.length < 8) : word l ||| (x.toUInt64 <<< UInt64.ofNat (8 * l.length)) = word (l ++ [x]) := by
  apply UInt64.toNat_inj.1
  rw [UInt64.toNat_or, word_toNat (by omega), word_toNat (by simp; omega), ← num_or l x h]
  congr 1
  rw [UInt64.toNat_shiftLeft, k64 _ (by omega), Nat.shiftLeft_eq, UInt8.toNat_toUInt64]
  exact Nat.mod_eq_of_lt (shl_lt x l.length h)

theorem ofNat_size (n : Nat) : (UInt8.ofNat n).toNat = n % 256 := UInt8.toNat_ofNat'
theorem size_succ (n : Nat) : UInt8.ofNat n + 1 = UInt8.ofNat (n + 1) := by
  apply UInt8.toNat_inj.1
  rw [UInt8.toNat_add, ofNat_size, ofNat_size, show (1 : UInt8).toNat = 1 from rfl]; omega

theorem puts_step (s : St) (l : List UInt8) (x : UInt8) (ih : puts ⟨s, 0, 0⟩ l = ⟨eat s l (l.length / 8), word (l.drop (8 * (l.length / 8))), UInt8.ofNat l.length⟩) :
    puts ⟨s, 0, 0⟩ (l ++ [x]) = ⟨eat s (l ++ [x]) ((l ++ [x]).length / 8), word ((l ++ [x]).drop (8 * ((l ++ [x]).length / 8))), UInt8.ofNat (l ++ [x]).length⟩ := by
  have hlen : (l ++ [x]).length = l.length + 1 := by simp
  have hr : (l.drop (8 * (l.length / 8))).length = l.length % 8 := by rw [List.length_drop]; omega
  have hp : word (l.drop (8 * (l.length / 8))) ||| (x.toUInt64 <<< UInt64.ofNat (8 * ((UInt8.ofNat l.length).toNat % 8))) = word (l.drop (8 * (l.length / 8)) ++ [x]) := by
    rw [ofNat_size, show l.length % 256 % 8 = l.length % 8 by omega, ← hr]
    exact word_or _ _ (by rw [hr]; omega)
  have hd : l.drop (8 * (l.length / 8)) ++ [x] = (l ++ [x]).drop (8 * (l.length / 8)) := by
    rw [List.drop_append_of_le_length (by omega)]
  rw [puts_append, ih]
  show put _ x = _
  rw [hlen, ← size_succ]
  simp only [put]
  rw [hp, hd]
  by_cases h8 : (UInt8.ofNat l.length + 1).toNat % 8 = 0
  · rw [if_pos h8]
    rw [size_succ, ofNat_size] at h8
    have hq : (l.length + 1) / 8 = l.length / 8 + 1 := by omega
    rw [hq]
    have e1 : eat s (l ++ [x]) (l.length / 8 + 1) = take (eat s l (l.length / 8)) (word ((l ++ [x]).drop (8 * (l.length / 8)))) := by
      simp only [eat]
      rw [eat_append s l [x] _ (by omega), List.take_of_length_le (by rw [List.length_drop, hlen]; omega)]
    have e2 : word ((l ++ [x]).drop (8 * (l.length / 8 + 1))) = 0 := by
      rw [List.drop_of_length_le (by rw [hlen]; omega)]; rfl
    rw [e1, e2]
  · rw [if_neg h8]
    rw [size_succ, ofNat_size] at h8
    have hq : (l.length + 1) / 8 = l.length / 8 := by omega
    rw [hq, eat_append s l [x] _ (by omega)]

theorem puts_len (s : St) : ∀ (n : Nat) (l : List UInt8), l.length = n → puts ⟨s, 0, 0⟩ l = ⟨eat s l (l.length / 8), word (l.drop (8 * (l.length / 8))), UInt8.ofNat l.length⟩
  | 0, l, h => by
    obtain rfl := List.eq_nil_of_length_eq_zero h
    rfl
  | n + 1, l, h => by
    have hne : l ≠ [] := fun e => by rw [e] at h; cases h
    have e := List.dropLast_concat_getLast hne
    have hd : l.dropLast.length = n := by rw [List.length_dropLast]; omega
    have := puts_step s l.dropLast (l.getLast hne) (puts_len s n l.dropLast hd)
    rwa [e] at this

/-- what stands behind any bytes -/
theorem puts_is (s : St) (l : List UInt8) : puts ⟨s, 0, 0⟩ l = ⟨eat s l (l.length / 8), word (l.drop (8 * (l.length / 8))), UInt8.ofNat l.length⟩ := puts_len s _ l rfl

theorem num_zeros (n : Nat) : num (List.replicate n 0) = 0 := by
  induction n with
  | zero => rfl
  | succ n ih => simp only [List.replicate_succ, num, ih]; rfl

/-- the last word: the rest, noughts, the length's byte -/
theorem last_word (r : List UInt8) (z : Nat) (c : UInt8) (h : r.length + z = 7) : word r ||| (c.toUInt64 <<< UInt64.ofNat 56) = word (r ++ List.replicate z 0 ++ [c]) := by
  have e : word r = word (r ++ List.replicate z 0) := by
    unfold word; rw [num_append, num_zeros]; rfl
  have := word_or (r ++ List.replicate z 0) c (by simp; omega)
  rw [e]
  rw [show (r ++ List.replicate z (0 : UInt8)).length = 7 by simp; omega, show 8 * 7 = 56 from rfl] at this
  exact this

/-- THE SUM, BYTE BY BYTE, IS THE SUM, WORD BY WORD. -/
theorem sum_words (key l : List UInt8) (z : Nat) (hz : 7 - l.length % 8 = z) :
    sum key l = close (eat (start (word (key.take 8)) (word (key.drop 8))) (l ++ List.replicate z 0 ++ [UInt8.ofNat l.length]) (l.length / 8 + 1)) := by
  unfold sum new
  rw [puts_is]
  unfold sumOf
  simp only
  rw [last_word _ z _ (by rw [List.length_drop]; omega)]
  generalize start (word (key.take 8)) (word (key.drop 8)) = s
  have h : eat s (l ++ List.replicate z 0 ++ [UInt8.ofNat l.length]) (l.length / 8 + 1) = take (eat s l (l.length / 8)) (word (l.drop (8 * (l.length / 8)) ++ List.replicate z 0 ++ [UInt8.ofNat l.length])) := by
    simp only [eat]
    rw [List.append_assoc l, eat_append s l _ _ (by omega), List.drop_append_of_le_length (by omega), List.take_of_length_le (by simp; omega), ← List.append_assoc]
  rw [h]
end Go.Proofs.YtmloljjllmmkoaaGreat.DG

