/-
  The reference: its turn and its round.
-/
import Derived.Test.YtgeggiafjojgdaaDoorDigE
import Derived.Deep.CutRange
namespace Go.Proofs.YtgeggiafjojgdaaDoor.DG
open Go.RowKit Go

theorem below_drewN {B : Nat} {a w : World} (h : Below B a w) (n : Nat) : Below B a (w.drewN n) := ⟨h.os, h.tape, h.output, h.size, h.block⟩

theorem rrot_any (x : UInt64) (k : Nat) (w : World) (h0 : 0 < k) (hk : k < 64) :
    Calls Tryd.prog 44 #[.int .u64 x.toNat, .int .i64 k] w fun e w' => e = .returned (.int .u64 (rotl x k).toNat) ∧ ∃ n, w' = w.drewN n := by
  rw [← rot_spell x k h0 hk]
  have hn : (64 - (k : Int)).toNat = 64 - k := by omega
  have hk2 : (0 : Int) ≤ 64 - (k : Int) := by omega
  go_enter Tryd.func44, Tryd.ntmps44
  go_wp2_with fail
  go_quiet (fail)
  go_wp2_with fail
  go_ret
  exact ⟨rfl, _, rfl⟩

theorem rrot_is {x y : UInt64} {k : Nat} (i : Int) (w : World) (hi : i = (k : Int)) (h0 : 0 < k) (hk : k < 64) (h : rotl x k = y) :
    Calls Tryd.prog 44 #[.int .u64 x.toNat, .int .i64 i] w fun e w' => e = .returned (.int .u64 y.toNat) ∧ ∃ n, w' = w.drewN n := by
  rw [← h, hi]; exact rrot_any x k w h0 hk

set_option maxHeartbeats 2000000 in
theorem rround_steps (s : St) (w : World) (a1 r1 b1 a2 c1 r2 d1 a3 r3 d2 c2 r4 b2 c3 : UInt64)
    (e1 : ((s.a.toNat : Int) + (s.b.toNat : Int)) % 18446744073709551616 = (a1.toNat : Int)) (e2 : rotl s.b 13 = r1) (e3 : bits .xor .u64 (r1.toNat : Int) (a1.toNat : Int) = (b1.toNat : Int)) (e4 : rotl a1 32 = a2)
    (e5 : ((s.c.toNat : Int) + (s.d.toNat : Int)) % 18446744073709551616 = (c1.toNat : Int)) (e6 : rotl s.d 16 = r2) (e7 : bits .xor .u64 (r2.toNat : Int) (c1.toNat : Int) = (d1.toNat : Int))
    (e8 : ((a2.toNat : Int) + (d1.toNat : Int)) % 18446744073709551616 = (a3.toNat : Int)) (e9 : rotl d1 21 = r3) (e10 : bits .xor .u64 (r3.toNat : Int) (a3.toNat : Int) = (d2.toNat : Int))
    (e11 : ((c1.toNat : Int) + (b1.toNat : Int)) % 18446744073709551616 = (c2.toNat : Int)) (e12 : rotl b1 17 = r4) (e13 : bits .xor .u64 (r4.toNat : Int) (c2.toNat : Int) = (b2.toNat : Int)) (e14 : rotl c2 32 = c3) :
    Calls Tryd.prog 34 #[.agg #[u64 s.a, u64 s.b, u64 s.c, u64 s.d]] w fun e w' => e = .returned (.agg #[u64 a3, u64 b2, u64 c3, u64 d2]) ∧ Below w.heap.size w w' := by
  show Calls _ _ #[.agg #[.int .u64 (s.a.toNat : Int), .int .u64 (s.b.toNat : Int), .int .u64 (s.c.toNat : Int), .int .u64 (s.d.toNat : Int)]] w fun e w' => e = .returned (.agg #[.int .u64 (a3.toNat : Int), .int .u64 (b2.toNat : Int), .int .u64 (c3.toNat : Int), .int .u64 (d2.toNat : Int)]) ∧ Below w.heap.size w w'
  have u1 : IntKind.u64.wrap ((s.a.toNat : Int) + (s.b.toNat : Int)) = (a1.toNat : Int) := e1
  have u5 : IntKind.u64.wrap ((s.c.toNat : Int) + (s.d.toNat : Int)) = (c1.toNat : Int) := e5
  have u8 : IntKind.u64.wrap ((a2.toNat : Int) + (d1.toNat : Int)) = (a3.toNat : Int) := e8
  have u11 : IntKind.u64.wrap ((c1.toNat : Int) + (b1.toNat : Int)) = (c2.toNat : Int) := e11
  have R1 := fun w => rrot_is (k := 13) 13 w rfl (by omega) (by omega) e2
  have R2 := fun w => rrot_is (k := 32) 32 w rfl (by omega) (by omega) e4
  have R3 := fun w => rrot_is (k := 16) 16 w rfl (by omega) (by omega) e6
  have R4 := fun w => rrot_is (k := 21) 21 w rfl (by omega) (by omega) e9
  have R5 := fun w => rrot_is (k := 17) 17 w rfl (by omega) (by omega) e12
  have R6 := fun w => rrot_is (k := 32) 32 w rfl (by omega) (by omega) e14
  clear e2 e4 e6 e9 e12 e14
  obtain ⟨w0, e0⟩ : ∃ w0, (w.alloc (.cells #[.int .u64 a1.toNat, .int .u64 s.b.toNat, .int .u64 s.c.toNat, .int .u64 s.d.toNat] 54)).alloc (.cells #[.int .u64 0, .int .u64 0, .int .u64 0, .int .u64 0] 54) = w0 := ⟨_, rfl⟩
  have T : Turned w.heap.size (W4 ⟨a1, s.b, s.c, s.d⟩ [] 54) w0 w0 := Turned.refl (by
    rw [← e0, Below.heap_alloc _ _ _ (by simp), heap_alloc_new]; rfl)
  have G0 : w0.heap[w.heap.size + 1]? = some (.cells #[.int .u64 0, .int .u64 0, .int .u64 0, .int .u64 0] 54 (0, 0)) := by
    rw [← e0]; exact heap_alloc2_new _ _ _
  have B0 : Below w.heap.size w w0 := by rw [← e0]; exact ((Below.refl _ w).alloc (Nat.le_refl _) _).alloc (by simp) _
  have HG := Lib.hid G0
  clear G0
  have c0 := W4.c0 T.here
  have c1' := W4.c1 T.here
  have c2' := W4.c2 T.here
  have c3' := W4.c3 T.here
  have fr := W4.fr T.here
  go_enter Tryd.func34, Tryd.ntmps34
  go_upto_region 2 with fail
  go_cut [] from 9 to 15 (fun wx => Turned w.heap.size (W4 ⟨a1, b1, s.c, s.d⟩ [] 54) w0 wx)
  case first =>
    go_region_with (go_at_call 44; refine (R1 _).mono ?_; rintro e w' ⟨rfl, n1, rfl⟩)
    all_goals (go_wp2_with fail; go_meet; exact T.drewN.set1 b1)
  case rest =>
  clear R1 c0 c1' c2' c3' fr T
  have T := hcut
  have c0 := W4.c0 T.here
  have c1' := W4.c1 T.here
  have c2' := W4.c2 T.here
  have c3' := W4.c3 T.here
  have fr := W4.fr T.here
  go_wp2_with fail
  refine (R2 _).mono ?_
  rintro e w' ⟨rfl, n1, rfl⟩
  go_upto_region 5 with fail
  go_cut [] from 26 to 32 (fun wx => Turned w.heap.size (W4 ⟨a2, b1, c1, d1⟩ [] 54) w0 wx)
  case first =>
    go_region_with (go_at_call 44; refine (R3 _).mono ?_; rintro e w' ⟨rfl, n1, rfl⟩)
    all_goals (go_wp2_with fail; go_meet; exact (((T.drewN.set0 a2).set2 c1).drewN.set3 d1))
  case rest =>
  clear R3 c0 c1' c2' c3' fr T
  have T := hcut
  have c0 := W4.c0 T.here
  have c1' := W4.c1 T.here
  have c2' := W4.c2 T.here
  have c3' := W4.c3 T.here
  have fr := W4.fr T.here
  go_upto_region 7 with fail
  go_cut [] from 39 to 45 (fun wx => Turned w.heap.size (W4 ⟨a3, b1, c1, d2⟩ [] 54) w0 wx)
  case first =>
    go_region_with (go_at_call 44; refine (R4 _).mono ?_; rintro e w' ⟨rfl, n1, rfl⟩)
    all_goals (go_wp2_with fail; go_meet; exact ((T.set0 a3).drewN.set3 d2))
  case rest =>
  clear R4 c0 c1' c2' c3' fr T
  have T := hcut
  have c0 := W4.c0 T.here
  have c1' := W4.c1 T.here
  have c2' := W4.c2 T.here
  have c3' := W4.c3 T.here
  have fr := W4.fr T.here
  go_upto_region 9 with fail
  go_cut [] from 52 to 58 (fun wx => Turned w.heap.size (W4 ⟨a3, b2, c2, d2⟩ [] 54) w0 wx)
  case first =>
    go_region_with (go_at_call 44; refine (R5 _).mono ?_; rintro e w' ⟨rfl, n1, rfl⟩)
    all_goals (go_wp2_with fail; go_meet; exact ((T.set2 c2).drewN.set1 b2))
  case rest =>
  clear R5 c0 c1' c2' c3' fr T
  have T := hcut
  have c0 := W4.c0 T.here
  have c1' := W4.c1 T.here
  have c2' := W4.c2 T.here
  have c3' := W4.c3 T.here
  have fr := W4.fr T.here
  have G : wc.heap[w.heap.size + 1]? = _ := (T.block _ (by omega)).trans HG.out
  have g0 : wc.cell? ⟨w.heap.size + 1, 0, none⟩ = some (.int .u64 0) := by simp [World.cell?, G]
  have g1 : wc.cell? ⟨w.heap.size + 1, 1, none⟩ = some (.int .u64 0) := by simp [World.cell?, G]
  have g2 : wc.cell? ⟨w.heap.size + 1, 2, none⟩ = some (.int .u64 0) := by simp [World.cell?, G]
  have g3 : wc.cell? ⟨w.heap.size + 1, 3, none⟩ = some (.int .u64 0) := by simp [World.cell?, G]
  have gr : ∀ i, wc.frozen? ⟨w.heap.size + 1, i, none⟩ = false := fun i => by simp [World.frozen?, G]
  have BB := Lib.hid (B0.trans (T.below (Nat.le_refl _)))
  clear G HG T hcut B0
  go_wp2_with fail
  refine (R6 _).mono ?_
  rintro e w' ⟨rfl, n1, rfl⟩
  go_wp2_with fail
  refine bodyPost_ret ?_ rfl ⟨rfl, ?_⟩
  · rw [results_cell rfl]
    go_simp
  · repeat' (first | exact below_drewN BB.out _ | refine Below.setCell ?_ (by simp) _)

theorem rround_any (s : St) (w : World) :
    Calls Tryd.prog 34 #[.agg #[u64 s.a, u64 s.b, u64 s.c, u64 s.d]] w fun e w' => e = .returned (.agg #[u64 (rnd s).a, u64 (rnd s).b, u64 (rnd s).c, u64 (rnd s).d]) ∧ Below w.heap.size w w' :=
  rround_steps s w _ _ _ _ _ _ _ _ _ _ _ _ _ _ (add_spell _ _) rfl (xor_spell _ _) rfl (add_spell _ _) rfl (xor_spell _ _) (add_spell _ _) rfl (xor_spell _ _) (add_spell _ _) rfl (xor_spell _ _) rfl
end Go.Proofs.YtgeggiafjojgdaaDoor.DG

