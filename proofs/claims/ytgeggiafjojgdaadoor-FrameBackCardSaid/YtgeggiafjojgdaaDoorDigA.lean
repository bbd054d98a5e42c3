/-
  The small functions of package digest: what each returns.
-/
import Derived.Test.YtgeggiafjojgdaaDoorDigW
import Derived.Outline
import Derived.Lib.Hide
import Derived.Lib.Strings
import Derived.BigQuiet
import Derived.Deep.QuietTactic
import Derived.BigRegion
namespace Go.Proofs.YtgeggiafjojgdaaDoor.DG
open Go.RowKit Go

theorem ret_int {k : IntKind} {a b : Int} (h : a = b) : Ending.returned (.int k a) = .returned (.int k b) := by rw [h]

theorem rot_any (x : UInt64) (k : Nat) (w : World) (h0 : 0 < k) (hk : k < 64) :
    Calls Tryd.prog 53 #[.int .u64 x.toNat, .int .i64 k] w fun e w' => e = .returned (.int .u64 (rotl x k).toNat) ∧ w = w' := by
  rw [← rot_spell x k h0 hk]
  have hm : bits .and .u64 (k : Int) 63 = k := by
    rw [show (63 : Int) = ((63 : Nat) : Int) from rfl, u64_and_nat _ _ (by omega) (by omega), nat_mask6, Nat.mod_eq_of_lt hk]
  have hn : (64 - (k : Int)).toNat = 64 - k := by omega
  go_enter Tryd.func53, Tryd.ntmps53
  go_wp2_with fail
  go_ret
  exact ⟨rfl, rfl⟩

theorem rot_is {x y : UInt64} {k : Nat} (i : Int) (w : World) (hi : i = (k : Int)) (h0 : 0 < k) (hk : k < 64) (h : rotl x k = y) :
    Calls Tryd.prog 53 #[.int .u64 x.toNat, .int .i64 i] w fun e w' => e = .returned (.int .u64 y.toNat) ∧ w = w' := by
  rw [← h, hi]; exact rot_any x k w h0 hk

theorem round_steps (b : Nat) (s : St) (r : List Value) (t : TypeId) (w : World) (h : w.heap[b]? = some (W4 s r t)) (a1 r1 b1 a2 c1 r2 d1 a3 r3 d2 c2 r4 b2 c3 : UInt64)
    (e1 : ((s.a.toNat : Int) + (s.b.toNat : Int)) % 18446744073709551616 = (a1.toNat : Int)) (e2 : rotl s.b 13 = r1) (e3 : bits .xor .u64 (r1.toNat : Int) (a1.toNat : Int) = (b1.toNat : Int)) (e4 : rotl a1 32 = a2)
    (e5 : ((s.c.toNat : Int) + (s.d.toNat : Int)) % 18446744073709551616 = (c1.toNat : Int)) (e6 : rotl s.d 16 = r2) (e7 : bits .xor .u64 (r2.toNat : Int) (c1.toNat : Int) = (d1.toNat : Int))
    (e8 : ((a2.toNat : Int) + (d1.toNat : Int)) % 18446744073709551616 = (a3.toNat : Int)) (e9 : rotl d1 21 = r3) (e10 : bits .xor .u64 (r3.toNat : Int) (a3.toNat : Int) = (d2.toNat : Int))
    (e11 : ((c1.toNat : Int) + (b1.toNat : Int)) % 18446744073709551616 = (c2.toNat : Int)) (e12 : rotl b1 17 = r4) (e13 : bits .xor .u64 (r4.toNat : Int) (c2.toNat : Int) = (b2.toNat : Int)) (e14 : rotl c2 32 = c3) :
    Calls Tryd.prog 48 #[.pointer (some ⟨b, 0, none⟩)] w fun e w' => (∃ v, e = .returned v) ∧ Turned b (W4 ⟨a3, b2, c3, d2⟩ r t) w w' := by
  have c0 := W4.c0 h
  have c1' := W4.c1 h
  have c2' := W4.c2 h
  have c3' := W4.c3 h
  have fr := W4.fr h
  have HT := Turned.refl h
  have u1 : IntKind.u64.wrap ((s.a.toNat : Int) + (s.b.toNat : Int)) = (a1.toNat : Int) := e1
  have u5 : IntKind.u64.wrap ((s.c.toNat : Int) + (s.d.toNat : Int)) = (c1.toNat : Int) := e5
  have u8 : IntKind.u64.wrap ((a2.toNat : Int) + (d1.toNat : Int)) = (a3.toNat : Int) := e8
  have u11 : IntKind.u64.wrap ((c1.toNat : Int) + (b1.toNat : Int)) = (c2.toNat : Int) := e11
  have R1 := fun w => rot_is (k := 13) 13 w rfl (by omega) (by omega) e2
  have R2 := fun w => rot_is (k := 32) 32 w rfl (by omega) (by omega) e4
  have R3 := fun w => rot_is (k := 16) 16 w rfl (by omega) (by omega) e6
  have R4 := fun w => rot_is (k := 21) 21 w rfl (by omega) (by omega) e9
  have R5 := fun w => rot_is (k := 17) 17 w rfl (by omega) (by omega) e12
  have R6 := fun w => rot_is (k := 32) 32 w rfl (by omega) (by omega) e14
  clear h e2 e4 e6 e9 e12 e14
  go_enter Tryd.func48, Tryd.ntmps48
  go_wp2_with fail
  go_quiet (fail)
  go_wp2_with fail
  refine (R1 _).mono ?_
  rintro e w' ⟨rfl, rfl⟩
  go_wp2_with fail
  refine (R2 _).mono ?_
  rintro e w' ⟨rfl, rfl⟩
  go_wp2_with fail
  refine (R3 _).mono ?_
  rintro e w' ⟨rfl, rfl⟩
  go_wp2_with fail
  refine (R4 _).mono ?_
  rintro e w' ⟨rfl, rfl⟩
  go_wp2_with fail
  refine (R5 _).mono ?_
  rintro e w' ⟨rfl, rfl⟩
  go_wp2_with fail
  refine (R6 _).mono ?_
  rintro e w' ⟨rfl, rfl⟩
  go_wp2_with fail
  go_end0
  exact ⟨⟨_, rfl⟩, ((((HT.drewN.set0 _).set1 _).set2 _).set3 _)⟩

theorem round_any (b : Nat) (s : St) (r : List Value) (t : TypeId) (w : World) (h : w.heap[b]? = some (W4 s r t)) :
    Calls Tryd.prog 48 #[.pointer (some ⟨b, 0, none⟩)] w fun e w' => (∃ v, e = .returned v) ∧ Turned b (W4 (rnd s) r t) w w' :=
  round_steps b s r t w h _ _ _ _ _ _ _ _ _ _ _ _ _ _ (add_spell _ _) rfl (xor_spell _ _) rfl (add_spell _ _) rfl (xor_spell _ _) (add_spell _ _) rfl (xor_spell _ _) (add_spell _ _) rfl (xor_spell _ _) rfl

theorem take_any (b : Nat) (s : St) (m : UInt64) (r : List Value) (t : TypeId) (w : World) (h : w.heap[b]? = some (W4 s r t)) :
    Calls Tryd.prog 47 #[.pointer (some ⟨b, 0, none⟩), .int .u64 m.toNat] w fun e w' => (∃ v, e = .returned v) ∧ Turned b (W4 (take s m) r t) w w' := by
  have c3 := W4.c3 h
  have fr := W4.fr h
  have HT := Turned.refl h
  obtain ⟨x, hx⟩ : ∃ x, s.d ^^^ m = x := ⟨_, rfl⟩
  have e := xor_spell s.d m
  rw [hx] at e
  have e' : bits .xor .u64 (m.toNat : Int) (s.d.toNat : Int) = (x.toNat : Int) := by rw [xor_spell, ← hx, UInt64.xor_comm]
  have ht : take s m = ⟨(rnd (rnd ⟨s.a, s.b, s.c, x⟩)).a ^^^ m, (rnd (rnd ⟨s.a, s.b, s.c, x⟩)).b, (rnd (rnd ⟨s.a, s.b, s.c, x⟩)).c, (rnd (rnd ⟨s.a, s.b, s.c, x⟩)).d⟩ := by
    simp only [take, hx]
  rw [ht]
  clear ht hx h
  go_enter Tryd.func47, Tryd.ntmps47
  go_wp2_with fail
  go_region
  all_goals (
    go_wp2_with fail
    have H1 := (HT.set3 x).drew
    refine (round_any b _ r t _ H1.here).mono ?_
    rintro e1 w1 ⟨⟨v1, rfl⟩, T1⟩
    have H2 := H1.trans T1
    clear H1 T1
    go_wp2_with fail
    refine (round_any b _ r t _ H2.here).mono ?_
    rintro e2 w2 ⟨⟨v2, rfl⟩, T2⟩
    have H3 := H2.trans T2
    clear H2 T2 c3 fr e e' HT
    obtain ⟨y, hy⟩ : ∃ y, rnd (rnd ⟨s.a, s.b, s.c, x⟩) = y := ⟨_, rfl⟩
    rw [hy] at H3
    have hy' := Lib.hid hy
    clear hy
    have c0 := W4.c0 H3.here
    have fr := W4.fr H3.here
    obtain ⟨z, hz⟩ : ∃ z, y.a ^^^ m = z := ⟨_, rfl⟩
    have e := xor_spell y.a m
    rw [hz] at e
    have e' : bits .xor .u64 (m.toNat : Int) (y.a.toNat : Int) = (z.toNat : Int) := by rw [xor_spell, ← hz, UInt64.xor_comm]
    have hz' := Lib.hid hz
    clear hz
    go_wp2_with fail
    go_region
    all_goals (
      go_wp2_with fail
      go_end0
      refine ⟨⟨_, rfl⟩, ?_⟩
      rw [hy'.out, hz'.out]
      exact (H3.set0 z).drew))

theorem results_cell {fn : Func} {p : Tmp} {ty : TypeId} (h : fn.results = #[.cell p ty]) (tmps : Array Value) (P : Program) (w : World) :
    (results fn tmps).run P w =
      ((asAddr (tmps.getD p undef)).run P w).andThen fun a w₁ => (loadVar ty a).run P w₁ := by
  simp only [results, h]
  simp [Sem.run_bind, Result.andThen]

theorem start_any (k l : UInt64) (w : World) :
    Calls Tryd.prog 45 #[.int .u64 k.toNat, .int .u64 l.toNat] w fun e w' => e = .returned (.agg #[u64 (start k l).a, u64 (start k l).b, u64 (start k l).c, u64 (start k l).d]) ∧ Below w.heap.size w w' := by
  have e1 : bits .xor .u64 (k.toNat : Int) 8317987319222330741 = ((k ^^^ 0x736f6d6570736575).toNat : Int) := xor_spell k 0x736f6d6570736575
  have e2 : bits .xor .u64 (l.toNat : Int) 7237128888997146477 = ((l ^^^ 0x646f72616e646f6d).toNat : Int) := xor_spell l 0x646f72616e646f6d
  have e3 : bits .xor .u64 (k.toNat : Int) 7816392313619706465 = ((k ^^^ 0x6c7967656e657261).toNat : Int) := xor_spell k 0x6c7967656e657261
  have e4 : bits .xor .u64 (l.toNat : Int) 8387220255154660723 = ((l ^^^ 0x7465646279746573).toNat : Int) := xor_spell l 0x7465646279746573
  show Calls _ _ _ _ fun e w' => e = .returned (.agg #[.int .u64 ((k ^^^ 0x736f6d6570736575).toNat : Int), .int .u64 ((l ^^^ 0x646f72616e646f6d).toNat : Int), .int .u64 ((k ^^^ 0x6c7967656e657261).toNat : Int), .int .u64 ((l ^^^ 0x7465646279746573).toNat : Int)]) ∧ Below w.heap.size w w'
  rw [← e1, ← e2, ← e3, ← e4]
  clear e1 e2 e3 e4
  go_enter Tryd.func45, Tryd.ntmps45
  go_wp2_with fail
  refine bodyPost_ret ?_ rfl ⟨rfl, ?_⟩
  · rw [results_cell rfl]
    go_simp
  · exact (Below.refl _ _).alloc (Nat.le_refl _) _
end Go.Proofs.YtgeggiafjojgdaaDoor.DG

