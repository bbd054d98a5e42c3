/-
  The nearest message that may be.
-/
import Derived.Test.YtgeggiafjojgdaaDoorFrmB
namespace Go.Proofs.YtgeggiafjojgdaaDoor
open Go.RowKit Go

set_option maxRecDepth 100000 in
set_option maxHeartbeats 8000000 in
theorem nearest_any (f : Fr) (hf : FrIn f) (w : World) :
    Calls Tryd.prog 23 #[frV f] w fun e w' => e = .returned (frV (nearF f)) ∧ Below w.heap.size w w' := by
  obtain ⟨w1, hw1⟩ : ∃ w1, w.alloc (FrObj f) = w1 := ⟨_, rfl⟩
  have hB1 : Below w.heap.size w w1 := by rw [← hw1]; exact (Below.refl _ w).alloc (Nat.le_refl _) _
  have ha1 : FrAt f w.heap.size w1 := by rw [← hw1]; exact .new _ _
  obtain ⟨w2, hw2⟩ : ∃ w2, w1.alloc (FrObj fr0) = w2 := ⟨_, rfl⟩
  have hB2 : Below w1.heap.size w1 w2 := by rw [← hw2]; exact (Below.refl _ w1).alloc (Nat.le_refl _) _
  have ha2 : FrAt fr0 w1.heap.size w2 := by rw [← hw2]; exact .new _ _
  have ha3 := ha1.later hB2
  obtain ⟨d0, d1, d2, d3⟩ : w2.drew.cell? ⟨w.heap.size, 0, none⟩ = some (.int .i64 f.kind) ∧ w2.drew.cell? ⟨w.heap.size, 1, none⟩ = some (.int .i64 f.ses) ∧ w2.drew.cell? ⟨w.heap.size, 2, none⟩ = some (.int .i64 f.seq) ∧ w2.drew.cell? ⟨w.heap.size, 3, none⟩ = some (.string f.body) := ha3.drew.cells
  obtain ⟨R, hR⟩ : ∃ R, nearF f = R := ⟨_, rfl⟩
  rw [hR]
  obtain ⟨u1, u2, u3, u4, ⟨e1, e2, e3, e4⟩, ⟨c1, c2, c3, c4⟩, ⟨f1, f2, f3, f4⟩, ha5, hs5⟩ := fr_store R ha2.drew
  have HB := Lib.hid (show Below w.heap.size w u4 from (hB1.trans (hB2.mono hB1.size)).drew.trans (hs5.below (fun i hi => by subst hi; exact hB1.size) (Nat.le_trans hB1.size hB2.size)))
  have CW : ∀ (n m r : Int) (W : World), 0 < m → nearI n m = r → Calls Tryd.prog 35 #[.int .i64 n, .int .i64 m] W fun e w' => e = .returned (.int .i64 r) ∧ W = w' := fun n m r W hm hr => by rw [← hr]; exact fwithin_any n m hm W
  have r1 : nearI f.kind 7 = R.kind := by rw [← hR]; rfl
  have r2 : nearI f.ses 1073741824 = R.ses := by rw [← hR]; rfl
  have r3 : nearI f.seq 1073741824 = R.seq := by rw [← hR]; rfl
  have hbz := hf.b
  have C1 := CW f.kind 7 R.kind w2.drew (by decide) r1
  have C2 := CW f.ses 1073741824 R.ses w2.drew (by decide) r2
  have C3 := CW f.seq 1073741824 R.seq w2.drew (by decide) r3
  obtain ⟨K, hK1, hK2, hK3, hK4⟩ : ∃ K : Nat, min (f.body.size : Int) 2000 = (K : Int) ∧ (if (2000 : Int) < (f.body.size : Int) then (2000 : Int) else (f.body.size : Int)) = (K : Int) ∧ (K : Int) ≤ (f.body.size : Int) ∧ f.body.extract 0 K = R.body := by
    refine ⟨min f.body.size 2000, by omega, by split <;> omega, by omega, by rw [← hR]; rfl⟩
  have hT : ((K : Int)).toNat = K := by omega
  have hlt1 : w.heap.size < w1.heap.size := ha1.lt
  obtain ⟨x0, x1, x2, x3⟩ := (show FrAt f w.heap.size u4 from ⟨hs5.keep ha3.drew.obj (by omega)⟩).cells
  have HA5 := Lib.hid ha5
  clear hlt1 hB1 ha1 hB2 ha2 ha3 ha5 hs5 hR CW r1 r2 r3 hf
  unfold frV
  unfold FrObj at hw1 hw2
  unfold fr0 at hw2 c1 c2 c3 c4
  simp only at c1 c2 c3 c4 hw2
  go_enter Tryd.func23, Tryd.ntmps23
  go_wp2_with fail
  go_region_held3 (fun w' => w'.cell? ⟨w.heap.size, 0, none⟩ = some (.int .i64 f.kind) ∧ w'.cell? ⟨w.heap.size, 1, none⟩ = some (.int .i64 f.ses) ∧ w'.cell? ⟨w.heap.size, 2, none⟩ = some (.int .i64 f.seq) ∧ w'.cell? ⟨w.heap.size, 3, none⟩ = some (.string f.body)) (first | exact ⟨d0, d1, d2, d3⟩ | exact ⟨x0, x1, x2, x3⟩)
    (first
      | (go_at_call 35; refine C1.mono ?_; rintro e w' ⟨rfl, rfl⟩)
      | (go_at_call 35; refine C2.mono ?_; rintro e w' ⟨rfl, rfl⟩)
      | (go_at_call 35; refine C3.mono ?_; rintro e w' ⟨rfl, rfl⟩))
  all_goals (
    obtain ⟨q0, q1, q2, q3⟩ := HA5.out.cells
    clear d0 d1 d2 d3 x0 x1 x2 x3 C1 C2 C3
    go_wp2
    refine bodyPost_ret ?_ rfl ⟨rfl, HB.out⟩
    rw [DG.results_cell rfl]
    go_simp)
end Go.Proofs.YtgeggiafjojgdaaDoor

