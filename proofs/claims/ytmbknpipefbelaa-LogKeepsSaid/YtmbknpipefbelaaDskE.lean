/-
  A disk: Arm.
-/
import Derived.Test.YtmbknpipefbelaaDskD
import Derived.Shelf.SlMaps.Clone
import Derived.Lib.ConvBytes
import Derived.Lib.SliceRun
import Derived.OwnWalk
namespace Go.Proofs.Ytmbknpipefbelaa
open Go.RowKit Go Go.Maps SM

section
variable {b g cap m : Nat} {B : ByteArray} {a : Int} {s : DS} {cur : Array Value} {D : DataW Unit} {w w' : World}

/-! ### Arm -/
set_option maxRecDepth 100000 in
theorem arm_any (h : DiskAt b g m s w) (n : Int) (hn : I64 n) {keep : ByteArray} (hkp : keep.size ≤ 140737488355328) :
    Calls Try.prog 11 #[.pointer (some ⟨b, 0, none⟩), .int .i64 n, .string keep] w fun e w' => e = .returned (.int .i64 (s.armE n)) ∧ DiskAt b g m (s.setArm n keep) w' ∧ Stir (Foot b g m) w w' := by
  have hok' := h.1.setArm hn.2 hkp
  obtain ⟨hk, cap, B, cur, D, h⟩ := h
  have c6 := DObj.c6 h.obj
  have HH := Lib.hid h
  have C := disarm_at h
  cases hd : s.dead with
  | true =>
    rw [hd] at c6
    rw [show s.armE n = 2 by simp [DS.armE, hd], show s.setArm n keep = s by simp [DS.setArm, hd]]
    clear h hd
    go_enter Try.func11, Try.ntmps11
    go_wp2
    go_ret
    exact ⟨rfl, ⟨hk, _, _, _, _, HH.out⟩, Stir.refl _ _⟩
  | false =>
    rw [hd] at c6
    by_cases h0 : n < 0
    · rw [show s.armE n = 1 by simp [DS.armE, hd, h0], show s.setArm n keep = s by simp [DS.setArm, h0]]
      clear h hd
      go_enter Try.func11, Try.ntmps11
      go_wp2
      go_ret
      exact ⟨rfl, ⟨hk, _, _, _, _, HH.out⟩, Stir.refl _ _⟩
    · rw [show s.armE n = 0 by simp [DS.armE, hd, h0]]
      by_cases h1 : n = 0
      · subst h1
        have hS : s.setArm 0 keep = s.calm := by simp [DS.setArm, hd, DS.calm]
        rw [hS] at hok' ⊢
        clear h hd h0 hS
        go_enter Try.func11, Try.ntmps11
        go_wp2_with fail
        refine C.mono ?_
        rintro e w1 ⟨rfl, h1, s1⟩
        have H1 := Lib.hid h1
        have S1 := Lib.hid (s1.weaken (G := Foot b g m) (fun k e => .inl e))
        clear h1 s1
        go_wp2
        go_ret
        exact ⟨rfl, ⟨hok', _, _, _, _, H1.out⟩, S1.out⟩
      · have hS : s.setArm n keep = { s with armed := n.toNat, keep := keep } := by simp [DS.setArm, hd, h0, h1]
        rw [hS] at hok' ⊢
        have hp : 0 < n := by omega
        have hz : n.toNat ≠ 0 := by omega
        clear h hd hS
        go_enter Try.func11, Try.ntmps11
        go_wp2_with fail
        refine C.mono ?_
        rintro e w1 ⟨rfl, h1, s1⟩
        have X : ∀ z : Int, z = (s.made + n.toNat + 9223372036854775808 : Int) % 18446744073709551616 - 9223372036854775808 →
            DiskAt b g m { s with armed := n.toNat, keep := keep } ((w1.setCell ⟨b, 4, none⟩ (.int .i64 z)).setCell ⟨b, 5, none⟩ (.string keep)) ∧ Stir (Foot b g m) w ((w1.setCell ⟨b, 4, none⟩ (.int .i64 z)).setCell ⟨b, 5, none⟩ (.string keep)) := by
          intro z hz'
          have h2 : DAt b g cap m B z s.calm cur D (w1.setCell ⟨b, 4, none⟩ (.int .i64 z)) := DAt.cell (s' := s.calm) (a' := z) (B' := B) h1 4 _ rfl rfl h1.size h1.bads (by rw [heap_set h1.obj]; simp [DObj])
          have h3 : DAt b g cap m B z { s with armed := n.toNat, keep := keep } cur D ((w1.setCell ⟨b, 4, none⟩ (.int .i64 z)).setCell ⟨b, 5, none⟩ (.string keep)) :=
            DAt.cell (s' := { s with armed := n.toNat, keep := keep }) (a' := z) (B' := B) h2 5 _ rfl rfl h2.size h2.bads (by rw [heap_set h2.obj]; simp [DObj, DS.calm])
          have ez : DS.armZ { s with armed := n.toNat, keep := keep } = z := by rw [hz']; simp only [DS.armZ, hz, if_false]
          exact ⟨⟨hok', cap, B, cur, D, by rw [ez]; exact h3⟩, ((s1.weaken (G := Foot b g m) (fun k e => .inl e)).set (.inl (.inl rfl)) _).set (.inl (.inl rfl)) _⟩
        have HX := Lib.hid X
        have c3 : w1.cell? ⟨b, 3, none⟩ = some (.int .i64 s.made) := by have := DObj.c3 h1.obj; exact this
        have c4 := DObj.c4 h1.obj
        have c5 := DObj.c5 h1.obj
        have f4 := DObj.fr h1.obj 4
        have f5 := DObj.fr h1.obj 5
        clear h1 s1 X hz hok' C
        go_wp2
        go_ret
        exact ⟨rfl, HX.out _ (by unfold wrap64; omega)⟩
end
end Go.Proofs.Ytmbknpipefbelaa
