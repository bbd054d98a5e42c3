/-
  A law's two volumes, as a tree of the reference's is read beside the program's.
-/
import Derived.Test.YtmloljjllmmkoaaGreatTreRw
import Derived.Test.YtmloljjllmmkoaaGreatTK
import Derived.Test.YtmloljjllmmkoaaGreatBZ
namespace Go.Proofs.YtmloljjllmmkoaaGreat
open Go.ChangeShapes Go.WideShapes Go.ChangeAt Go.RowKit Go.Shelf Go Go.Maps SM PL AL TR

theorem RT8.keep_low {B0 B : Nat} {w w' : World} (k : RT8 B0 B w w') {i : Nat} {t : TypeId} {C : Array Value} {f : Nat × Nat} (h : w.heap[i]? = some (Obj.cells C t f)) (h1 : ¬ K8 t) (hi : i < B) : w'.heap[i]? = some (Obj.cells C t f) := by
  obtain ⟨F, hs, hF⟩ := k
  refine hs.keep h (fun hf => ?_)
  obtain ⟨C', t', f', hC, hk⟩ := hF i hf
  have e := kind_eq h hC
  rcases hk with ⟨hk, _⟩ | ⟨_, hb⟩
  · exact h1 (e ▸ hk)
  · omega
section
variable {w0 w w' : World} {l b g m c q r o k n d B : Nat} {x y : VS}
/-- the program's volume, where the reference reads -/
theorem VW.t8 (h : VW w0 l b g m c x w) (k : RT8 w0.heap.size B w w') (hB : w0.heap.size ≤ B) : VW w0 l b g m c x w' := by
  obtain ⟨F, hs, hF⟩ := k
  refine h.own hs (fun i hi => .inr ?_)
  obtain ⟨C, t, f, hC, hk⟩ := hF i hi
  rcases hk with ⟨hk, hb⟩ | ⟨hk, hb⟩
  · exact ⟨hb, C, t, f, hC, by rcases hk with (rfl | rfl | rfl) | rfl | rfl <;> (unfold VK; decide)⟩
  · exact ⟨Nat.le_trans hB hb, C, t, f, hC, by rcases hk with rfl | rfl <;> (unfold VK; decide)⟩
/-- the two that were just laid -/
theorem TLaid.bb (h : TLaid w l b g m c r q d n w') : BB w l b g m c q r 0 1 none (vformX (fresh (blank (4 * n))) none0) (vformX (fresh (blank (4 * n))) none0) w' := by
  have hm0 : (vformX (fresh (blank (4 * n))) none0).disk.made ≤ 40 := by
    have := (len_vformD (fresh (blank (4 * n))) none0).2
    have e : (fresh (blank (4 * n))).made = 0 := rfl
    show (vformD (fresh (blank (4 * n))) none0).made ≤ 40
    omega
  obtain ⟨v0, v1, v2, kp, hr⟩ := h.ref
  exact ⟨h.vw, ⟨[], v0, v2, d, by simp, ⟨h.obj, ⟨v1, kp, hr⟩, ⟨fun i => i = d, .slice none 0 0, ⟨h.kept, World.ownsRow_nil _ _ _ _, fun i => by simp [Value.ownBlock], by simp [Value.ownBlock], h.low.2⟩⟩, h.low.1⟩⟩, by omega, by omega, fun _ e => by cases e⟩
end
end Go.Proofs.YtmloljjllmmkoaaGreat

