/-
  Two trees of a law's own, beside each other: Do on either; From of a tree's nodes.
-/
import Derived.Test.YtfncoojpommfcaaGreatDoorFilFw
import Derived.Test.YtfncoojpommfcaaGreatDoorFilCl
namespace Go.Proofs.YtfncoojpommfcaaGreatDoor
open Go.RowKit Go Go.Maps

theorem TreeIs.less {B B' c : Nat} {F : Nat → Prop} {T : List Nod} {w : World} (h : TreeIs B F c T w) (hb : B' ≤ B) : TreeIs B' F c T w := by
  obtain ⟨m, P, G, D, h1, h2, h3⟩ := h
  exact ⟨m, P, G, D, h1, h2, fun k hk => Nat.le_trans hb (h3 k hk)⟩
/-- two trees of the call's own -/
def FxTwo (w0 w : World) (c d : Nat) (T U : List Nod) : Prop := ∃ F K, TreeIs w0.heap.size F c T w ∧ TreeIs w0.heap.size K d U w ∧ (∀ k, F k → ¬ K k) ∧ Below w0.heap.size w0 w
section
variable {w0 w w1 w' : World} {c d : Nat} {T U : List Nod}
theorem FxTwo.swap (h : FxTwo w0 w c d T U) : FxTwo w0 w d c U T := by
  obtain ⟨F, K, h1, h2, h3, h4⟩ := h
  exact ⟨K, F, h2, h1, fun k a b => h3 k b a, h4⟩
theorem FxTwo.one (h : FxTwo w0 w c d T U) : FxAt w0 w c T := by
  obtain ⟨F, K, h1, _, _, h4⟩ := h
  exact ⟨F, h1, h4⟩
theorem FxTwo.two (h : FxTwo w0 w c d T U) : FxAt w0 w d U := h.swap.one
theorem FxTwo.below (h : FxTwo w0 w c d T U) : Below w0.heap.size w0 w := h.one.below
theorem FxTwo.later (h : FxTwo w0 w c d T U) (hB : Below w.heap.size w w') : FxTwo w0 w' c d T U := by
  obtain ⟨F, K, h1, h2, h3, h4⟩ := h
  exact ⟨F, K, h1.later hB, h2.later hB, h3, h4.trans (hB.mono h4.size)⟩
theorem FxTwo.left {F K : Nat → Prop} {T' : List Nod} (h1 : TreeIs w0.heap.size F c T w) (h2 : TreeIs w0.heap.size K d U w) (h3 : ∀ k, F k → ¬ K k) (h4 : Below w0.heap.size w0 w) (k : LeftT w0.heap.size F c T' w w') : FxTwo w0 w' c d T' U := by
  obtain ⟨F', k1, k2, k3⟩ := k
  refine ⟨F', K, k1, h2.stay k2 (fun b hb f => h3 b f hb), fun b hb hk => ?_, ?_⟩
  · rcases k3 b hb with f | f
    · exact h3 b f hk
    · have := h2.lt hk; omega
  · exact ((Stir.of_below (F := fun _ => False) h4).trans k2 (fun i hi => .inr (h1.low hi))).below (fun _ f => f.elim) (Nat.le_refl _)
theorem ftwo (h : FxTwo w0 w c d T U) (hG : Good T) (q : Cmd) (hd : CmdIn q) (hl : q.path.size + q.dest.size ≤ 100000000) (hg : GE w0) :
    Calls Tryz.prog 14 #[.pointer (some ⟨c, 0, none⟩), cmdV q] w fun e w' => e = .returned (.int .i64 (doV T q).2) ∧ FxTwo w0 w' c d (doV T q).1 U := by
  obtain ⟨F, K, h1, h2, h3, h4⟩ := h
  exact (do_short h1 hG q hd hl (hg.below h4)).mono fun e w' ⟨he, hw⟩ => ⟨he, .left h1 h2 h3 h4 hw⟩
/-- the tree of a tree's nodes: another one, with the same nodes -/
theorem ffrom (h : FxAt w0 w c T) (hG : Good T) (hB : Below w.heap.size w w1) {v : Value} (hv : LstAt ndeC 4 w1 v (tolds T)) (hg : GE w0) :
    Calls Tryz.prog 26 #[v] w1 fun e w' => ∃ d, e = .returned (.tuple #[.pointer (some ⟨d, 0, none⟩), .int .i64 0]) ∧ FxTwo w0 w' c d T T := by
  obtain ⟨F, h1, h2⟩ := h
  have hB1 := h2.trans (hB.mono h2.size)
  refine (from_any (tolds T) (nde_in hG) v w1 hv (hg.below hB1)).mono fun e w' ⟨he, hw⟩ => ?_
  rcases he with ⟨U, d, K, hU, hUT, rfl, hK⟩ | ⟨hno, _⟩
  · have := tolds_inj hU.formed hG.formed hUT
    subst this
    refine ⟨d, rfl, F, K, (h1.later hB).later hw, hK.less hB1.size, fun k hf hk => ?_, hB1.trans (hw.mono hB1.size)⟩
    have := (h1.later hB).lt hf
    have := hK.low hk
    omega
  · exact absurd rfl (hno T hG)
/-- Clone of a law's own tree: all its blocks are new -/
theorem fclone (h : FxAt w0 w c T) (hG : Good T) :
    Calls Tryz.prog 13 #[.pointer (some ⟨c, 0, none⟩)] w fun e w' => ∃ d, e = .returned (.pointer (some ⟨d, 0, none⟩)) ∧ FxAt w w' d T := by
  obtain ⟨F, h1, h2⟩ := h
  obtain ⟨m, P, G, D, ht, _⟩ := h1
  exact (tclone_any ht hG.formed).mono fun e w' ⟨d, K, he, hK, hB⟩ => ⟨d, he, K, hK, hB⟩
end
end Go.Proofs.YtfncoojpommfcaaGreatDoor

