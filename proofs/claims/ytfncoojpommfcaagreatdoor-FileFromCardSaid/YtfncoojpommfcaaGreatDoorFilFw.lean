/-
  A law's tree: Do and Nodes, with what lies beside; lists that differ at one place.
-/
import Derived.Test.YtfncoojpommfcaaGreatDoorFilFy
import Derived.Test.YtfncoojpommfcaaGreatDoorFilUp
namespace Go.Proofs.YtfncoojpommfcaaGreatDoor
open Go.RowKit Go Go.Maps

section
variable {w0 w w1 w' : World} {c : Nat} {T : List Nod}
/-- Do, behind calls that only laid new blocks: these stay -/
theorem fdo2 (h : FxAt w0 w c T) (hB1 : Below w.heap.size w w1) (hG : Good T) (d : Cmd) (hd : CmdIn d) (hl : d.path.size + d.dest.size ≤ 100000000) (hg : GE w0) :
    Calls Tryz.prog 14 #[.pointer (some ⟨c, 0, none⟩), cmdV d] w1 fun e w' => e = .returned (.int .i64 (doV T d).2) ∧ FxAt w0 w' c (doV T d).1 ∧ w1.heap.size ≤ w'.heap.size ∧ ∀ k, w.heap.size ≤ k → k < w1.heap.size → w'.heap[k]? = w1.heap[k]? := by
  obtain ⟨F, h1, h2⟩ := h
  have h3 := h1.later hB1
  have hB := h2.trans (hB1.mono h2.size)
  refine (do_short h3 hG d hd hl (hg.below hB)).mono fun e w' ⟨he, hL⟩ => ⟨he, .left h3 hB hL, hL.choose_spec.2.1.size, fun k hk hk1 => ?_⟩
  obtain ⟨F', _, s, _⟩ := hL
  exact s.block k hk1 (fun f => by have := h1.lt f; omega)
theorem fnodes2 (h : FxAt w0 w c T) (hG : Good T) :
    Calls Tryz.prog 16 #[.pointer (some ⟨c, 0, none⟩)] w fun e w' => ∃ v, e = .returned v ∧ LstAt ndeC 4 w' v (tolds T) ∧ (∀ b off n cap, v = .slice (some ⟨b, off, none⟩) n cap → w.heap.size ≤ b) ∧ Below w.heap.size w w' := by
  obtain ⟨_, _, _, _, ht⟩ := h.tree
  refine (nodes_any ht hG.formed).mono fun e w' ⟨v, he, hrow, hB⟩ => ⟨v, he, ?_, fun b off n cap e => ?_, hB⟩
  · rw [← tolds_len T] at hrow
    exact WT.lst_of_owns (C := ndeC) (fun _ => rfl) (by omega) hrow
  · subst e
    rcases hrow.2 with ⟨e, _⟩ | ⟨g, cap', cur, e, h2, _⟩
    · cases e
    · cases e; exact h2
theorem lst_stay {A : List Nde} {v : Value} (h : LstAt ndeC 4 w v A) {B : Nat} (hb : ∀ b off n cap, v = .slice (some ⟨b, off, none⟩) n cap → B ≤ b) (hs : w.heap.size ≤ w'.heap.size) (hk : ∀ k, B ≤ k → k < w.heap.size → w'.heap[k]? = w.heap[k]?) : LstAt ndeC 4 w' v A :=
  h.same hs fun b off cap e hlt => hk b (hb b off _ cap e) hlt
end
/-- two lists of one length that differ at one place at most -/
structure OneDiff (A B : List Nde) : Prop where
  len : A.length = B.length
  one : ∀ i j (hi : i < A.length) (hj : j < A.length) (hi2 : i < B.length) (hj2 : j < B.length), A[i] ≠ B[i] → A[j] ≠ B[j] → i = j
theorem put_map {x y : Nod} : ∀ {T : List Nod}, RiseN T → nodeAt T x.num = some y → putN x T = T.map fun z => if z.num = x.num then x else z
  | [], _, h => by cases h
  | z :: T, hr, h => by
    obtain ⟨h1, h2⟩ := List.pairwise_cons.1 hr
    unfold nodeAt at h
    rw [seekK] at h
    unfold putN
    rw [putK, List.map_cons]
    by_cases e : z.num = x.num
    · rw [if_neg (by rw [e, ordI.irr]; simp), if_pos e, if_pos e]
      congr 1
      refine (List.map_congr_left fun u hu => ?_).trans (List.map_id T) |>.symm
      rw [if_neg (fun e2 => by have := h1 u hu; rw [e, e2, ordI.irr] at this; cases this)]; rfl
    · rw [if_neg e] at h
      have hlt : ltI z.num x.num = true := by
        have hm := seek_mem h
        have := h1 _ hm.1
        rw [hm.2] at this
        exact this
      rw [if_pos hlt, if_neg e]
      congr 1
      exact put_map h2 h
theorem one_put {T : List Nod} (hr : RiseN T) {x y : Nod} (hx : nodeAt T x.num = some y) : OneDiff (tolds (putN x T)) (tolds T) := by
  rw [put_map hr hx]
  refine ⟨by rw [tolds_len, tolds_len, List.length_map], fun i j hi hj hi2 hj2 h1 h2 => ?_⟩
  rw [tolds_len] at hi2 hj2
  rw [tolds_get, tolds_get, List.getElem_map] at h1 h2
  have e1 : T[i].num = x.num := by
    refine Classical.byContradiction fun e => h1 ?_
    rw [if_neg e]
  have e2 : T[j].num = x.num := by
    refine Classical.byContradiction fun e => h2 ?_
    rw [if_neg e]
  rcases Nat.lt_trichotomy i j with c | c | c
  · have := (List.pairwise_iff_getElem.1 hr) i j hi2 hj2 c
    rw [e1, e2, ordI.irr] at this; cases this
  · exact c
  · have := (List.pairwise_iff_getElem.1 hr) j i hj2 hi2 c
    rw [e1, e2, ordI.irr] at this; cases this
theorem one_same (A : List Nde) : OneDiff A A := ⟨rfl, fun _ _ _ _ _ _ h => absurd rfl h⟩
/-- what is written or cut is one node -/
theorem one_do {T : List Nod} (hr : RiseN T) {d : Cmd} (hk : d.kind = 2 ∨ d.kind = 3) : OneDiff (tolds (doV T d).1) (tolds T) := by
  unfold doV
  split
  · exact one_same _
  · rcases hk with hk | hk
    · rw [hk]
      simp only [show ¬ (2 : Int) = 0 by decide, show ¬ (2 : Int) = 1 by decide, if_false, if_true]
      unfold writeV
      split
      · exact one_same _
      · rename_i x hx
        split
        · exact one_same _
        · exact one_put hr (findE_ok (fileE_ok hx).1).2
    · rw [hk]
      simp only [show ¬ (3 : Int) = 0 by decide, show ¬ (3 : Int) = 1 by decide, show ¬ (3 : Int) = 2 by decide, if_false, if_true]
      unfold cutV
      split
      · exact one_same _
      · rename_i x hx
        split
        · exact one_same _
        · exact one_put hr (findE_ok (fileE_ok hx).1).2
end Go.Proofs.YtfncoojpommfcaaGreatDoor

