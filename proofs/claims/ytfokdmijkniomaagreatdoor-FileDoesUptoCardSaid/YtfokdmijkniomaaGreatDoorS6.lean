/-
  FilSp / FilSs / FilSt / FilSq / FilSr.
-/
import Derived.Test.YtfokdmijkniomaaGreatDoorS5
import Derived.Test.YtfokdmijkniomaaGreatDoorS1
import Derived.Test.YtfokdmijkniomaaGreatDoorKS
import Derived.Test.YtfokdmijkniomaaGreatDoorCmdU
namespace Go.Proofs.YtfokdmijkniomaaGreatDoor
open Go.RowKit Go Go.Maps

/-- the program's tree, with the nodes T, beside the document's, with the nodes U: all their blocks are the call's own -/
def DPair (w0 w : World) (c tb : Nat) (T U : List Nod) : Prop := ∃ F lv, TreeIs w0.heap.size F c T w ∧ RTIs tb lv U w ∧ (∀ k, RFoot tb lv k → w0.heap.size ≤ k ∧ ¬ F k) ∧ Below w0.heap.size w0 w
section
variable {w0 w w' : World} {c tb : Nat} {T U : List Nod}
theorem DPair.below (h : DPair w0 w c tb T U) : Below w0.heap.size w0 w := h.choose_spec.choose_spec.2.2.2
theorem DPair.one (h : DPair w0 w c tb T U) : FxAt w0 w c T := by
  obtain ⟨F, lv, h1, _, _, h4⟩ := h
  exact ⟨F, h1, h4⟩
theorem DPair.two (h : DPair w0 w c tb T U) : ∃ lv, RTIs tb lv U w := by
  obtain ⟨F, lv, _, h2, _, _⟩ := h
  exact ⟨lv, h2⟩
theorem DPair.later (h : DPair w0 w c tb T U) (hB : Below w.heap.size w w') : DPair w0 w' c tb T U := by
  obtain ⟨F, lv, h1, h2, h3, h4⟩ := h
  exact ⟨F, lv, h1.later hB, h2.later hB, h3, h4.trans (hB.mono h4.size)⟩
theorem pair_do (h : DPair w0 w c tb T U) (hG : Good T) (hU : U ≠ []) (q : Cmd) (hd : CmdIn q) (hl : q.path.size + q.dest.size ≤ 100000000) (hg : GE w0) :
    Calls Tryz.prog 7 #[.pointer (some ⟨c, 0, none⟩), cmdV q] w fun e w' => e = .returned (.int .i64 (doV T q).2) ∧ DPair w0 w' c tb (doV T q).1 U := by
  obtain ⟨F, lv, h1, h2, h3, h4⟩ := h
  refine (do_short h1 hG q hd hl (hg.below h4)).mono fun e w' ⟨he, hw⟩ => ⟨he, ?_⟩
  obtain ⟨F', k1, k2, k3⟩ := hw
  refine ⟨F', lv, k1, h2.stay k2 (fun k hk f => (h3 k hk).2 f), fun k hk => ⟨(h3 k hk).1, fun f => ?_⟩, ?_⟩
  · rcases k3 k f with f | f
    · exact (h3 k hk).2 f
    · have := foot_lt h2 hU hk; omega
  · exact ((Stir.of_below (F := fun _ => False) h4).trans k2 (fun i hi => .inr (h1.low hi))).below (fun _ f => f.elim) (Nat.le_refl _)
theorem pair_rdo (h : DPair w0 w c tb T U) (hG : Good U) (q : Cmd) (hs : SmallC q) :
    Calls Tryz.prog 8 #[.pointer (some ⟨tb, 0, none⟩), cmdV q] w fun e w' => e = .returned (.int .i64 (doV U q).2) ∧ DPair w0 w' c tb T (doV U q).1 := by
  obtain ⟨F, lv, h1, h2, h3, h4⟩ := h
  refine (rdo_any h2 hG q hs).mono fun e w' ⟨he, hw⟩ => ⟨he, ?_⟩
  obtain ⟨lv', k1, k2, k3⟩ := hw
  have htb := h3 tb (.inl rfl)
  refine ⟨F, lv', h1.stay k2 (fun b hb e => htb.2 (e ▸ hb)), k1, fun k hk => ?_, ?_⟩
  · rcases k3 k hk with f | f
    · exact h3 k f
    · exact ⟨Nat.le_trans h4.size f, fun g => by have := h1.lt g; omega⟩
  · exact ((Stir.of_below (F := fun _ => False) h4).trans k2 (fun i hi => .inr (by rw [hi]; exact htb.1))).below (fun _ f => f.elim) (Nat.le_refl _)
end
end Go.Proofs.YtfokdmijkniomaaGreatDoor

namespace Go.Proofs.YtfokdmijkniomaaGreatDoor
open Go.RowKit Go Go.Maps

/-- the elder tree, with the nodes V, its clone, and the document's: all their blocks are the call's own -/
def DThree (w0 w : World) (c d tb : Nat) (V T U : List Nod) : Prop := ∃ F K lv, TreeIs w0.heap.size F c V w ∧ TreeIs w0.heap.size K d T w ∧ RTIs tb lv U w ∧ (∀ k, F k → ¬ K k) ∧ (∀ k, RFoot tb lv k → w0.heap.size ≤ k ∧ ¬ F k ∧ ¬ K k) ∧ Below w0.heap.size w0 w
section
variable {w0 w w' : World} {c d tb : Nat} {V T U : List Nod}
theorem DThree.below (h : DThree w0 w c d tb V T U) : Below w0.heap.size w0 w := by
  obtain ⟨_, _, _, _, _, _, _, _, h⟩ := h
  exact h
theorem DThree.pair (h : DThree w0 w c d tb V T U) : DPair w0 w d tb T U := by
  obtain ⟨F, K, lv, _, h2, h3, _, h5, h6⟩ := h
  exact ⟨K, lv, h2, h3, fun k hk => ⟨(h5 k hk).1, (h5 k hk).2.2⟩, h6⟩
theorem pair_clone (h : DPair w0 w c tb T U) (hG : Good T) (hU : U ≠ []) :
    Calls Tryz.prog 6 #[.pointer (some ⟨c, 0, none⟩)] w fun e w' => ∃ d, e = .returned (.pointer (some ⟨d, 0, none⟩)) ∧ DThree w0 w' c d tb T T U := by
  obtain ⟨F, lv, h1, h2, h3, h4⟩ := h
  obtain ⟨m, P, G, D, ht, h1'⟩ := id h1
  refine (tclone_any ht hG.formed).mono fun e w' ⟨d, K, he, hK, hB⟩ => ⟨d, he, F, K, lv, h1.later hB, hK.less h4.size, h2.later hB, fun k hf hk => ?_, fun k hk => ⟨(h3 k hk).1, (h3 k hk).2, fun g => ?_⟩, h4.trans (hB.mono h4.size)⟩
  · have := h1.lt hf
    have := hK.low hk
    omega
  · have := foot_lt h2 hU hk
    have := hK.low g
    omega
theorem three_do (h : DThree w0 w c d tb V T U) (hG : Good V) (hU : U ≠ []) (q : Cmd) (hd : CmdIn q) (hl : q.path.size + q.dest.size ≤ 100000000) (hg : GE w0) :
    Calls Tryz.prog 7 #[.pointer (some ⟨c, 0, none⟩), cmdV q] w fun e w' => e = .returned (.int .i64 (doV V q).2) ∧ DThree w0 w' c d tb (doV V q).1 T U := by
  obtain ⟨F, K, lv, h1, h2, h3, h4, h5, h6⟩ := h
  refine (do_short h1 hG q hd hl (hg.below h6)).mono fun e w' ⟨he, hw⟩ => ⟨he, ?_⟩
  obtain ⟨F', k1, k2, k3⟩ := hw
  refine ⟨F', K, lv, k1, h2.stay k2 (fun b hb f => h4 b f hb), h3.stay k2 (fun k hk f => (h5 k hk).2.1 f), fun k f g => ?_, fun k hk => ⟨(h5 k hk).1, fun f => ?_, (h5 k hk).2.2⟩, ?_⟩
  · rcases k3 k f with f | f
    · exact h4 k f g
    · have := h2.lt g; omega
  · rcases k3 k f with f | f
    · exact (h5 k hk).2.1 f
    · have := foot_lt h3 hU hk; omega
  · exact ((Stir.of_below (F := fun _ => False) h6).trans k2 (fun i hi => .inr (h1.low hi))).below (fun _ f => f.elim) (Nat.le_refl _)
/-- both trees made anew -/
theorem pair_new (h : FxAt w0 w c newT) : Calls Tryz.prog 5 #[] w fun e w' => ∃ tb, e = .returned (.pointer (some ⟨tb, 0, none⟩)) ∧ DPair w0 w' c tb newT newT := by
  obtain ⟨F, h1, h2⟩ := h
  refine (rnew_any w).mono fun e w' ⟨tb, lv, he, hr, hf, hB⟩ => ⟨tb, he, F, lv, h1.later hB, hr, fun k hk => ⟨Nat.le_trans h2.size (hf k hk), fun f => ?_⟩, h2.trans (hB.mono h2.size)⟩
  have := h1.lt f
  have := hf k hk
  omega
end
end Go.Proofs.YtfokdmijkniomaaGreatDoor

namespace Go.Proofs.YtfokdmijkniomaaGreatDoor
open Go.RowKit Go Go.Maps

/-- a row of nodes of the call's own, to be spoilt: its block is new since B -/
def SpN (N : Nat) (a : Option Addr) (B : Nat) (w : World) : Prop := 0 < N → ∃ (g : Nat) (cur : Array Value), a = some ⟨g, 0, none⟩ ∧ B ≤ g ∧ w.heap[g]? = some (.cells cur 38 (0, 0)) ∧ N * 4 ≤ cur.size
section
variable {w0 w w' : World} {c : Nat} {T : List Nod}
theorem fnodes3 (h : FxAt w0 w c T) (hG : Good T) :
    Calls Tryz.prog 9 #[.pointer (some ⟨c, 0, none⟩)] w fun e w' => ∃ a cap, e = .returned (.slice a T.length cap) ∧ LstAt ndeC 4 w' (.slice a T.length cap) (tolds T) ∧ SpN T.length a w.heap.size w' ∧ Below w.heap.size w w' := by
  obtain ⟨_, _, _, _, ht⟩ := h.tree
  refine (nodes_any ht hG.formed).mono fun e w' ⟨v, he, hrow, hB⟩ => ?_
  have hrow2 := hrow
  rw [← tolds_len T] at hrow2
  have hl : LstAt ndeC 4 w' v (tolds T) := WT.lst_of_owns (C := ndeC) (fun _ => rfl) (by omega) hrow2
  rcases hrow.2 with ⟨e1, e2⟩ | ⟨g, cap, cur, e1, h2, h3, h4, h5, h6, h7⟩
  · refine ⟨none, 0, by rw [he, e1, e2], by rw [e1] at hl; rw [e2]; exact hl, fun hn => absurd hn (by omega), hB⟩
  · refine ⟨some ⟨g, 0, none⟩, cap, by rw [he, e1], by rw [e1] at hl; exact hl, fun _ => ⟨g, cur, rfl, h2, h3, by omega⟩, hB⟩
end
/-- a node of the row is spoilt, cell by cell -/
theorem spoil_one {g o B : Nat} {w : World} {cur : Array Value} (h : w.heap[g]? = some (.cells cur 38 (0, 0))) (ho : o + 4 ≤ cur.size) (hB : B ≤ g) : ∃ (x0 x1 x2 x3 : Value) (u1 u2 u3 u4 : World),
    (w.setCell ⟨g, o, none⟩ (.int .i64 0) = u1 ∧ u1.setCell ⟨g, o + 1, none⟩ (.bool false) = u2 ∧ u2.setCell ⟨g, o + 2, none⟩ (.int .i64 0) = u3 ∧ u3.setCell ⟨g, o + 3, none⟩ (.string ⟨#[]⟩) = u4) ∧
    (w.cell? ⟨g, o, none⟩ = some x0 ∧ u1.cell? ⟨g, o + 1, none⟩ = some x1 ∧ u2.cell? ⟨g, o + 2, none⟩ = some x2 ∧ u3.cell? ⟨g, o + 3, none⟩ = some x3) ∧
    (w.frozen? ⟨g, o, none⟩ = false ∧ u1.frozen? ⟨g, o + 1, none⟩ = false ∧ u2.frozen? ⟨g, o + 2, none⟩ = false ∧ u3.frozen? ⟨g, o + 3, none⟩ = false) ∧
    (∃ cur', u4.heap[g]? = some (.cells cur' 38 (0, 0)) ∧ cur'.size = cur.size) ∧ ∀ W, Below B W w → Below B W u4 := by
  obtain ⟨u1, e1⟩ : ∃ u, w.setCell ⟨g, o, none⟩ (.int .i64 0) = u := ⟨_, rfl⟩
  have h1 : u1.heap[g]? = some (.cells (cur.setIfInBounds o (.int .i64 0)) 38 (0, 0)) := by rw [← e1, heap_set h]
  obtain ⟨u2, e2⟩ : ∃ u, u1.setCell ⟨g, o + 1, none⟩ (.bool false) = u := ⟨_, rfl⟩
  have h2 : u2.heap[g]? = some (.cells ((cur.setIfInBounds o (.int .i64 0)).setIfInBounds (o + 1) (.bool false)) 38 (0, 0)) := by rw [← e2, heap_set h1]
  obtain ⟨u3, e3⟩ : ∃ u, u2.setCell ⟨g, o + 2, none⟩ (.int .i64 0) = u := ⟨_, rfl⟩
  have h3 : u3.heap[g]? = some (.cells (((cur.setIfInBounds o (.int .i64 0)).setIfInBounds (o + 1) (.bool false)).setIfInBounds (o + 2) (.int .i64 0)) 38 (0, 0)) := by rw [← e3, heap_set h2]
  obtain ⟨u4, e4⟩ : ∃ u, u3.setCell ⟨g, o + 3, none⟩ (.string ⟨#[]⟩) = u := ⟨_, rfl⟩
  have h4 : u4.heap[g]? = some (.cells ((((cur.setIfInBounds o (.int .i64 0)).setIfInBounds (o + 1) (.bool false)).setIfInBounds (o + 2) (.int .i64 0)).setIfInBounds (o + 3) (.string ⟨#[]⟩)) 38 (0, 0)) := by rw [← e4, heap_set h3]
  have ex : ∀ {W : World} {C : Array Value} {i : Nat}, W.heap[g]? = some (.cells C 38 (0, 0)) → i < C.size → ∃ x, W.cell? ⟨g, i, none⟩ = some x := fun {W} {C} {i} hW hi => ⟨C[i], by simp [World.cell?, hW, hi]⟩
  have fz : ∀ {W : World} {C : Array Value} (i : Nat), W.heap[g]? = some (.cells C 38 (0, 0)) → W.frozen? ⟨g, i, none⟩ = false := fun {W} {C} i hW => by simp [World.frozen?, hW]
  obtain ⟨x0, k0⟩ := ex (i := o) h (by omega)
  obtain ⟨x1, k1⟩ := ex (i := o + 1) h1 (by simp; omega)
  obtain ⟨x2, k2⟩ := ex (i := o + 2) h2 (by simp; omega)
  obtain ⟨x3, k3⟩ := ex (i := o + 3) h3 (by simp; omega)
  refine ⟨x0, x1, x2, x3, u1, u2, u3, u4, ⟨e1, e2, e3, e4⟩, ⟨k0, k1, k2, k3⟩, ⟨fz _ h, fz _ h1, fz _ h2, fz _ h3⟩, ⟨_, h4, by simp⟩, fun W hW => ?_⟩
  rw [← e4, ← e3, ← e2, ← e1]
  exact (((hW.setCell (p := ⟨g, o, none⟩) hB _).setCell (p := ⟨g, o + 1, none⟩) hB _).setCell (p := ⟨g, o + 2, none⟩) hB _).setCell (p := ⟨g, o + 3, none⟩) hB _
/-- a look in a variable of its own -/
def LookO (s : ByteArray) (a n : Int) : Obj := .cells #[.string s, .int .i64 a, .int .i64 n] 40
theorem look_box (s : ByteArray) (a n : Int) (W : World) : ∃ w1 u1 u2 u3, W.alloc (.cells #[.string ⟨#[]⟩, .int .i64 0, .int .i64 0] 40) = w1 ∧
    (w1.setCell ⟨W.heap.size, 0, none⟩ (.string s) = u1 ∧ u1.setCell ⟨W.heap.size, 1, none⟩ (.int .i64 a) = u2 ∧ u2.setCell ⟨W.heap.size, 2, none⟩ (.int .i64 n) = u3) ∧
    (w1.cell? ⟨W.heap.size, 0, none⟩ = some (.string ⟨#[]⟩) ∧ u1.cell? ⟨W.heap.size, 1, none⟩ = some (.int .i64 0) ∧ u2.cell? ⟨W.heap.size, 2, none⟩ = some (.int .i64 0)) ∧
    (w1.frozen? ⟨W.heap.size, 0, none⟩ = false ∧ u1.frozen? ⟨W.heap.size, 1, none⟩ = false ∧ u2.frozen? ⟨W.heap.size, 2, none⟩ = false) ∧ u3.heap[W.heap.size]? = some (LookO s a n) ∧ Below W.heap.size W u3 := by
  obtain ⟨w1, hw⟩ : ∃ w1, W.alloc (.cells #[.string ⟨#[]⟩, .int .i64 0, .int .i64 0] 40) = w1 := ⟨_, rfl⟩
  have h : w1.heap[W.heap.size]? = some (.cells #[.string ⟨#[]⟩, .int .i64 0, .int .i64 0] 40) := by rw [← hw]; exact heap_alloc_new _ _
  have hB : Below W.heap.size W w1 := by rw [← hw]; exact (Below.refl _ W).alloc (Nat.le_refl _) _
  obtain ⟨u1, e1⟩ : ∃ u, w1.setCell ⟨W.heap.size, 0, none⟩ (.string s) = u := ⟨_, rfl⟩
  have h1 : u1.heap[W.heap.size]? = some (.cells #[.string s, .int .i64 0, .int .i64 0] 40) := by rw [← e1, heap_set h]; rfl
  obtain ⟨u2, e2⟩ : ∃ u, u1.setCell ⟨W.heap.size, 1, none⟩ (.int .i64 a) = u := ⟨_, rfl⟩
  have h2 : u2.heap[W.heap.size]? = some (.cells #[.string s, .int .i64 a, .int .i64 0] 40) := by rw [← e2, heap_set h1]; rfl
  obtain ⟨u3, e3⟩ : ∃ u, u2.setCell ⟨W.heap.size, 2, none⟩ (.int .i64 n) = u := ⟨_, rfl⟩
  have h3 : u3.heap[W.heap.size]? = some (LookO s a n) := by rw [← e3, heap_set h2]; rfl
  refine ⟨w1, u1, u2, u3, hw, ⟨e1, e2, e3⟩, ⟨?_, ?_, ?_⟩, ⟨?_, ?_, ?_⟩, h3, ?_⟩
  · simp [World.cell?, h]
  · simp [World.cell?, h1]
  · simp [World.cell?, h2]
  · simp [World.frozen?, h]
  · simp [World.frozen?, h1]
  · simp [World.frozen?, h2]
  · rw [← e3, ← e2, ← e1]
    exact ((hB.setCell (p := ⟨W.heap.size, 0, none⟩) (Nat.le_refl _) _).setCell (p := ⟨W.heap.size, 1, none⟩) (Nat.le_refl _) _).setCell (p := ⟨W.heap.size, 2, none⟩) (Nat.le_refl _) _
theorem look_cells {s : ByteArray} {a n : Int} {b : Nat} {w : World} (h : w.heap[b]? = some (LookO s a n)) : w.cell? ⟨b, 0, none⟩ = some (.string s) ∧ w.cell? ⟨b, 1, none⟩ = some (.int .i64 a) ∧ w.cell? ⟨b, 2, none⟩ = some (.int .i64 n) := by
  unfold LookO at h
  refine ⟨?_, ?_, ?_⟩ <;> simp [World.cell?, h]
/-- what List answers, of either tree -/
theorem list_agree {T : List Nod} (hF : Formed T) (s : ByteArray) : ∃ (A : List ByteArray) (k : Int), A.length ≤ 60 ∧ (∀ (w w' : World) (e : Ending), ListE w (listV T s) e w' → ∃ v, e = .returned (.tuple #[v, .int .i64 k]) ∧ TextsAt w' v A) ∧
    ∀ (w' : World) (e : Ending), RListE (listV T s) e w' → ∃ v, e = .returned (.tuple #[v, .int .i64 k]) ∧ TextsAt w' v A := by
  have hn : ∀ w' : World, TextsAt w' (.slice none 0 0) [] := fun w' => ⟨none, 0, rfl, fun h => absurd rfl h⟩
  have hl : ∀ l, listV T s = .ok l → l.length ≤ 60 := by
    intro l h
    unfold listV at h
    split at h
    · cases h
    · split at h
      · cases h
      · rename_i x hx
        split at h
        · rename_i hd
          cases h
          rw [List.length_map]
          exact (hF.dir x (at_mem hx).1 hd).2.2.1
        · cases h
  cases hc : listV T s with
  | error k => exact ⟨[], k, by simp, fun w w' e h => ⟨_, h, hn w'⟩, fun w' e h => ⟨_, h, hn w'⟩⟩
  | ok l =>
    refine ⟨l, 0, hl l hc, fun w w' e h => ?_, fun w' e h => h⟩
    obtain ⟨v, he, hr⟩ := h
    exact ⟨v, he, texts_of_row hr⟩
theorem texts_later {w w' : World} {v : Value} {l : List ByteArray} (h : TextsAt w v l) (hB : Below w.heap.size w w') : TextsAt w' v l := h.later hB
end Go.Proofs.YtfokdmijkniomaaGreatDoor

namespace Go.Proofs.YtfokdmijkniomaaGreatDoor
open Go.ChangeShapes Go.WideShapes Go.ChangeAt Go.RowKit Go

section
variable {H : Type} {enc : TypeId × Value → H} {W : World} {base : Nat} {v : Value} {d : DataW H} {p : List MemPlace}
set_option maxRecDepth 100000 in
theorem op_bulk3 {n : Nat} {cs : List Value} {x : DataW H × List MemPlace} {sp : Nat → Bool} {hd : Bool} {bb : Nat} (h : DataW.trod enc Tryz.prog W bb sp hd n 31 cs = some x) :
    ∃ (a b : Int) (s t u : ByteArray), cs = [.int .i64 a, .string s, .string t, .int .i64 b, .string u] ∧ s.data.toList.length + t.data.toList.length + u.data.toList.length ≤ Rows.uptoBulk x.1 := by
  obtain ⟨f0, f1, f2, f3, f4, hu, o0, o1, o2, o3, o4, t0, t1, t2, t3, t4⟩ := op_fields
  obtain ⟨xs, k, _, hx, hl, hxl, hf⟩ := DataW.trod_struct hu h
  rw [cellsOp] at hl
  match xs, hxl, cs, hl with
  | [y0, y1, y2, y3, y4], _, [v0, v1, v2, v3, v4], _ =>
    have g0 := hf 0 f0 rfl
    rw [o0, t0, cells3] at g0
    have g1 := hf 1 f1 rfl
    rw [o1, t1, cells9] at g1
    have g2 := hf 2 f2 rfl
    rw [o2, t2, cells9] at g2
    have g3 := hf 3 f3 rfl
    rw [o3, t3, cells3] at g3
    have g4 := hf 4 f4 rfl
    rw [o4, t4, cells9] at g4
    obtain ⟨n0, e0, z0, r0⟩ := DataW.trod_int Tryz.underlying3 g0
    obtain ⟨n1, e1, z1, _⟩ := DataW.trod_string Tryz.underlying9 g1
    obtain ⟨n2, e2, z2, _⟩ := DataW.trod_string Tryz.underlying9 g2
    obtain ⟨n3, e3, z3, r3⟩ := DataW.trod_int Tryz.underlying3 g3
    obtain ⟨n4, e4, z4, _⟩ := DataW.trod_string Tryz.underlying9 g4
    simp at e0 e1 e2 e3 e4
    refine ⟨n0, n3, n1, n2, n4, by rw [e0, e1, e2, e3, e4], ?_⟩
    have hy1 : y1.1 = .lit (.string n1.data.toList) := by simpa using congrArg Prod.fst z1
    have hb1 : Rows.uptoBulk y1.1 = n1.data.toList.length + 1 := by rw [hy1]; rfl
    have hy2 : y2.1 = .lit (.string n2.data.toList) := by simpa using congrArg Prod.fst z2
    have hb2 : Rows.uptoBulk y2.1 = n2.data.toList.length + 1 := by rw [hy2]; rfl
    have hy4 : y4.1 = .lit (.string n4.data.toList) := by simpa using congrArg Prod.fst z4
    have hb4 : Rows.uptoBulk y4.1 = n4.data.toList.length + 1 := by rw [hy4]; rfl
    rw [hx]
    simp only [Rows.uptoBulk, List.map_cons, List.map_nil, Rows.uptoBulkAll]
    omega
set_option maxRecDepth 100000 in
/-- the texts of a list of commands of small bulk are short -/
theorem ops_up3 (h0 : DataW.Trod enc Tryz.prog W 0 (fun _ => true) true 22 v d p) {l : List (Int × ByteArray × ByteArray × Int × ByteArray)} (hl : OpsAt W v l) (hb : Rows.uptoBulk d ≤ 1048576) : ∀ q ∈ l, SmallC (toCmd q) := by
  obtain ⟨a0, cap, rfl, hcell⟩ := hl
  intro q hq
  obtain ⟨i, hi, rfl⟩ := List.getElem_of_mem hq
  obtain ⟨b, off, rfl, _, hc⟩ := hcell (by intro e; rw [e] at hi; simp at hi)
  obtain ⟨fuel, hf⟩ := id h0
  rcases Deep.open_slice Tryz.underlying22 hf with ⟨hcs, hx⟩ | ⟨a, len', cap', m, n, D, Pl, hcs, hb', hl', hm, hmm, hx, hel⟩
  · simp [Value.cells] at hcs
  · simp [Value.cells] at hcs
    obtain ⟨rfl, rfl, rfl⟩ := hcs
    simp only [Prod.mk.injEq] at hx
    obtain ⟨rfl, rfl⟩ := hx
    simp only [if_true] at hmm
    obtain ⟨cs', h1, h2⟩ := hel i (by omega)
    obtain ⟨x0, x1, s, t, u, rfl, hst⟩ := op_bulk3 h2
    rw [cellsOp] at h1
    obtain ⟨_, _, hc'⟩ := World.cells?_some h1
    have e1 := hc' 1 (by omega)
    have e2 := hc' 2 (by omega)
    have e4 := hc' 4 (by omega)
    rw [Deep.add_add, Addr.add_lit] at e1 e2 e4
    have c1 := (hc i hi).2.1
    have c2 := (hc i hi).2.2.1
    have c4 := (hc i hi).2.2.2.2
    rw [Nat.add_assoc] at c1 c2 c4
    rw [c1] at e1
    rw [c2] at e2
    rw [c4] at e4
    simp at e1 e2 e4
    have hD : (D i) ∈ (List.range l.length).map D := List.mem_map.2 ⟨i, List.mem_range.2 hi, rfl⟩
    have k1 := bulk_part hD
    simp only [Rows.uptoBulk] at hb
    have hst' : s.data.toList.length + t.data.toList.length + u.data.toList.length ≤ Rows.uptoBulk (D i) := hst
    have hsz : s.data.toList.length = s.size := by simp
    have htz : t.data.toList.length = t.size := by simp
    have huz : u.data.toList.length = u.size := by simp
    show SmallC ⟨_, _, _, _, _⟩
    unfold SmallC
    simp only
    rw [e1, e2, e4]
    omega
end
/-- the commands of a list of small bulk -/
theorem cmds_small {W : World} {v : Value} {l : List (Int × ByteArray × ByteArray × Int × ByteArray)} (h : OpsAt W v l) (ho : OpsOk l) (hu : ∀ q ∈ l, SmallC (toCmd q)) :
    ∃ cs : List Cmd, LstAt cmdC 5 W v cs ∧ cs.length ≤ 9223372036854775807 ∧ ∀ c ∈ cs, CmdIn c ∧ c.path.size + c.dest.size ≤ 100000000 ∧ SmallC c := by
  obtain ⟨a, cap, rfl, hc⟩ := h
  refine ⟨l.map toCmd, ⟨a, cap, by rw [List.length_map], fun hne => ?_⟩, by rw [List.length_map]; exact ho.1, fun c hc => ?_⟩
  · obtain ⟨b, off, e, hb, hx⟩ := hc (fun e => hne (by rw [e]; rfl))
    refine ⟨b, off, e, hb, fun j hj i hi => ?_⟩
    rw [List.length_map] at hj
    obtain ⟨h0, h1, h2, h3, h4⟩ := hx j hj
    rw [List.getElem_map]
    have : i = 0 ∨ i = 1 ∨ i = 2 ∨ i = 3 ∨ i = 4 := by omega
    rcases this with rfl | rfl | rfl | rfl | rfl
    · exact h0
    · exact h1
    · exact h2
    · exact h3
    · exact h4
  · obtain ⟨q, hq, rfl⟩ := List.mem_map.1 hc
    obtain ⟨o0, o1, o2, o3, o4⟩ := ho.2 q hq
    have hu := hu q hq
    have hu2 : q.2.1.size + q.2.2.1.size + q.2.2.2.2.size ≤ 1048576 := hu
    refine ⟨⟨o0, o1, ?_, ?_, ?_⟩, ?_, hu⟩
    · show q.2.1.size ≤ _; omega
    · show q.2.2.1.size ≤ _; omega
    · show q.2.2.2.2.size ≤ _; omega
    · show q.2.1.size + q.2.2.1.size ≤ _; omega
end Go.Proofs.YtfokdmijkniomaaGreatDoor

namespace Go.Proofs.YtfokdmijkniomaaGreatDoor
open Go.ChangeShapes Go.WideShapes Go.ChangeAt Go.RowKit Go
theorem cellsLook : Tryz.prog.cellsOf 40 = 3 := by kernel_rfl
/-- a list of calls, at a world -/
def LooksAt (W : World) (v : Value) (l : List (ByteArray × Int × Int)) : Prop :=
  ∃ a cap, v = .slice a l.length cap ∧ (l ≠ [] → ∃ b off, a = some ⟨b, off, none⟩ ∧ b < W.heap.size ∧ ∀ j (h : j < l.length),
    W.cell? ⟨b, off + j * 3, none⟩ = some (.string l[j].1) ∧ W.cell? ⟨b, off + j * 3 + 1, none⟩ = some (.int .i64 l[j].2.1) ∧ W.cell? ⟨b, off + j * 3 + 2, none⟩ = some (.int .i64 l[j].2.2))
def LooksOk (l : List (ByteArray × Int × Int)) : Prop := l.length ≤ 9223372036854775807 ∧ ∀ q ∈ l, IntOk q.2.1 ∧ IntOk q.2.2 ∧ q.1.size ≤ 140737488351232
section
variable {H : Type} {enc : TypeId × Value → H} {W : World} {base : Nat} {v : Value} {d : DataW H} {p : List MemPlace}
theorem look_fields : ∃ f0 f1 f2 : Field, Tryz.prog.underlying 40 = some (.struct #[f0, f1, f2]) ∧ f0.offset = 0 ∧ f1.offset = 1 ∧ f2.offset = 2 ∧ f0.type = 9 ∧ f1.type = 3 ∧ f2.type = 3 :=
  ⟨_, _, _, Tryz.underlying40, rfl, rfl, rfl, rfl, rfl, rfl⟩
set_option maxRecDepth 100000 in
theorem look_read1 {n : Nat} {cs : List Value} {x : DataW H × List MemPlace} {sp : Nat → Bool} {hd : Bool} {bb : Nat} (h : DataW.trod enc Tryz.prog W bb sp hd n 40 cs = some x) :
    ∃ q : ByteArray × Int × Int, cs = [.string q.1, .int .i64 q.2.1, .int .i64 q.2.2] ∧ (IntOk q.2.1 ∧ IntOk q.2.2) ∧ q.1.data.toList.length ∈ DataW.weights Tryz.prog 40 x.1 := by
  obtain ⟨f0, f1, f2, hu, o0, o1, o2, t0, t1, t2⟩ := look_fields
  obtain ⟨xs, k, _, hx, hl, hxl, hf⟩ := DataW.trod_struct hu h
  rw [cellsLook] at hl
  match xs, hxl, cs, hl with
  | [y0, y1, y2], _, [v0, v1, v2], _ =>
    have g0 := hf 0 f0 rfl
    rw [o0, t0, cells9] at g0
    have g1 := hf 1 f1 rfl
    rw [o1, t1, cells3] at g1
    have g2 := hf 2 f2 rfl
    rw [o2, t2, cells3] at g2
    obtain ⟨n0, e0, z0, _⟩ := DataW.trod_string Tryz.underlying9 g0
    obtain ⟨n1, e1, z1, r1⟩ := DataW.trod_int Tryz.underlying3 g1
    obtain ⟨n2, e2, z2, r2⟩ := DataW.trod_int Tryz.underlying3 g2
    simp at e0 e1 e2
    exact ⟨(n0, n1, n2), by rw [e0, e1, e2], ⟨int_range r1, int_range r2⟩, by rw [hx]; simp only [DataW.weights, hu]; exact DataW.weights_mem_each (j := 0) (t := 9) (d := .lit (.string n0.data.toList)) (by simp [t0]) (by simp [z0]) _ (by simp [DataW.weights])⟩

set_option maxRecDepth 100000 in
theorem looks_open (hval : Value.okWide Tryz.prog W .any base 23 v) (h0 : DataW.Trod enc Tryz.prog W 0 (fun _ => true) true 23 v d p) (hlt : ∀ x ∈ p, x.block < W.heap.size) {ts : List TypeId} {ds : List (DataW H)} {j : Nat} (hreach : (DataW.weightsEach Tryz.prog ts ds).all (· ≤ reachBytes) = true) (hts : ts[j]? = some 23) (hds : ds[j]? = some d) :
    ∃ l : List (ByteArray × Int × Int), LooksAt W v l ∧ LooksOk l := by
  obtain ⟨a0, len, cap, rfl⟩ := okWide_slice Tryz.underlying23 hval
  by_cases hl0 : len = 0
  · subst hl0
    exact ⟨[], ⟨a0, cap, rfl, fun e => absurd rfl e⟩, by simp, by simp⟩
  · obtain ⟨fuel, hf⟩ := id h0
    rcases Deep.open_slice Tryz.underlying23 hf with ⟨hcs, hx⟩ | ⟨a, len', cap', m, n, D, Pl, hcs, hb, hl, hm, hmm, hx, hel⟩
    · simp [Value.cells] at hcs
      exact absurd hcs.2.1 hl0
    · simp [Value.cells] at hcs
      obtain ⟨rfl, rfl, rfl⟩ := hcs
      simp only [Prod.mk.injEq] at hx
      obtain ⟨rfl, rfl⟩ := hx
      simp only [if_true] at hmm
      have each : ∀ i, i < len → ∃ q : ByteArray × Int × Int, (W.cell? (a.add (i * 3)) = some (.string q.1) ∧ W.cell? (a.add (i * 3 + 1)) = some (.int .i64 q.2.1) ∧ W.cell? (a.add (i * 3 + 2)) = some (.int .i64 q.2.2)) ∧ IntOk q.2.1 ∧ IntOk q.2.2 ∧ q.1.size ≤ 140737488351232 := by
        intro i hi
        obtain ⟨cs', h1, h2⟩ := hel i (by omega)
        obtain ⟨q, rfl, hk, hw0⟩ := look_read1 h2
        rw [cellsLook] at h1
        obtain ⟨_, _, hc⟩ := World.cells?_some h1
        have e0 := hc 0 (by omega)
        have e1 := hc 1 (by omega)
        have e2 := hc 2 (by omega)
        rw [Deep.add_add] at e0 e1 e2
        have hs0 : q.1.size ≤ 140737488351232 := by
          have := List.all_eq_true.1 hreach _ (DataW.weights_mem_each hts hds q.1.data.toList.length (by
            simp only [DataW.weights, Tryz.underlying23]
            exact List.mem_cons_of_mem _ (List.mem_append.2 (Or.inl (weights_mem_all (List.mem_map.2 ⟨i, List.mem_range.2 hi, rfl⟩) hw0)))))
          exact reach_size (by simpa using this)
        exact ⟨q, ⟨by simpa using e0, by simpa using e1, by simpa using e2⟩, hk.1, hk.2, hs0⟩
      obtain ⟨q, hq⟩ := Deep.choose_lt each
      obtain ⟨b, off, spot⟩ := a
      have hspot : spot = none := by
        have := (hq 0 (by omega)).1.1
        simpa [Addr.add] using World.cell?_spot this
      subst hspot
      have hbW : b < W.heap.size := hlt (.cell b off) (List.mem_append_left _ (MemPlace.mem_row.2 ⟨0, by rw [cellsLook]; omega, by simp⟩))
      have hml : cap ≤ 9223372036854775807 := hm
      refine ⟨(List.range len).map q, ⟨_, cap, by simp, fun _ => ⟨b, off, rfl, hbW, fun j hj => ?_⟩⟩, by simp; omega, fun x hx => ?_⟩
      rotate_left
      · obtain ⟨j, hj, rfl⟩ := List.mem_map.1 hx
        exact (hq j (by simpa using hj)).2
      have hj' : j < len := by simpa using hj
      have := (hq j hj').1
      rw [Addr.add_lit, Addr.add_lit, Addr.add_lit] at this
      simp only [List.getElem_map, List.getElem_range]
      exact ⟨this.1, by rw [Nat.add_assoc]; exact this.2.1, by rw [Nat.add_assoc]; exact this.2.2⟩
end
theorem LooksAt.later {W W' : World} {v : Value} {l : List (ByteArray × Int × Int)} (h : LooksAt W v l) (hB : Below W.heap.size W W') : LooksAt W' v l := by
  obtain ⟨a, cap, h1, h2⟩ := h
  refine ⟨a, cap, h1, fun hne => ?_⟩
  obtain ⟨b, off, e, hb, hc⟩ := h2 hne
  have hk : ∀ i, W'.cell? ⟨b, i, none⟩ = W.cell? ⟨b, i, none⟩ := fun i => World.cell?_of_block (w := W) (hB.block b hb)
  refine ⟨b, off, e, Nat.lt_of_lt_of_le hb hB.size, fun j hj => ?_⟩
  rw [hk, hk, hk]
  exact hc j hj
end Go.Proofs.YtfokdmijkniomaaGreatDoor

