/-
  The calls that every statement makes.
-/
import Derived.Test.YtfncoojpommfcaaGreatDoorFilVx
namespace Go.Proofs.YtfncoojpommfcaaGreatDoor
open Go.RowKit Go Go.Maps

/-- a tree of the call's own: all its blocks are new since w0 -/
def FxAt (w0 w : World) (c : Nat) (T : List Nod) : Prop := ∃ F, TreeIs w0.heap.size F c T w ∧ Below w0.heap.size w0 w
section
variable {w0 w w' : World} {c : Nat} {T : List Nod}
theorem FxAt.below (h : FxAt w0 w c T) : Below w0.heap.size w0 w := h.choose_spec.2
theorem FxAt.later (h : FxAt w0 w c T) (hB : Below w.heap.size w w') : FxAt w0 w' c T := by
  obtain ⟨F, h1, h2⟩ := h
  exact ⟨F, h1.later hB, h2.trans (hB.mono h2.size)⟩
theorem FxAt.tree (h : FxAt w0 w c T) : ∃ m P G D, TreeAt c m P G T D w := by
  obtain ⟨F, ⟨m, P, G, D, ht, _⟩, _⟩ := h
  exact ⟨m, P, G, D, ht⟩
theorem FxAt.left {F : Nat → Prop} {T' : List Nod} (h : TreeIs w0.heap.size F c T w) (hB : Below w0.heap.size w0 w) (k : LeftT w0.heap.size F c T' w w') : FxAt w0 w' c T' := by
  obtain ⟨F', h1, h2, _⟩ := k
  exact ⟨F', h1, ((Stir.of_below (F := fun _ => False) hB).trans h2 (fun i hi => .inr (h.low hi))).below (fun _ f => f.elim) (Nat.le_refl _)⟩
theorem fdo (h : FxAt w0 w c T) (hG : Good T) (d : Cmd) (hd : CmdIn d) (hl : d.path.size + d.dest.size ≤ 100000000) (hg : GE w0) :
    Calls Tryz.prog 14 #[.pointer (some ⟨c, 0, none⟩), cmdV d] w fun e w' => e = .returned (.int .i64 (doV T d).2) ∧ FxAt w0 w' c (doV T d).1 := by
  obtain ⟨F, h1, h2⟩ := h
  exact (do_short h1 hG d hd hl (hg.below h2)).mono fun e w' ⟨he, hw⟩ => ⟨he, .left h1 h2 hw⟩
theorem fnew (w0 : World) : Calls Tryz.prog 11 #[] w0 fun e w' => ∃ c, e = .returned (.pointer (some ⟨c, 0, none⟩)) ∧ FxAt w0 w' c newT :=
  (new_any w0).mono fun _ _ ⟨c, F, he, ht, hB⟩ => ⟨c, he, F, ht, hB⟩
theorem fread (h : FxAt w0 w c T) (hG : Good T) {s : ByteArray} (hs : s.size ≤ 281474976710656) (a n : Int) (ha : IntOk a) (hn : IntOk n) :
    Calls Tryz.prog 20 #[.pointer (some ⟨c, 0, none⟩), .string s, .int .i64 a, .int .i64 n] w fun e w' => e = .returned (.tuple #[.string (readV T s a n).1, .int .i64 (readV T s a n).2]) ∧ Below w.heap.size w w' := by
  obtain ⟨_, _, _, _, ht⟩ := h.tree
  exact fread_any ht hG.formed hs a n ha hn
theorem fget (h : FxAt w0 w c T) (hG : Good T) {s : ByteArray} (hs : s.size ≤ 281474976710656) :
    Calls Tryz.prog 18 #[.pointer (some ⟨c, 0, none⟩), .string s] w fun e w' => e = .returned (.tuple #[ndeV (getV T s).1, .int .i64 (getV T s).2]) ∧ Below w.heap.size w w' := by
  obtain ⟨_, _, _, _, ht⟩ := h.tree
  exact get_any ht hG.formed hs
theorem flist (h : FxAt w0 w c T) (hG : Good T) {s : ByteArray} (hs : s.size ≤ 281474976710656) :
    Calls Tryz.prog 22 #[.pointer (some ⟨c, 0, none⟩), .string s] w fun e w' => ListE w (listV T s) e w' ∧ Below w.heap.size w w' := by
  obtain ⟨_, _, _, _, ht⟩ := h.tree
  exact list_any ht hG.formed hs
theorem fnodes (h : FxAt w0 w c T) (hG : Good T) :
    Calls Tryz.prog 16 #[.pointer (some ⟨c, 0, none⟩)] w fun e w' => ∃ v, e = .returned v ∧ LstAt ndeC 4 w' v (tolds T) ∧ Below w.heap.size w w' := by
  obtain ⟨_, _, _, _, ht⟩ := h.tree
  refine (nodes_any ht hG.formed).mono fun e w' ⟨v, he, hrow, hB⟩ => ⟨v, he, ?_, hB⟩
  rw [← tolds_len T] at hrow
  exact WT.lst_of_owns (C := ndeC) (fun _ => rfl) (by omega) hrow
theorem cnt_le_all {T : List Nod} (h : Formed T) (k : Int) : cnt T k ≤ 3600 := by
  have := sum_le (f := fun x => cE x.names k) (n := 60) (l := T) (fun x hx => Nat.le_trans (cE_le _ _) (by
    cases hd : x.dir with
    | true => exact (h.dir x hx hd).2.2.1
    | false => rw [(h.file x hx hd).1]; simp))
  have := h.len
  unfold cnt
  omega
theorem nde_in {T : List Nod} (h : Good T) : ∀ r ∈ tolds T, NdeIn r := by
  intro r hr
  obtain ⟨x, hx, rfl⟩ := List.mem_map.1 hr
  obtain ⟨_, _, e3, e4, _⟩ := NodOf.of h.formed hx
  have h1 := h.formed.num x hx
  have h2 : 1 ≤ x.links ∧ x.links ≤ 3600 := by
    have hc := cnt_le_all h.formed
    by_cases e : x.num = 1
    · obtain ⟨r, hr, _, h3⟩ := h.formed.root
      have := h.formed.rise.at hx
      rw [e, hr] at this
      cases this; omega
    · have := h.formed.links x hx e
      have := hc x.num
      omega
  refine ⟨⟨by show _ ≤ x.num; omega, by show x.num ≤ _; omega⟩, ⟨by show _ ≤ x.links; omega, by show x.links ≤ _; omega⟩, by omega⟩
theorem nde_eql (r : Nde) (w : World) : (binOp .eql 38 (ndeV r) (ndeV r)).run Tryz.prog w = .ok (.bool true) w := by
  unfold ndeV
  rw [run_eql_struct, run_equalIn_agg _ _ _ _ _ (by kernel_rfl) (by kernel_rfl)]
  have hu := Tryz.underlying38
  have hf : (Tryz.prog.fieldsOf 38).toList = (Tryz.prog.fieldsOf 38).toList := rfl
  conv at hf => rhs; unfold Program.fieldsOf; rw [hu]
  simp only at hf
  rw [hf]
  clear hf hu
  have u3 := Tryz.underlying3
  have u4 := Tryz.underlying4
  have u9 := Tryz.underlying9
  simp [go_sem, Op.eqFields, u3, u4, u9, Result.andThen]
theorem nde_guard2 (r q : Nde) (w : World) (a b : Operand) : (eqGuard .eql 38 a b (ndeV r) (ndeV q)).run Tryz.prog w = .ok () w := run_eqGuard_agg w _ _ _ _ _ _ (by kernel_rfl)
end
end Go.Proofs.YtfncoojpommfcaaGreatDoor

