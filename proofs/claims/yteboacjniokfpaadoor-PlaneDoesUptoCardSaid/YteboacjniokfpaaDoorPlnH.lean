/-
  A map beside the reference's, and the call that is made of them.
-/
import Derived.Test.YteboacjniokfpaaDoorPlnG
import Derived.Test.YteboacjniokfpaaDoorPlnUp
namespace Go.Proofs.YteboacjniokfpaaDoor
open Go.ChangeShapes Go.WideShapes Go.ChangeAt Go.RowKit Go SM PL

def opO (c : Int × Int × Int × ByteArray) : Obj := .cells #[.int .i64 c.1, .int .i64 c.2.1, .int .i64 c.2.2.1, .string c.2.2.2] 39 (0, 0)
theorem op_map (c : Int × Int × Int × ByteArray) (n : Nat) (f : Nat → List UInt8) : opO c ≠ MapO n f := fun e => by
  unfold opO MapO at e
  injection e with _ h _
  exact absurd h (by decide)
structure Bo (w0 : World) (o : Nat) (c : Option (Int × Int × Int × ByteArray)) (q r n : Nat) (f g : Nat → List UInt8) (w : World) : Prop where
  m : MapAt q n f w
  k : RAt r n g w
  op : ∀ x, c = some x → w.heap[o]? = some (opO x)
  lowm : w0.heap.size ≤ q
  lowk : w0.heap.size ≤ r
  below : Below w0.heap.size w0 w
section
variable {w0 w w' : World} {o q q' r n : Nat} {c : Option (Int × Int × Int × ByteArray)} {x : Int × Int × Int × ByteArray} {f g f' g' : Nat → List UInt8}
theorem Bo.later (h : Bo w0 o c q r n f g w) (k : Below w.heap.size w w') : Bo w0 o c q r n f g w' :=
  ⟨h.m.below k, h.k.below k, fun x e => keeps_of k (h.op x e), h.lowm, h.lowk, h.below.trans (k.mono h.below.size)⟩
theorem Bo.drew (h : Bo w0 o c q r n f g w) : Bo w0 o c q r n f g w.drew := h.later (Below.refl _ w).drew
theorem Bo.mstep (h : Bo w0 o c q r n f g w) (k : MapAt q n f' w') (s : Stir (· = q) w w') : Bo w0 o c q r n f' g w' :=
  ⟨k, h.k.map h.m.obj s, fun x e => s.keep (h.op x e) (ne_of_heap (h.op x e) h.m.obj (op_map _ _ _)), h.lowm, h.lowk, h.below.trans (s.below (fun _ e => by rw [e]; exact h.lowm) h.below.size)⟩
theorem Bo.r_obj (h : Bo w0 o c q r n f g w) : ∃ a b, w.heap[r]? = some (RObj a n b) := by
  obtain ⟨⟨a, b, h1, _⟩, _⟩ := h.k
  exact ⟨a, b, h1⟩
theorem Bo.kstep (h : Bo w0 o c q r n f g w) (k : RAt r n g' w') (s : Stir (· = r) w w') : Bo w0 o c q r n f g' w' := by
  obtain ⟨a, b, hr⟩ := h.r_obj
  exact ⟨h.m.stay s (ne_of_heap h.m.obj hr (by intro e; cases e)), k, fun x e => s.keep (h.op x e) (ne_of_heap (h.op x e) hr (by intro e; cases e)), h.lowm, h.lowk, h.below.trans (s.below (fun _ e => by rw [e]; exact h.lowk) h.below.size)⟩
theorem Bo.cells (h : Bo w0 o (some x) q r n f g w) : w.cell? ⟨o, 0, none⟩ = some (.int .i64 x.1) ∧ w.cell? ⟨o, 1, none⟩ = some (.int .i64 x.2.1) ∧ w.cell? ⟨o, 2, none⟩ = some (.int .i64 x.2.2.1) ∧ w.cell? ⟨o, 3, none⟩ = some (.string x.2.2.2) := by
  have := h.op x rfl
  simp [World.cell?, this, opO]
theorem Bo.holds (h : Bo w0 0 none q r n f g w) (k : w.heap[o]? = some (opO x)) : Bo w0 o (some x) q r n f g w :=
  ⟨h.m, h.k, (fun y e => by cases e; exact k), h.lowm, h.lowk, h.below⟩
theorem Bo.drop (h : Bo w0 o c q r n f g w) : Bo w0 0 none q r n f g w := ⟨h.m, h.k, (fun _ e => by cases e), h.lowm, h.lowk, h.below⟩
theorem Bo.put (h : Bo w0 o c q r n f g w) (p : Int) (hp : IntOk p) (s : ByteArray) (hs : s.size ≤ 140737488355328) :
    Calls Tryd.prog 17 #[.pointer (some ⟨q, 0, none⟩), .int .i64 p, .string s] w fun e w' => e = .returned (.int .i64 (putE n p s.data.toList)) ∧ Bo w0 o c q r n (putF n f p s.data.toList) g w' :=
  (put_any q n f p hp.1 hp.2 s hs w h.m).mono fun _ _ k => ⟨k.1, h.mstep k.2.1 k.2.2⟩
theorem Bo.rput (h : Bo w0 o c q r n f g w) (p : Int) (s : ByteArray) (hs : s.size ≤ 2199023255552) :
    Calls Tryd.prog 18 #[.pointer (some ⟨r, 0, none⟩), .int .i64 p, .string s] w fun e w' => e = .returned (.int .i64 (putE n p s.data.toList)) ∧ Bo w0 o c q r n f (putF n g p s.data.toList) w' :=
  (rput_any r n g p s hs w h.k).mono fun _ _ k => ⟨k.1, h.kstep k.2.1 k.2.2⟩
theorem Bo.clear (h : Bo w0 o c q r n f g w) (p : Int) (hp : IntOk p) :
    Calls Tryd.prog 21 #[.pointer (some ⟨q, 0, none⟩), .int .i64 p] w fun e w' => e = .returned (.int .i64 (putE n p [])) ∧ Bo w0 o c q r n (putF n f p []) g w' :=
  (clear_any q n f p hp.1 hp.2 w h.m).mono fun _ _ k => ⟨k.1, h.mstep k.2.1 k.2.2⟩
theorem Bo.rclear (h : Bo w0 o c q r n f g w) (p : Int) :
    Calls Tryd.prog 18 #[.pointer (some ⟨r, 0, none⟩), .int .i64 p, .string ⟨#[]⟩] w fun e w' => e = .returned (.int .i64 (putE n p [])) ∧ Bo w0 o c q r n f (putF n g p []) w' := h.rput p ⟨#[]⟩ (by decide)
theorem Bo.copy (h : Bo w0 o c q r n f g w) (p t : Int) (hp : IntOk p) (ht : IntOk t) :
    Calls Tryd.prog 19 #[.pointer (some ⟨q, 0, none⟩), .int .i64 p, .int .i64 t] w fun e w' => e = .returned (.int .i64 (copyE p t)) ∧ Bo w0 o c q r n (copyF f p t) g w' :=
  (copy_any' q n f p t hp.1 hp.2 ht.1 ht.2 w h.m).mono fun _ _ k => ⟨k.1, h.mstep k.2.1 k.2.2⟩
theorem Bo.rcopy (h : Bo w0 o c q r n f g w) (p t : Int) :
    Calls Tryd.prog 20 #[.pointer (some ⟨r, 0, none⟩), .int .i64 p, .int .i64 t] w fun e w' => e = .returned (.int .i64 (copyE p t)) ∧ Bo w0 o c q r n f (copyF g p t) w' :=
  (rcopy_any r n g p t w h.k).mono fun _ _ k => ⟨k.1, h.kstep k.2.1 k.2.2⟩
theorem diffV_form (f : Nat → List UInt8) (p t : Int) : ∃ (x y : ByteArray) (e : Int), diffV f p t = .tuple #[.string x, .string y, .int .i64 e] := by
  unfold diffV; split
  · exact ⟨_, _, _, rfl⟩
  · exact ⟨_, _, _, rfl⟩
theorem planeV_form (f : Nat → List UInt8) (p : Int) : ∃ (x : ByteArray) (e : Int), planeV f p = .tuple #[.string x, .int .i64 e] := by
  unfold planeV; split
  · exact ⟨_, _, rfl⟩
  · exact ⟨_, _, rfl⟩
theorem Bo.diff (h : Bo w0 o c q r n f g w) (p t : Int) (hp : IntOk p) (ht : IntOk t) :
    Calls Tryd.prog 22 #[.pointer (some ⟨q, 0, none⟩), .int .i64 p, .int .i64 t] w fun e w' => e = .returned (diffV f p t) ∧ Bo w0 o c q r n f g w' :=
  (diff_any q n f p t hp.1 hp.2 ht.1 ht.2 w h.m).mono fun _ _ k => ⟨k.1, h.later k.2⟩
theorem Bo.rdiff (h : Bo w0 o c q r n f g w) (p t : Int) :
    Calls Tryd.prog 23 #[.pointer (some ⟨r, 0, none⟩), .int .i64 p, .int .i64 t] w fun e w' => e = .returned (diffV g p t) ∧ Bo w0 o c q r n f g w' :=
  (rdiff_any r n g p t w h.k).mono fun _ _ k => ⟨k.1, h.later k.2⟩
/-- a map is copied, and the copy is put in its place; what is then done to the old one is nothing to it -/
theorem Bo.clone (h : Bo w0 o c q r n f g w) :
    Calls Tryd.prog 24 #[.pointer (some ⟨q, 0, none⟩)] w fun e w' => ∃ q', e = .returned (.pointer (some ⟨q', 0, none⟩)) ∧ Bo w0 o c q' r n f g w' ∧ MapAt q n f w' ∧ q ≠ q' :=
  (mclone_any q n f w h.m).mono fun _ w' k => by
    obtain ⟨q', e, h1, h2, h3⟩ := k
    have hl := h.later h3
    exact ⟨q', e, ⟨h1, hl.k, hl.op, Nat.le_trans h.below.size h2, hl.lowk, hl.below⟩, hl.m, by have := h.m.lt; omega⟩
theorem Bo.old (h : Bo w0 o c q r n f g w) (hm : MapAt q' n f' w) (hn : q' ≠ q) (hl : w0.heap.size ≤ q') (s : Stir (· = q') w w') : Bo w0 o c q r n f g w' :=
  ⟨h.m.stay s (fun e => hn e.symm), h.k.map hm.obj s, fun x e => s.keep (h.op x e) (ne_of_heap (h.op x e) hm.obj (op_map _ _ _)), h.lowm, h.lowk, h.below.trans (s.below (fun _ e => by rw [e]; exact hl) h.below.size)⟩
theorem Bo.plane (h : Bo w0 o c q r n f g w) (p : Int) (hp : IntOk p) :
    Calls Tryd.prog 25 #[.pointer (some ⟨q, 0, none⟩), .int .i64 p] w fun e w' => e = .returned (planeV f p) ∧ w = w' := plane_any q n f p hp.1 hp.2 w h.m
theorem Bo.rplane (h : Bo w0 o c q r n f g w) (p : Int) :
    Calls Tryd.prog 26 #[.pointer (some ⟨r, 0, none⟩), .int .i64 p] w fun e w' => e = .returned (planeV g p) ∧ Bo w0 o c q r n f g w' :=
  (rplane_any r n g p w h.k).mono fun _ _ k => ⟨k.1, h.later k.2⟩
/-- the reference's bytes as a text, at any later world -/
theorem RAt.bytes (h : RAt r n g w) : ∃ a b, ∀ w', Below w.heap.size w w' → w'.cell? ⟨r, 0, none⟩ = some (.slice (some ⟨a, 0, none⟩) n b) ∧ (convert 34 9 (.slice (some ⟨a, 0, none⟩) n b)).run Tryd.prog w' = .ok (.string (bs (textL n g))) w' := by
  obtain ⟨⟨a, b, h1, ⟨C, fr, h2⟩, h3⟩, _⟩ := h
  refine ⟨a, b, fun w' k => ⟨?_, ?_⟩⟩
  · have := keeps_of k h1
    simp [World.cell?, this, RObj]
  · have hconv := run_convert_bytes_back (P := Tryd.prog) w' 34 9 5 ⟨a, 0, none⟩ b (textL n g) Tryd.underlying34 Tryd.underlying5 Tryd.underlying9 (fun j hj => by
      rw [Addr.add_lit, Nat.zero_add, World.cell?_of_block (w := w) (k.block a (lt_of_heap h2)), h3 j (by rwa [length_textL] at hj), gd_lt hj])
    rw [length_textL] at hconv
    exact hconv
/-- both, behind a world -/
structure Bq (w0 ws : World) (o : Nat) (c : Option (Int × Int × Int × ByteArray)) (q r n : Nat) (f : Nat → List UInt8) (w : World) : Prop where
  bo : Bo w0 o c q r n f f w
  from_ : Below ws.heap.size ws w
theorem Bq.later {ws : World} (h : Bq w0 ws o c q r n f w) (k : Below w.heap.size w w') : Bq w0 ws o c q r n f w' := ⟨h.bo.later k, h.from_.trans (k.mono h.from_.size)⟩
end
end Go.Proofs.YteboacjniokfpaaDoor

