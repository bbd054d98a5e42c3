/-
  A tree in memory: its map of nodes, its nodes, their maps of names.
-/
import Derived.Test.YtfokdmijkniomaaGreatDoorFB
import Derived.Test.YtfokdmijkniomaaGreatDoorKW
import Derived.Test.YtfokdmijkniomaaGreatDoorCmdKL
import Derived.Maps.OwnSet
import Derived.BigRegion
import Derived.RegionTactic
namespace Go.Proofs.YtfokdmijkniomaaGreatDoor
open Go.RowKit Go Go.Maps

/-- a pointer to a block, or none -/
def ptrO : Option Nat → Value
  | some b => .pointer (some ⟨b, 0, none⟩)
  | none => .pointer none
/-- how a pointer in a map reads -/
def ptrElem : Value → Option (DataW Unit × List MemPlace)
  | .pointer none => some (.nil, [])
  | .pointer (some ⟨b, 0, none⟩) => some (.lit (.int .i64 b), [])
  | _ => none
theorem ptrElem_some {v : Value} {b : Nat} {ps : List MemPlace} (h : ptrElem v = some (.lit (.int .i64 b), ps)) : v = ptrO (some b) := by
  unfold ptrElem at h
  split at h
  · cases h
  · rename_i b'
    have : (b' : Int) = b := by simpa using congrArg (fun z => z.map Prod.fst) h
    obtain rfl : b' = b := by omega
    rfl
  · cases h
theorem ptrElem_none {v : Value} {ps : List MemPlace} (h : ptrElem v = some (.nil, ps)) : v = ptrO none := by
  unfold ptrElem at h
  split at h
  · rfl
  · simp at h
  · cases h
def litI (k : Int) : Lit := .int .i64 k
def litS (s : ByteArray) : Lit := .string s.data.toList
theorem litI_inj {a b : Int} (h : litI a = litI b) : a = b := by simpa [litI] using h
theorem litS_inj {a b : ByteArray} (h : litS a = litS b) : a = b := by
  unfold litS at h
  exact ba_ext (by simpa using h)
theorem lawI : Keyed Tryz.prog 3 := int_keyed Tryz.underlying3
theorem lawS : Keyed Tryz.prog 9 := string_keyed Tryz.underlying9
theorem wf_int {k : Int} (h : IntOk k) : (Lit.int .i64 k).wf = true := by
  have e1 : IntKind.i64.min = -9223372036854775808 := by decide
  have e2 : IntKind.i64.max = 9223372036854775807 := by decide
  simp [Lit.wf, e1, e2]; exact h
theorem keyI {k : Int} (h : IntOk k) : keyOf Tryz.prog 3 (.int .i64 k) = some (litI k) := keyOf_int_mk Tryz.underlying3 (wf_int h)
theorem keyS {s : ByteArray} (h : s.size ≤ maxLen) : keyOf Tryz.prog 9 (.string s) = some (litS s) := WideMaps.keyOf_string_mk Tryz.underlying9 h
noncomputable def intElem : Value → Option (DataW Unit × List MemPlace) := plainElem Tryz.prog 3
theorem owns_fit {k : TypeId} {R : Value → Option (DataW Unit × List MemPlace)} {w : World} {m n : Nat} {D : DataW Unit} (h : w.ownsMap Tryz.prog k R m n D) : w.ownsMap Tryz.prog k R m (Maps.size D) D := by
  obtain ⟨es, clock, hb, F, _, rfl⟩ := h
  exact ⟨es, clock, hb, F, by simp [Maps.size, length_sorted], rfl⟩
theorem owns_stay {F : Nat → Prop} {k : TypeId} {R : Value → Option (DataW Unit × List MemPlace)} {w w' : World} {m n : Nat} {D : DataW Unit} (h : w.ownsMap Tryz.prog k R m n D) (s : Stir F w w') (hn : ¬ F m) : w'.ownsMap Tryz.prog k R m n D := by
  obtain ⟨es, clock, hb, rest⟩ := h
  exact ⟨es, clock, s.keep hb hn, rest⟩
theorem owns_obj {k : TypeId} {R : Value → Option (DataW Unit × List MemPlace)} {w : World} {m n : Nat} {D : DataW Unit} (h : w.ownsMap Tryz.prog k R m n D) : ∃ es clock, w.heap[m]? = some (.map es clock) := by
  obtain ⟨es, clock, hb, _⟩ := h
  exact ⟨es, clock, hb⟩

/-! ### Names -/
/-- a map's datum tells what names stand for -/
def ReadsN (D : DataW Unit) (l : List Ent) : Prop := ∀ s z, D.atKey (litS s) z = match lookE l s with
  | some k => .lit (.int .i64 k)
  | none => z
/-- names in a map; a file has none -/
def NamesAt (w : World) (dir : Bool) (l : List Ent) : Option Nat → Prop
  | none => dir = false ∧ l = []
  | some g => dir = true ∧ ∃ D, w.ownsMap Tryz.prog 9 intElem g l.length D ∧ Maps.size D = l.length ∧ ReadsN D l
def NObj (x : Nod) (p : Option Nat) : Obj := .cells #[.int .i64 x.num, .bool x.dir, .int .i64 x.links, .string x.data, .map p] 58 (0, 0)
structure NodeAt (w : World) (b : Nat) (p : Option Nat) (x : Nod) : Prop where
  obj : w.heap[b]? = some (NObj x p)
  names : NamesAt w x.dir x.names p
section
variable {w w' : World} {b : Nat} {p : Option Nat} {x : Nod}
theorem NObj.c0 (h : w.heap[b]? = some (NObj x p)) : w.cell? ⟨b, 0, none⟩ = some (.int .i64 x.num) := by simp [World.cell?, h, NObj]
theorem NObj.c1 (h : w.heap[b]? = some (NObj x p)) : w.cell? ⟨b, 1, none⟩ = some (.bool x.dir) := by simp [World.cell?, h, NObj]
theorem NObj.c2 (h : w.heap[b]? = some (NObj x p)) : w.cell? ⟨b, 2, none⟩ = some (.int .i64 x.links) := by simp [World.cell?, h, NObj]
theorem NObj.c3 (h : w.heap[b]? = some (NObj x p)) : w.cell? ⟨b, 3, none⟩ = some (.string x.data) := by simp [World.cell?, h, NObj]
theorem NObj.c4 (h : w.heap[b]? = some (NObj x p)) : w.cell? ⟨b, 4, none⟩ = some (.map p) := by simp [World.cell?, h, NObj]
theorem NObj.fr (h : w.heap[b]? = some (NObj x p)) (i : Nat) : w.frozen? ⟨b, i, none⟩ = false := by simp [World.frozen?, h, NObj]
theorem NObj.set2 (h : w.heap[b]? = some (NObj x p)) (z : Int) : (w.setCell ⟨b, 2, none⟩ (.int .i64 z)).heap[b]? = some (NObj { x with links := z } p) := by rw [heap_set h]; rfl
theorem NObj.set3 (h : w.heap[b]? = some (NObj x p)) (s : ByteArray) : (w.setCell ⟨b, 3, none⟩ (.string s)).heap[b]? = some (NObj { x with data := s } p) := by rw [heap_set h]; rfl
theorem NamesAt.stay {F : Nat → Prop} {d : Bool} {l : List Ent} (h : NamesAt w d l p) (s : Stir F w w') (hn : ∀ g, p = some g → ¬ F g) : NamesAt w' d l p := by
  cases p with
  | none => exact h
  | some g =>
    obtain ⟨h1, D, h2, h3⟩ := h
    exact ⟨h1, D, owns_stay h2 s (hn g rfl), h3⟩
theorem NodeAt.stay {F : Nat → Prop} (h : NodeAt w b p x) (s : Stir F w w') (hb : ¬ F b) (hn : ∀ g, p = some g → ¬ F g) : NodeAt w' b p x := ⟨s.keep h.obj hb, h.names.stay s hn⟩
theorem ReadsN.has {D : DataW Unit} {l : List Ent} (h : ReadsN D l) (s : ByteArray) : Maps.has D (litS s) = (lookE l s).isSome := by
  cases e : lookE l s with
  | none => exact Maps.has_false_of_atKey (fun z => by rw [h s z, e])
  | some k => exact Maps.has_true_of_atKey (y := .lit (.int .i64 k)) (fun z => by rw [h s z, e])
theorem zeroI (w : World) : (zeroValue 3).run Tryz.prog w = .ok (.int .i64 0) w := by kernel_rfl
/-- a name's number, and whether it is there -/
theorem NamesAt.look {d : Bool} {l : List Ent} {g : Nat} (h : NamesAt w d l (some g)) {s : ByteArray} (hs : s.size ≤ maxLen) :
    (Instr.lookup 56 (.map (some g)) (.string s) true).run Tryz.prog w = .ok (.tuple #[.int .i64 ((lookE l s).getD 0), .bool (lookE l s).isSome]) w := by
  obtain ⟨_, D, hD, _, hr⟩ := h
  obtain ⟨v, ps, hrun, hv⟩ := hD.look_ok lawS Tryz.underlying56 (zeroI w) (zd := .lit (.int .i64 0)) (zp := []) (plainElem_int Tryz.underlying3 (by decide)) (keyS hs)
  rw [hr.has] at hrun
  rw [hr] at hv
  rw [hrun]
  obtain ⟨a, rfl, h2, _⟩ := plainElem_int_inv Tryz.underlying3 hv
  have e1 := congrArg Prod.fst h2
  simp only at e1
  cases e : lookE l s with
  | none => rw [e] at e1; simp only [DataW.lit.injEq, Lit.int.injEq, true_and] at e1; rw [← e1]; rfl
  | some k => rw [e] at e1; simp only [DataW.lit.injEq, Lit.int.injEq, true_and] at e1; rw [← e1]; rfl
/-- a name's number -/
theorem NamesAt.get {d : Bool} {l : List Ent} {g : Nat} (h : NamesAt w d l (some g)) {s : ByteArray} (hs : s.size ≤ maxLen) :
    (Instr.lookup 56 (.map (some g)) (.string s) false).run Tryz.prog w = .ok (.int .i64 ((lookE l s).getD 0)) w := by
  obtain ⟨_, D, hD, _, hr⟩ := h
  obtain ⟨c, hrun, hat, _⟩ := hD.lookup_int lawS Tryz.underlying56 Tryz.underlying3 (zeroI w) (keyS hs)
  rw [hrun]
  rw [hr] at hat
  cases e : lookE l s with
  | none => rw [e] at hat; simp only [DataW.lit.injEq, Lit.int.injEq, true_and] at hat; rw [← hat]; rfl
  | some k => rw [e] at hat; simp only [DataW.lit.injEq, Lit.int.injEq, true_and] at hat; rw [← hat]; rfl
theorem NamesAt.len {d : Bool} {l : List Ent} (h : NamesAt w d l p) (ty : TypeId) : (Builtin.len_ #[56] ty #[.map p]).run Tryz.prog w = .ok (.int .i64 l.length) w := by
  cases p with
  | none =>
    obtain ⟨_, rfl⟩ := h
    simp [Builtin.len_, run_underlying Tryz.underlying56, Result.andThen, goInt]
  | some g =>
    obtain ⟨_, D, hD, hs, _⟩ := h
    rw [← hs]
    exact hD.len Tryz.underlying56 ty
theorem reads_none : ReadsN (.map []) [] := fun _ _ => rfl
theorem ReadsN.put {D : DataW Unit} {l : List Ent} (h : ReadsN D l) (hm : IsMap D) (s : ByteArray) (k : Int) : ReadsN (D.put (litS s) (.lit (.int .i64 k))) (insE s k l) := by
  intro t z
  rw [look_ins]
  by_cases e : s = t
  · subst e
    rw [if_pos rfl, atKey_put_same (k := litS s) hm trivial]
  · rw [if_neg e, atKey_put_other (fun e2 => e (litS_inj e2).symm), h t z]
theorem ReadsN.del {D : DataW Unit} {l : List Ent} (h : ReadsN D l) (s : ByteArray) : ReadsN (D.del (litS s)) (delE s l) := by
  intro t z
  rw [look_del]
  by_cases e : s = t
  · subst e
    rw [if_pos rfl, atKey_del_same]
  · rw [if_neg e, atKey_del_other (fun e2 => e (litS_inj e2).symm), h t z]
/-- a name is put -/
theorem NamesAt.put {d : Bool} {l : List Ent} {g : Nat} (h : NamesAt w d l (some g)) (hr : RiseE l) (hl : l.length < 100000) {s : ByteArray} (hs : s.size ≤ maxLen) {k : Int} (hk : IntOk k) :
    ∃ w', (Instr.mapUpdate 56 (.map (some g)) (.string s) (.int .i64 k)).run Tryz.prog w = .ok () w' ∧ NamesAt w' d (insE s k l) (some g) ∧ w.mapTurned w' g := by
  obtain ⟨h0, D, hD, hsz, hrd⟩ := h
  obtain ⟨w', h1, h2, h3⟩ := hD.store lawS Tryz.underlying56 (by unfold maxLen; omega) (keyS hs) (val := .int .i64 k) (d := .lit (.int .i64 k)) (ps := []) (plainElem_int Tryz.underlying3 (wf_int hk))
  have e : Maps.size (D.put (litS s) (DataW.lit (H := Unit) (.int .i64 k))) = (insE s k l).length := by
    have e1 : (insE s k l).length = l.length + (if seekK Ent.name l s = none then 1 else 0) := len_put ordB hr _
    rw [Maps.size_put (hD.tidy lawS), hrd.has, hsz, e1]
    cases e2 : lookE l s with
    | none => rw [look_none.1 e2]; simp
    | some j => rw [look_some e2]; simp
  exact ⟨w', h1, ⟨h0, _, by rw [← e]; exact owns_fit h2, e, hrd.put hD.isMap s k⟩, h3⟩
/-- a name is taken away -/
theorem NamesAt.del {d : Bool} {l : List Ent} {g : Nat} (h : NamesAt w d l (some g)) (hr : RiseE l) {s : ByteArray} (hs : s.size ≤ maxLen) {k : Int} (hk : lookE l s = some k) (ty : TypeId) :
    ∃ w', (Builtin.delete_ #[56, 9] ty #[.map (some g), .string s]).run Tryz.prog w = .ok (.tuple #[]) w' ∧ NamesAt w' d (delE s l) (some g) ∧ w.mapTurned w' g := by
  obtain ⟨h0, D, hD, hsz, hrd⟩ := h
  obtain ⟨w', h1, h2, h3⟩ := hD.drop lawS Tryz.underlying56 (keyS hs) ty
  have e : Maps.size (D.del (litS s)) = (delE s l).length := by
    have e1 := Maps.size_del (k := litS s) (hD.tidy lawS)
    rw [hrd.has, hk, hsz] at e1
    have := del_len hr hk
    simp at e1
    omega
  exact ⟨w', h1, ⟨h0, _, by rw [← e]; exact owns_fit h2, e, hrd.del s⟩, h3⟩
theorem NamesAt.block {d : Bool} {l : List Ent} {g : Nat} (h : NamesAt w d l (some g)) : ∃ es clock, w.heap[g]? = some (.map es clock) := by
  obtain ⟨_, D, hD, _⟩ := h
  exact owns_obj hD
end

/-! ### The tree -/
def TObj (m : Nat) : Obj := .cells #[.map (some m)] 53 (0, 0)
theorem TObj.c0 {w : World} {c m : Nat} (h : w.heap[c]? = some (TObj m)) : w.cell? ⟨c, 0, none⟩ = some (.map (some m)) := by simp [World.cell?, h, TObj]
/-- a map's datum tells in which block each node lies -/
def ReadsT (D : DataW Unit) (P : Int → Nat) (T : List Nod) : Prop := ∀ k z, D.atKey (litI k) z = match nodeAt T k with
  | some _ => .lit (.int .i64 (P k))
  | none => z
structure TreeAt (c m : Nat) (P : Int → Nat) (G : Int → Option Nat) (T : List Nod) (D : DataW Unit) (w : World) : Prop where
  obj : w.heap[c]? = some (TObj m)
  map : w.ownsMap Tryz.prog 3 ptrElem m T.length D
  size : Maps.size D = T.length
  look : ReadsT D P T
  node : ∀ k x, nodeAt T k = some x → NodeAt w (P k) (G k) x
  apart : ∀ k x, nodeAt T k = some x → G k ≠ some m
  own : ∀ j k x y g, nodeAt T j = some x → nodeAt T k = some y → G j = some g → G k = some g → j = k
  rise : RiseN T
/-- its blocks -/
def FootT (c m : Nat) (P : Int → Nat) (G : Int → Option Nat) (T : List Nod) (b : Nat) : Prop := b = c ∨ b = m ∨ ∃ k x, nodeAt T k = some x ∧ (b = P k ∨ G k = some b)
section
variable {w w' : World} {c m : Nat} {P : Int → Nat} {G : Int → Option Nat} {T : List Nod} {D : DataW Unit}
theorem TreeAt.inj (h : TreeAt c m P G T D w) {j k : Int} {x y : Nod} (hx : nodeAt T j = some x) (hy : nodeAt T k = some y) (e : P j = P k) : j = k := by
  have h1 := (h.node j x hx).obj
  have h2 := (h.node k y hy).obj
  rw [e, h2] at h1
  have e2 := congrArg (fun o => match o with | some (.cells cs _ _) => cs[0]? | _ => none) h1
  simp [NObj] at e2
  rw [← (at_mem hx).2, ← (at_mem hy).2, e2]
theorem TreeAt.lt (h : TreeAt c m P G T D w) {b : Nat} (hb : FootT c m P G T b) : b < w.heap.size := by
  rcases hb with rfl | rfl | ⟨k, x, hx, rfl | hg⟩
  · exact lt_of_heap h.obj
  · exact h.map.lt
  · exact lt_of_heap (h.node k x hx).obj
  · have := (h.node k x hx).names
    rw [hg] at this
    obtain ⟨es, clock, hb⟩ := this.block
    exact lt_of_heap hb
theorem TreeAt.stay {F : Nat → Prop} (h : TreeAt c m P G T D w) (s : Stir F w w') (hn : ∀ b, FootT c m P G T b → ¬ F b) : TreeAt c m P G T D w' :=
  ⟨s.keep h.obj (hn c (.inl rfl)), owns_stay h.map s (hn m (.inr (.inl rfl))), h.size, h.look,
    fun k x hx => (h.node k x hx).stay s (hn _ (.inr (.inr ⟨k, x, hx, .inl rfl⟩))) (fun g hg => hn g (.inr (.inr ⟨k, x, hx, .inr hg⟩))), h.apart, h.own, h.rise⟩
theorem TreeAt.later (h : TreeAt c m P G T D w) (k : Below w.heap.size w w') : TreeAt c m P G T D w' := h.stay (Stir.of_below (F := fun _ => False) k) (fun _ _ h => h)
theorem TreeAt.c_m (h : TreeAt c m P G T D w) : c ≠ m := by
  rintro rfl
  obtain ⟨es, clock, hb⟩ := owns_obj h.map
  rw [h.obj] at hb; cases hb
theorem TreeAt.c_P (h : TreeAt c m P G T D w) {k : Int} {x : Nod} (hx : nodeAt T k = some x) : c ≠ P k := by
  intro e
  have h1 := (h.node k x hx).obj
  rw [← e, h.obj] at h1
  simp [TObj, NObj] at h1
theorem TreeAt.c_G (h : TreeAt c m P G T D w) {k : Int} {x : Nod} (hx : nodeAt T k = some x) {g : Nat} (hg : G k = some g) : c ≠ g := by
  rintro rfl
  have := (h.node k x hx).names
  rw [hg] at this
  obtain ⟨es, clock, hb⟩ := this.block
  rw [h.obj] at hb; cases hb
theorem TreeAt.m_P (h : TreeAt c m P G T D w) {k : Int} {x : Nod} (hx : nodeAt T k = some x) : m ≠ P k := by
  intro e
  obtain ⟨es, clock, hb⟩ := owns_obj h.map
  rw [e, (h.node k x hx).obj] at hb; cases hb
theorem TreeAt.P_G (h : TreeAt c m P G T D w) {j k : Int} {x y : Nod} (hx : nodeAt T j = some x) (hy : nodeAt T k = some y) {g : Nat} (hg : G k = some g) : P j ≠ g := by
  rintro rfl
  have := (h.node k y hy).names
  rw [hg] at this
  obtain ⟨es, clock, hb⟩ := this.block
  rw [(h.node j x hx).obj] at hb; cases hb
theorem TreeAt.has (h : TreeAt c m P G T D w) (k : Int) : Maps.has D (litI k) = (nodeAt T k).isSome := by
  cases e : nodeAt T k with
  | none => exact Maps.has_false_of_atKey (fun z => by rw [h.look k z, e])
  | some x => exact Maps.has_true_of_atKey (y := .lit (.int .i64 (P k))) (fun z => by rw [h.look k z, e])
theorem zeroP (w : World) : (zeroValue 55).run Tryz.prog w = .ok (.pointer none) w := by kernel_rfl
/-- the pointer to a number's node, or none -/
def nodeP (P : Int → Nat) (T : List Nod) (k : Int) : Value := if (nodeAt T k).isSome = true then .pointer (some ⟨P k, 0, none⟩) else .pointer none
theorem TreeAt.lookup (h : TreeAt c m P G T D w) {k : Int} (hk : IntOk k) :
    (Instr.lookup 51 (.map (some m)) (.int .i64 k) false).run Tryz.prog w = .ok (nodeP P T k) w := by
  obtain ⟨v, ps, hrun, hv⟩ := h.map.lookup lawI Tryz.underlying51 (zeroP w) (zd := .nil) (zp := []) rfl (keyI hk)
  rw [h.look] at hv
  rw [hrun]
  unfold nodeP
  cases e : nodeAt T k with
  | none => rw [e] at hv; rw [ptrElem_none hv]; rfl
  | some x => rw [e] at hv; rw [ptrElem_some hv]; rfl
theorem TreeAt.lookup_some (h : TreeAt c m P G T D w) {k : Int} (hk : IntOk k) {x : Nod} (hx : nodeAt T k = some x) :
    (Instr.lookup 51 (.map (some m)) (.int .i64 k) false).run Tryz.prog w = .ok (.pointer (some ⟨P k, 0, none⟩)) w := by
  rw [h.lookup hk]; unfold nodeP; rw [hx]; rfl
theorem TreeAt.lookup_none (h : TreeAt c m P G T D w) {k : Int} (hk : IntOk k) (hx : nodeAt T k = none) :
    (Instr.lookup 51 (.map (some m)) (.int .i64 k) false).run Tryz.prog w = .ok (.pointer none) w := by
  rw [h.lookup hk]; unfold nodeP; rw [hx]; rfl
end

/-- a tree: its nodes; F: the blocks that are its own, none below B -/
def TreeIs (B : Nat) (F : Nat → Prop) (c : Nat) (T : List Nod) (w : World) : Prop :=
  ∃ m P G D, TreeAt c m P G T D w ∧ (∀ k, F k ↔ FootT c m P G T k) ∧ (∀ k, F k → B ≤ k)
section
variable {w w' : World} {B c : Nat} {F : Nat → Prop} {T : List Nod}
theorem TreeIs.lt (h : TreeIs B F c T w) {k : Nat} (hk : F k) : k < w.heap.size := by
  obtain ⟨m, P, G, D, ht, hF, _⟩ := h
  exact ht.lt ((hF k).1 hk)
theorem TreeIs.low (h : TreeIs B F c T w) {k : Nat} (hk : F k) : B ≤ k := by
  obtain ⟨m, P, G, D, _, _, hB⟩ := h
  exact hB k hk
theorem TreeIs.stay {K : Nat → Prop} (h : TreeIs B F c T w) (k : Stir K w w') (hn : ∀ b, F b → ¬ K b) : TreeIs B F c T w' := by
  obtain ⟨m, P, G, D, ht, hF, hB⟩ := h
  exact ⟨m, P, G, D, ht.stay k (fun b hb => hn b ((hF b).2 hb)), hF, hB⟩
theorem TreeIs.later (h : TreeIs B F c T w) (k : Below w.heap.size w w') : TreeIs B F c T w' := h.stay (Stir.of_below (F := fun _ => False) k) (fun _ _ h => h)
theorem TreeIs.rise (h : TreeIs B F c T w) : RiseN T := by
  obtain ⟨m, P, G, D, ht, _⟩ := h
  exact ht.rise
/-- what a call leaves: the tree, and what it may have turned -/
def LeftT (B : Nat) (F : Nat → Prop) (c : Nat) (T : List Nod) (w w' : World) : Prop :=
  ∃ F', TreeIs B F' c T w' ∧ Stir F w w' ∧ ∀ k, F' k → F k ∨ w.heap.size ≤ k
theorem LeftT.same (h : TreeIs B F c T w) (k : Below w.heap.size w w') : LeftT B F c T w w' := ⟨F, h.later k, Stir.of_below k, fun _ hk => .inl hk⟩
end
end Go.Proofs.YtfokdmijkniomaaGreatDoor

