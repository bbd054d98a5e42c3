/-
  A disk in memory: its row of bytes, its map of loose sectors, its object.
-/
import Derived.Test.YtmbknpipefbelaaKitW
import Derived.Test.YtmbknpipefbelaaKitR
import Derived.Test.YtmbknpipefbelaaDskMath
import Derived.Test.YtmbknpipefbelaaSetsA
import Derived.Maps.RangeWalk
import Derived.Maps.OwnSet
import Derived.Lib.BufferWrite
import Derived.Laws.CopyRow
import Derived.BigRegion
import Derived.RegionTactic
namespace Go.Proofs.Ytmbknpipefbelaa
open Go.RowKit Go Go.Maps Go.ChangeMaps SM

/-! ### The map of loose sectors -/
def wrV (p : Int) (x : ByteArray) : Value := .agg #[.int .i64 p, .string x]
def wrD (z : Nat × ByteArray) : DataW Unit := .agg [.lit (.int .i64 (z.1 : Int)), .lit (.string z.2.data.toList)]
def wrElem : Value → Option (DataW Unit × List MemPlace)
  | .agg cs => match cs.toList with
    | [.int .i64 p, .string x] => some (.agg [.lit (.int .i64 p), .lit (.string x.data.toList)], [])
    | _ => none
  | _ => none
theorem wrElem_mk (z : Nat × ByteArray) : wrElem (wrV z.1 z.2) = some (wrD z, []) := rfl
theorem wrElem_zero : wrElem (wrV 0 none0) = some (wrD (0, none0), []) := rfl
theorem wrElem_inv {v : Value} {y : DataW Unit × List MemPlace} (h : wrElem v = some y) : ∃ p x, v = wrV p x ∧ y = (.agg [.lit (.int .i64 p), .lit (.string x.data.toList)], []) := by
  unfold wrElem at h
  split at h
  · rename_i cs
    split at h
    · rename_i p x e
      cases h
      exact ⟨p, x, by rw [wrV, ← e], rfl⟩
    · cases h
  · cases h
theorem wrElem_is {v : Value} {z : Nat × ByteArray} {ps : List MemPlace} (h : wrElem v = some (wrD z, ps)) : v = wrV z.1 z.2 := by
  obtain ⟨p, x, rfl, e⟩ := wrElem_inv h
  have e1 : wrD z = .agg [.lit (.int .i64 p), .lit (.string x.data.toList)] := congrArg Prod.fst e
  simp only [wrD, DataW.agg.injEq, List.cons.injEq, DataW.lit.injEq, Lit.int.injEq, Lit.string.injEq] at e1
  obtain ⟨⟨_, e2⟩, e3, _⟩ := e1
  rw [e2, show z.2 = x from ByteArray.ext (Array.toList_inj.1 e3)]
def lit (k : Int) : Lit := .int .i64 k
theorem lit_ne {a b : Int} (h : a ≠ b) : lit a ≠ lit b := fun e => h (by simpa [lit] using e)
def I64 (k : Int) : Prop := -9223372036854775808 ≤ k ∧ k ≤ 9223372036854775807
theorem wf_lit {k : Int} (h : I64 k) : (Lit.int .i64 k).wf = true := by
  have e1 : IntKind.i64.min = -9223372036854775808 := by decide
  have e2 : IntKind.i64.max = 9223372036854775807 := by decide
  simp [Lit.wf, e1, e2]; exact h
theorem lawM : Keyed Try.prog 3 := int_keyed Try.underlying3
theorem key_of {k : Int} (h : I64 k) : keyOf Try.prog 3 (.int .i64 k) = some (lit k) := keyOf_int_mk Try.underlying3 (wf_lit h)
theorem zeroM (w : World) : (zeroValue 93).run Try.prog w = .ok (wrV 0 none0) w := by kernel_rfl

theorem owns_fit {H : Type} {P : Program} {k : TypeId} {R : Value → Option (DataW H × List MemPlace)} {w : World} {b n : Nat} {D : DataW H} (h : w.ownsMap P k R b n D) {n' : Nat} (hn : Maps.size D ≤ n') : w.ownsMap P k R b n' D := by
  obtain ⟨es, clock, hb, F, hs, rfl⟩ := h
  refine ⟨es, clock, hb, F, ?_, rfl⟩
  simpa [Maps.size, length_sorted] using hn

/-- what a map of loose sectors reads as -/
def Reads (D : DataW Unit) (l : List (Int × ByteArray)) : Prop := ∀ k z, D.atKey (lit k) z = match seek k l 0 with
  | some y => wrD y
  | none => z
theorem Reads.has {D : DataW Unit} {l : List (Int × ByteArray)} (h : Reads D l) (k : Int) : Maps.has D (lit k) = (seek k l 0).isSome := by
  cases e : seek k l 0 with
  | none => exact Maps.has_false_of_atKey (fun z => by rw [h k z, e])
  | some y => exact Maps.has_true_of_atKey (y := wrD y) (fun z => by rw [h k z, e])
theorem reads_nil : Reads (.map []) [] := fun _ _ => rfl
theorem Reads.put {D : DataW Unit} {l : List (Int × ByteArray)} (h : Reads D l) (hm : IsMap D) (n : Int) (x : ByteArray) :
    Reads (D.put (lit n) (wrD (((seek n l 0).map (·.1)).getD l.length, x))) (putL n x l) := by
  intro k z
  rw [seek_putL]
  by_cases e : k = n
  · subst e
    rw [atKey_put_same (k := lit k) hm (show WideAt.IsKeyLit (.int .i64 k) from trivial)]
    simp
  · rw [atKey_put_other (lit_ne e), h k z, if_neg e]

structure LooseAt (m : Nat) (l : List (Int × ByteArray)) (w : World) (D : DataW Unit) : Prop where
  own : w.ownsMap Try.prog 3 wrElem m l.length D
  size : Maps.size D = l.length
  reads : Reads D l
theorem looseAt_new (w : World) : LooseAt w.heap.size [] (w.alloc (.map #[] 0)) (.map []) := ⟨World.ownsMap_made _ _ _ _, rfl, reads_nil⟩
section
variable {m : Nat} {l : List (Int × ByteArray)} {w w' : World} {D : DataW Unit}
theorem LooseAt.stay {F : Nat → Prop} (h : LooseAt m l w D) (k : Stir F w w') (hn : ¬ F m) : LooseAt m l w' D := by
  obtain ⟨⟨es, clock, hb, rest⟩, h2, h3⟩ := h
  exact ⟨⟨es, clock, k.keep hb hn, rest⟩, h2, h3⟩
theorem LooseAt.below (h : LooseAt m l w D) (k : Below w.heap.size w w') : LooseAt m l w' D := h.stay (Stir.of_below (F := fun _ => False) k) (fun h => h)
theorem LooseAt.obj (h : LooseAt m l w D) : ∃ es clock, w.heap[m]? = some (.map es clock) := by
  obtain ⟨⟨es, clock, hb, _⟩, _, _⟩ := h
  exact ⟨es, clock, hb⟩
theorem LooseAt.set (h : LooseAt m l w D) {b i : Nat} (hb : m ≠ b) (x : Value) : LooseAt m l (w.setCell ⟨b, i, none⟩ x) D := ⟨h.own.setCell hb x, h.size, h.reads⟩
end

/-- 'clear(m)' -/
theorem ownsMap_clear {H : Type} {P : Program} {k e t : TypeId} {R : Value → Option (DataW H × List MemPlace)} {w : World} {b n : Nat} {D : DataW H} (h : w.ownsMap P k R b n D) (ht : P.underlying t = some (.map k e)) (ty : TypeId) :
    ∃ w', (Builtin.clear_ #[t] ty #[.map (some b)]).run P w = .ok (.tuple #[]) w' ∧ w'.ownsMap P k R b 0 (.map []) ∧ w.mapTurned w' b := by
  obtain ⟨es, clock, hb, F, hs, rfl⟩ := h
  refine ⟨setBlock w b (.map #[] clock), ?_, ⟨#[], clock, heap_setBlock_same hb _, ⟨by simp, MapKept.stamped_empty clock, by simp⟩, Nat.le_refl _, rfl⟩, ⟨es, clock, #[], clock, hb, rfl⟩⟩
  simp [Builtin.clear_, run_underlying ht, MapKept.run_getObj_map hb, MapKept.run_setObj_map _ hb, Result.andThen, setBlock]
theorem wpList_clear_own {H : Type} {P : Program} (w : World) {ops : Array Oper} {rest : List Oper} {o : Oper} {a : Act} {Q : Exit → Act → World → Prop}
    (hg : o.guard = none) (m : Operand) (t : TypeId) (hop : o.op = Op.call { callee := Callee.builtin Builtin.clear, args := #[m], argTypes := #[t] })
    (k e : TypeId) (ht : P.underlying t = some (.map k e)) (R : Value → Option (DataW H × List MemPlace)) (b n : Nat) (D : DataW H)
    (hm : a.eval m = .map (some b)) (hown : w.ownsMap P k R b n D)
    (hK : ∀ w', w'.ownsMap P k R b 0 (.map []) → w.mapTurned w' b → wpList P ops Q rest (a.put o.dst (.tuple #[])) w') :
    wpList P ops Q (o :: rest) a w := by
  refine wpList_plain hg fun K' hK' => ?_
  obtain ⟨w', hrun, r1, r2⟩ := ownsMap_clear hown ht o.type
  unfold Oper.wp
  simp [execOp, hop, resolve, invoke, builtin, hm, hrun, Result.andThen]
  exact hK' _ _ (hK w' r1 r2)

/-! ### The row of bytes -/
structure RowIs (g cap : Nat) (L : List UInt8) (w : World) (cur : Array Value) : Prop where
  at_ : ∃ f : Nat × Nat, w.heap[g]? = some (.cells cur 5 f) ∧ Free f L.length
  size : cur.size = cap
  max : cap ≤ maxLen
  le : L.length ≤ cap
  is : cur.toList.take L.length = Lib.byteCells L
section
variable {g cap : Nat} {L : List UInt8} {w w' : World} {cur : Array Value}
theorem RowIs.stay {F : Nat → Prop} (h : RowIs g cap L w cur) (k : Stir F w w') (hn : ¬ F g) : RowIs g cap L w' cur := ⟨h.at_.imp fun _ h1 => ⟨k.keep h1.1 hn, h1.2⟩, h.size, h.max, h.le, h.is⟩
theorem RowIs.set (h : RowIs g cap L w cur) {b i : Nat} (hb : g ≠ b) (x : Value) : RowIs g cap L (w.setCell ⟨b, i, none⟩ x) cur := ⟨h.at_.imp fun _ h1 => ⟨heap_set_other h1.1 hb x, h1.2⟩, h.size, h.max, h.le, h.is⟩
theorem RowIs.cell (h : RowIs g cap L w cur) {i : Nat} (hi : i < L.length) : w.cell? ⟨g, i, none⟩ = some (.int .u8 L[i].toNat) := by
  have e : cur.toList[i]? = some (.int .u8 L[i].toNat) := by
    have := congrArg (fun z => z[i]?) h.is
    simp only [List.getElem?_take, hi, if_true] at this
    rw [this]
    simp [Lib.byteCells, hi]
  have e' : cur[i]? = some (.int .u8 L[i].toNat) := by rw [← Array.getElem?_toList]; exact e
  obtain ⟨f, h1, _⟩ := h.at_
  simp only [World.cell?, h1]
  simpa using e'
theorem RowIs.of_owns {base n : Nat} {v : Value} (h : w.ownsRow base 5 1 v n (Lib.byteCells L)) (hv : v ≠ .slice none 0 0) : ∃ g cap cur, v = .slice (some ⟨g, 0, none⟩) L.length cap ∧ base ≤ g ∧ RowIs g cap L w cur := by
  have hl : n = L.length := by have := h.1; rw [Lib.byteCells_length] at this; omega
  subst hl
  rcases h.2 with ⟨e, _⟩ | ⟨g, cap, cur, e, hB, hg, h1, h2, h3, h4⟩
  · exact absurd e hv
  · exact ⟨g, cap, cur, e, hB, ⟨_, hg, .inl rfl⟩, by omega, h2, h1, by simpa using h4⟩
/-- a copy into the row -/
theorem RowIs.copied (h : RowIs g cap L w cur) {o : Nat} {s : ByteArray} (hfit : o + s.size ≤ L.length) :
    RowIs g cap (L.take o ++ (s.data.toList ++ L.drop (o + s.size))) (w.setRow g (cur.toList.take o ++ Lib.byteCells s.data.toList ++ cur.toList.drop (o + s.size)).toArray) (cur.toList.take o ++ Lib.byteCells s.data.toList ++ cur.toList.drop (o + s.size)).toArray := by
  have hs : s.data.toList.length = s.size := by simp
  have hc : cur.toList.length = cap := by simpa using h.size
  have hc2 := h.size
  have hle := h.le
  have hlen : (L.take o ++ (s.data.toList ++ L.drop (o + s.size))).length = L.length := by simp; omega
  refine ⟨h.at_.imp fun _ h1 => ⟨setRow_heap _ _ _ _ _ _ h1.1, by rw [hlen]; exact h1.2⟩, ?_, h.max, by rw [hlen]; exact h.le, ?_⟩
  · have := h.size
    simp [Lib.byteCells_length]; omega
  · rw [hlen, List.toList_toArray]
    apply List.ext_getElem?
    intro i
    have hi := congrArg (fun z => z[i]?) h.is
    simp only [List.getElem?_take, Lib.byteCells, List.getElem?_map] at hi
    by_cases hiL : i < L.length
    · rw [if_pos hiL] at hi
      rw [List.getElem?_take, if_pos hiL, Lib.byteCells, Lib.byteCells, List.getElem?_map, List.append_assoc]
      have e1 : (cur.toList.take o).length = o := by simp; omega
      have e2 : (L.take o).length = o := by simp; omega
      have e3 : (s.data.toList.map fun b : UInt8 => Value.int .u8 (b.toNat : Int)).length = s.size := by rw [List.length_map, hs]
      simp only [List.getElem?_append, e1, e2, e3, hs]
      by_cases h1 : i < o
      · rw [if_pos h1, if_pos h1, List.getElem?_take, if_pos h1, List.getElem?_take, if_pos h1, hi]
      · rw [if_neg h1, if_neg h1]
        by_cases h2 : i - o < s.size
        · rw [if_pos h2, if_pos h2, List.getElem?_map]
        · rw [if_neg h2, if_neg h2, List.getElem?_drop, List.getElem?_drop, show o + s.size + (i - o - s.size) = i by omega, hi]
    · rw [List.getElem?_take, if_neg hiL, List.getElem?_eq_none (by rw [Lib.byteCells_length, hlen]; omega)]
/-- a part of the row, as a text -/
theorem RowIs.conv (h : RowIs g cap L w cur) {o n c : Nat} (hfit : o + n ≤ L.length) :
    (convert 43 9 (.slice (some ⟨g, o, none⟩) n c)).run Try.prog w = .ok (.string ⟨((L.drop o).take n).toArray⟩) w := by
  have hl : ((L.drop o).take n).length = n := by simp; omega
  have := run_convert_bytes_back w 43 9 5 ⟨g, o, none⟩ c ((L.drop o).take n) Try.underlying43 Try.underlying5 Try.underlying9 (fun j hj => by
    rw [Addr.add_lit, h.cell (i := o + j) (by omega)]
    simp)
  rw [hl] at this
  exact this
end

/-! ### The object -/
def DObj (g cap m : Nat) (B : ByteArray) (a : Int) (s : DS) : Obj :=
  .cells #[.slice (some ⟨g, 0, none⟩) (64 * s.stay.length) cap, .map (some m), .string B, .int .i64 s.made, .int .i64 a, .string s.keep, .bool s.dead] 68 (0, 0)
section
variable {b g cap m : Nat} {B : ByteArray} {a : Int} {s : DS} {w : World}
theorem DObj.c0 (h : w.heap[b]? = some (DObj g cap m B a s)) : w.cell? ⟨b, 0, none⟩ = some (.slice (some ⟨g, 0, none⟩) (64 * s.stay.length) cap) := by simp [World.cell?, h, DObj]
theorem DObj.c1 (h : w.heap[b]? = some (DObj g cap m B a s)) : w.cell? ⟨b, 1, none⟩ = some (.map (some m)) := by simp [World.cell?, h, DObj]
theorem DObj.c2 (h : w.heap[b]? = some (DObj g cap m B a s)) : w.cell? ⟨b, 2, none⟩ = some (.string B) := by simp [World.cell?, h, DObj]
theorem DObj.c3 (h : w.heap[b]? = some (DObj g cap m B a s)) : w.cell? ⟨b, 3, none⟩ = some (.int .i64 s.made) := by simp [World.cell?, h, DObj]
theorem DObj.c4 (h : w.heap[b]? = some (DObj g cap m B a s)) : w.cell? ⟨b, 4, none⟩ = some (.int .i64 a) := by simp [World.cell?, h, DObj]
theorem DObj.c5 (h : w.heap[b]? = some (DObj g cap m B a s)) : w.cell? ⟨b, 5, none⟩ = some (.string s.keep) := by simp [World.cell?, h, DObj]
theorem DObj.c6 (h : w.heap[b]? = some (DObj g cap m B a s)) : w.cell? ⟨b, 6, none⟩ = some (.bool s.dead) := by simp [World.cell?, h, DObj]
theorem DObj.fr (h : w.heap[b]? = some (DObj g cap m B a s)) (i : Nat) : w.frozen? ⟨b, i, none⟩ = false := by simp [World.frozen?, h, DObj]
end

/-- a disk in memory, with all that its object has -/
structure DAt (b g cap m : Nat) (B : ByteArray) (a : Int) (s : DS) (cur : Array Value) (D : DataW Unit) (w : World) : Prop where
  obj : w.heap[b]? = some (DObj g cap m B a s)
  row : RowIs g cap (flat s.stay) w cur
  loose : LooseAt m s.loose w D
  size : B.size ≤ 8192
  bads : ∀ k : Int, bitI B.data.toList k = s.bad k
def Foot (b g m : Nat) : Nat → Prop := fun k => k = b ∨ k = g ∨ k = m
section
variable {b g cap m : Nat} {B : ByteArray} {a : Int} {s : DS} {cur : Array Value} {D : DataW Unit} {w w' : World}
theorem DAt.bg (h : DAt b g cap m B a s cur D w) : b ≠ g := by
  obtain ⟨f, h1, _⟩ := h.row.at_
  exact ne_of_heap h.obj h1 (by simp [DObj])
theorem DAt.bm (h : DAt b g cap m B a s cur D w) : b ≠ m := by
  obtain ⟨es, clock, hb⟩ := h.loose.obj
  exact ne_of_heap h.obj hb (by simp [DObj])
theorem DAt.gm (h : DAt b g cap m B a s cur D w) : g ≠ m := by
  obtain ⟨es, clock, hb⟩ := h.loose.obj
  obtain ⟨f, h1, _⟩ := h.row.at_
  exact ne_of_heap h1 hb (by simp)
theorem DAt.lt (h : DAt b g cap m B a s cur D w) {k : Nat} (hk : Foot b g m k) : k < w.heap.size := by
  rcases hk with rfl | rfl | rfl
  · exact lt_of_heap h.obj
  · obtain ⟨f, h1, _⟩ := h.row.at_
    exact lt_of_heap h1
  · obtain ⟨es, clock, hb⟩ := h.loose.obj
    exact lt_of_heap hb
theorem DAt.stay {F : Nat → Prop} (h : DAt b g cap m B a s cur D w) (k : Stir F w w') (hn : ∀ i, Foot b g m i → ¬ F i) : DAt b g cap m B a s cur D w' :=
  ⟨k.keep h.obj (hn b (.inl rfl)), h.row.stay k (hn g (.inr (.inl rfl))), h.loose.stay k (hn m (.inr (.inr rfl))), h.size, h.bads⟩
theorem DAt.below (h : DAt b g cap m B a s cur D w) (k : Below w.heap.size w w') : DAt b g cap m B a s cur D w' := h.stay (Stir.of_below (F := fun _ => False) k) (fun _ _ h => h)
theorem DAt.drewN (h : DAt b g cap m B a s cur D w) (n : Nat) : DAt b g cap m B a s cur D (w.drewN n) := ⟨h.obj, ⟨h.row.at_, h.row.size, h.row.max, h.row.le, h.row.is⟩, ⟨h.loose.own, h.loose.size, h.loose.reads⟩, h.size, h.bads⟩
/-- a cell of the object is turned -/
theorem DAt.cell (h : DAt b g cap m B a s cur D w) {s' : DS} {a' : Int} {B' : ByteArray} (i : Nat) (x : Value) (h1 : s'.stay = s.stay) (h2 : s'.loose = s.loose) (h3 : B'.size ≤ 8192) (h4 : ∀ k : Int, bitI B'.data.toList k = s'.bad k)
    (ho : (w.setCell ⟨b, i, none⟩ x).heap[b]? = some (DObj g cap m B' a' s')) : DAt b g cap m B' a' s' cur D (w.setCell ⟨b, i, none⟩ x) :=
  ⟨ho, by rw [h1]; exact h.row.set h.bg.symm x, by rw [h2]; exact h.loose.set h.bm.symm x, h3, h4⟩
end
/-- a disk in memory -/
def DiskAt (b g m : Nat) (s : DS) (w : World) : Prop := s.Ok ∧ ∃ cap B cur D, DAt b g cap m B s.armZ s cur D w
end Go.Proofs.Ytmbknpipefbelaa
