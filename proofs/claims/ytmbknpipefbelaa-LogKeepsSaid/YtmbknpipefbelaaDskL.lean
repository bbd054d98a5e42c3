/-
  A disk: what holds in each round of settle's loop; the step of the loop; the closures.
-/
import Derived.Test.YtmbknpipefbelaaDskA
import Derived.LoopNIn
import Derived.Deep.RegionHeld3
import Derived.Deep.LoopGhost
namespace Go.Proofs.Ytmbknpipefbelaa
open Go.RowKit Go Go.Maps SM

/-- some loose sectors stay; none is loose then -/
def DS.settledBy (s : DS) (f : Nat → Bool) : DS := { s with stay := laid f s.loose s.stay, loose := [] }
/-- what stays while some keys are still to come -/
def part (f : Nat → Bool) (l : List (Int × ByteArray)) (left : Lit → Bool) (st : List ByteArray) : List ByteArray :=
  st.mapIdx fun k b => match seek (k : Int) l 0 with
    | some z => if !left (lit k) && f z.1 then z.2 else b
    | none => b
theorem length_part (f : Nat → Bool) (l : List (Int × ByteArray)) (left : Lit → Bool) (st : List ByteArray) : (part f l left st).length = st.length := by simp [part]
theorem get_part (f : Nat → Bool) (l : List (Int × ByteArray)) (left : Lit → Bool) (st : List ByteArray) (k : Nat) (h : k < st.length) :
    (part f l left st)[k]'(by rw [length_part]; exact h) = match seek (k : Int) l 0 with
      | some z => if !left (lit k) && f z.1 then z.2 else st[k]
      | none => st[k] := by simp [part]
theorem part_start {D : DataW Unit} {l : List (Int × ByteArray)} (h : Reads D l) (f : Nat → Bool) (st : List ByteArray) : part f l (Maps.has D) st = st := by
  apply List.ext_getElem (length_part _ _ _ _)
  intro k h1 h2
  rw [get_part _ _ _ _ _ h2, h.has]
  cases seek (k : Int) l 0 <;> rfl
theorem part_end {left : Lit → Bool} (h : ∀ kl, left kl = false) (f : Nat → Bool) (l : List (Int × ByteArray)) (st : List ByteArray) : part f l left st = laid f l st := by
  apply List.ext_getElem (by rw [length_part, length_laid])
  intro k h1 h2
  have hk : k < st.length := by rw [length_part] at h1; exact h1
  rw [get_part _ _ _ _ _ hk, get_laid _ _ _ _ hk, h]
  rfl
theorem part_step {l : List (Int × ByteArray)} {x : Int} {p : Nat} {y : ByteArray} (hs : seek x l 0 = some (p, y)) (h0 : 0 ≤ x) (f : Nat → Bool) (left : Lit → Bool) (st : List ByteArray) :
    part f l (fun z => left z && !z.sameKey (lit x)) st = if f p then (part f l left st).set x.toNat y else part f l left st := by
  have same : ∀ k : Nat, (k : Int) = x → (lit (k : Int)).sameKey (lit x) = true := fun k e => by rw [e]; exact WideAt.sameKey_self (show WideAt.IsKeyLit (.int .i64 x) from trivial)
  have other : ∀ k : Nat, (k : Int) ≠ x → (lit (k : Int)).sameKey (lit x) = false := fun k e => sameKey_ne (lit_ne e)
  by_cases hf : f p
  · rw [if_pos hf]
    apply List.ext_getElem (by simp [length_part])
    intro k h1 h2
    have hk : k < st.length := by rw [length_part] at h1; exact h1
    rw [get_part _ _ _ _ _ hk, List.getElem_set, get_part _ _ _ _ _ hk]
    by_cases e : (k : Int) = x
    · rw [if_pos (by omega), same k e, e, hs]
      simp [hf]
    · rw [if_neg (by omega), other k e]
      simp
  · rw [if_neg hf]
    apply List.ext_getElem (by rw [length_part, length_part])
    intro k h1 h2
    have hk : k < st.length := by rw [length_part] at h1; exact h1
    rw [get_part _ _ _ _ _ hk, get_part _ _ _ _ _ hk]
    by_cases e : (k : Int) = x
    · rw [same k e, e, hs]
      simp [hf]
    · rw [other k e]
      simp
theorem part_size {f : Nat → Bool} {l : List (Int × ByteArray)} {left : Lit → Bool} {st : List ByteArray} (h1 : ∀ b ∈ st, b.size = 64) (h2 : ∀ q ∈ l, q.2.size = 64) : ∀ b ∈ part f l left st, b.size = 64 := by
  intro b hb
  obtain ⟨k, hk, rfl⟩ := List.mem_iff_getElem.1 hb
  have hk' : k < st.length := by rw [length_part] at hk; exact hk
  rw [get_part _ _ _ _ _ hk']
  cases hs : seek (k : Int) l 0 with
  | none => exact h1 _ (List.getElem_mem _)
  | some z =>
    obtain ⟨i, hi, _, e2⟩ := seek_some hs
    simp only
    split
    · exact h2 (k, z.2) (e2 ▸ List.getElem_mem _)
    · exact h1 _ (List.getElem_mem _)

/-- a step of the loop over loose sectors -/
theorem wpList_next_loose (w : World) {ops : Array Oper} {rest : List Oper} {o : Oper} {a : Act} {Q : Exit → Act → World → Prop} (hg : o.guard = none) (it : Operand) (hop : o.op = Op.next it false)
    (b r n : Nat) (D : DataW Unit) (l : List (Int × ByteArray)) (hD : Reads D l) (left : Lit → Bool) (cnt : Nat) (hit : a.eval it = .pointer (some ⟨r, 0, none⟩)) (h : w.ranges Try.prog 3 wrElem b r n D left cnt)
    (hDone : cnt = 0 → (∀ kl, left kl = false) → wpList Try.prog ops Q rest (a.put o.dst (.tuple #[.bool false])) w)
    (hMore : ∀ (x : Int) (p : Nat) (y : ByteArray) (w' : World) (cnt' : Nat), seek x l 0 = some (p, y) → left (lit x) = true → w'.ranges Try.prog 3 wrElem b r n D (fun z => left z && !z.sameKey (lit x)) cnt' → cnt' < cnt →
      w.grownBy w' (some r) → w'.heap.size = w.heap.size → (Instr.entry (.pointer (some ⟨r, 0, none⟩))).run Try.prog w' = .ok (.tuple #[.int .i64 x, .agg #[.int .i64 p, .string y]]) w' → wpList Try.prog ops Q rest (a.put o.dst (.tuple #[.bool true, .int .i64 x, .agg #[.int .i64 p, .string y]])) w') :
    wpList Try.prog ops Q (o :: rest) a w :=
  wpList_next_ranges w hg it hop 3 lawM wrElem (Value.int .i64) (fun z : Int × ByteArray => wrV z.1 z.2)
    (fun key kl hkey => by obtain ⟨x, rfl, _⟩ := Maps.keyOf_int_inv Try.underlying3 hkey; exact ⟨x, rfl⟩) (fun v y hv => by obtain ⟨p, x, rfl, _⟩ := wrElem_inv hv; exact ⟨(p, x), rfl⟩)
    b r n D left cnt hit h hDone (fun x c kl y w' cnt' hkey hlk hv hat hrg hlt hgr hsz hen => by
      obtain ⟨x', ex, rfl, hwx⟩ := Maps.keyOf_int_inv Try.underlying3 hkey
      cases ex
      obtain ⟨d, ps⟩ := y
      cases hs : seek x l 0 with
      | none =>
        have e1 := fun z => (hD x z).symm.trans (hat z)
        simp only [hs] at e1
        have := (e1 .nil).trans (e1 (.lit (.bool true))).symm
        cases this
      | some z =>
        have e1 := (hD x .nil).symm.trans (hat .nil)
        simp only [hs] at e1
        subst e1
        have e2 := wrElem_is hv
        simp only [wrV, Value.agg.injEq] at e2
        have e3 := congrArg Array.toList e2
        simp only [List.cons.injEq, Value.int.injEq, Value.string.injEq, true_and, and_true] at e3
        obtain ⟨c1, c2⟩ := c
        simp only at e3
        obtain ⟨rfl, rfl⟩ := e3
        exact hMore x z.1 z.2 w' cnt' hs hlk hrg hlt hgr hsz hen)

/-- in a round of settle's loop -/
structure Round (b g cap m : Nat) (B : ByteArray) (a : Int) (s : DS) (D : DataW Unit) (f : Nat → Bool) (w wr : World) (r : Nat) (left : Lit → Bool) (cnt : Nat) : Prop where
  rng : wr.ranges Try.prog 3 wrElem m r s.loose.length D left cnt
  obj : wr.heap[b]? = some (DObj g cap m B a s)
  row : ∃ cur, RowIs g cap (flat (part f s.loose left s.stay)) wr cur
  stir : Stir (· = g) w wr
  new : r = w.heap.size
section
variable {b g cap m : Nat} {B : ByteArray} {a : Int} {s : DS} {cur : Array Value} {D : DataW Unit} {f : Nat → Bool} {w wr w1 : World} {r cnt cnt1 : Nat} {left : Lit → Bool}
theorem Round.start (h : DAt b g cap m B a s cur D w) (hrg : wr.ranges Try.prog 3 wrElem m w.heap.size s.loose.length D (Maps.has D) (Maps.size D)) (hB : Below w.heap.size w wr) :
    Round b g cap m B a s D f w wr w.heap.size (Maps.has D) (Maps.size D) :=
  ⟨hrg, keeps_of hB h.obj, ⟨cur, by rw [part_start h.loose.reads]; exact h.row.stay (Stir.of_below (F := fun _ => False) hB) (fun h => h)⟩, Stir.of_below hB, rfl⟩
end

/-- an entry has come -/
structure Came (b g cap m : Nat) (B : ByteArray) (a : Int) (s : DS) (D : DataW Unit) (f : Nat → Bool) (w wr : World) (r : Nat) (left : Lit → Bool) (cnt : Nat) (x : Int) (p : Nat) (y : ByteArray) : Prop where
  rng : wr.ranges Try.prog 3 wrElem m r s.loose.length D (fun z => left z && !z.sameKey (lit x)) cnt
  obj : wr.heap[b]? = some (DObj g cap m B a s)
  row : ∃ cur, RowIs g cap (flat (part f s.loose left s.stay)) wr cur
  stir : Stir (· = g) w wr
  new : r = w.heap.size
  here : seek x s.loose 0 = some (p, y)
section
variable {b g cap m : Nat} {B : ByteArray} {a : Int} {s : DS} {cur : Array Value} {D : DataW Unit} {f : Nat → Bool} {w wr w1 w2 : World} {r cnt cnt1 : Nat} {left : Lit → Bool} {x : Int} {p : Nat} {y : ByteArray}
theorem Round.gr (h : Round b g cap m B a s D f w wr r left cnt) (h0 : DAt b g cap m B a s cur D w) : g ≠ r ∧ b ≠ r ∧ m ≠ r := by
  have h1 := h0.lt (.inl rfl)
  have h2 := h0.lt (.inr (.inl rfl))
  have h3 := h0.lt (.inr (.inr rfl))
  have h4 := h.new
  omega
theorem Round.came (h : Round b g cap m B a s D f w wr r left cnt) (h0 : DAt b g cap m B a s cur D w) (hs : seek x s.loose 0 = some (p, y)) (hrg : w1.ranges Try.prog 3 wrElem m r s.loose.length D (fun z => left z && !z.sameKey (lit x)) cnt1)
    (hg : wr.grownBy w1 (some r)) : Came b g cap m B a s D f w w1 r left cnt1 x p y := by
  obtain ⟨n1, n2, n3⟩ := h.gr h0
  obtain ⟨cur', hrow⟩ := h.row
  have S : Stir (· = r) wr w1 := ⟨hg.os, hg.tape, hg.output, hg.size, fun k hk hn => hg.block k hk (fun e => hn (Option.some.inj e))⟩
  exact ⟨hrg, S.keep h.obj n2, ⟨cur', hrow.stay S n1⟩, h.stir.trans S (fun i hi => .inr (by rw [hi, h.new]; exact Nat.le_refl _)), h.new, hs⟩
theorem Came.below (h : Came b g cap m B a s D f w w1 r left cnt x p y) (k : Below w1.heap.size w1 w2) : Came b g cap m B a s D f w w2 r left cnt x p y := by
  obtain ⟨cur', hrow⟩ := h.row
  exact ⟨h.rng.kept (grown_of_below k) (by simp) (by simp), keeps_of k h.obj, ⟨cur', hrow.stay (Stir.of_below (F := fun _ => False) k) (fun h => h)⟩, h.stir.and_below k, h.new, h.here⟩
theorem Came.facts (h : Came b g cap m B a s D f w w1 r left cnt x p y) (hk : s.Ok) : 0 ≤ x ∧ x < s.stay.length ∧ y.size = 64 ∧ p < s.loose.length := by
  obtain ⟨i, hi, e1, e2⟩ := seek_some h.here
  obtain ⟨k1, k2, k3⟩ := hk.key (x, y) (e2 ▸ List.getElem_mem _)
  exact ⟨k1, k2, k3, by simp at e1; omega⟩
theorem Came.skip (h : Came b g cap m B a s D f w w1 r left cnt x p y) (hk : s.Ok) (hf : f p = false) : Round b g cap m B a s D f w w1 r (fun z => left z && !z.sameKey (lit x)) cnt := by
  refine ⟨h.rng, h.obj, ?_, h.stir, h.new⟩
  rw [part_step h.here (h.facts hk).1, hf]
  exact h.row
theorem Came.copy (h : Came b g cap m B a s D f w w1 r left cnt x p y) (h0 : DAt b g cap m B a s cur D w) (hk : s.Ok) (hf : f p = true) {cu : Array Value} (hr : RowIs g cap (flat (part f s.loose left s.stay)) w1 cu) :
    Round b g cap m B a s D f w (w1.setRow g (cu.toList.take (64 * x.toNat) ++ Lib.byteCells y.data.toList ++ cu.toList.drop (64 * x.toNat + y.size)).toArray) r (fun z => left z && !z.sameKey (lit x)) cnt := by
  obtain ⟨k1, k2, k3, _⟩ := h.facts hk
  have hsz := part_size (f := f) (l := s.loose) (left := left) (st := s.stay) hk.sz (fun q hq => (hk.key q hq).2.2)
  have hx : x.toNat < (part f s.loose left s.stay).length := by rw [length_part]; omega
  have hc := hr.copied (o := 64 * x.toNat) (s := y) (by rw [length_flat hsz]; omega)
  have hgg : w1.grownBy (w1.setRow g (cu.toList.take (64 * x.toNat) ++ Lib.byteCells y.data.toList ++ cu.toList.drop (64 * x.toNat + y.size)).toArray) (some g) :=
    ⟨rfl, rfl, rfl, by simp [World.setRow], fun k _ hk => setRow_other _ _ _ _ (fun e => hk (by rw [e]))⟩
  have S : Stir (· = g) w1 (w1.setRow g (cu.toList.take (64 * x.toNat) ++ Lib.byteCells y.data.toList ++ cu.toList.drop (64 * x.toNat + y.size)).toArray) :=
    ⟨rfl, rfl, rfl, hgg.size, fun k hk hn => hgg.block k hk (fun e => hn (Option.some.inj e))⟩
  have h1 := h0.lt (.inr (.inl rfl))
  refine ⟨h.rng.kept hgg (fun e => h0.gm (Option.some.inj e).symm) (fun e => by have := Option.some.inj e; have := h.new; omega), S.keep h.obj h0.bg, ⟨(cu.toList.take (64 * x.toNat) ++ Lib.byteCells y.data.toList ++ cu.toList.drop (64 * x.toNat + y.size)).toArray, ?_⟩, h.stir.trans S (fun i hi => .inl hi), h.new⟩
  rw [part_step h.here k1, hf, if_pos rfl, flat_set hsz _ hx]
  rw [k3] at hc
  rw [k3]
  exact hc
theorem Round.cleared (h : Round b g cap m B a s D f w wr r left cnt) (h0 : DAt b g cap m B a s cur D w) (hl : ∀ kl, left kl = false) (hown : w2.ownsMap Try.prog 3 wrElem m 0 (.map [])) (ht : wr.mapTurned w2 m) :
    (∃ cur' D', DAt b g cap m B a (s.settledBy f) cur' D' w2) ∧ Stir (fun k => k = g ∨ k = m) w w2 := by
  obtain ⟨cur', hrow⟩ := h.row
  have S : Stir (fun k => k = g ∨ k = m) w w2 := (h.stir.weaken (fun k e => .inl e)).turned (.inl (.inr rfl)) ht
  have S1 : Stir (· = m) wr w2 := (Stir.refl (· = m) wr).turned (.inl rfl) ht
  rw [part_end hl] at hrow
  have e1 : DObj g cap m B a (s.settledBy f) = DObj g cap m B a s := by simp [DObj, DS.settledBy, length_laid]
  exact ⟨⟨cur', .map [], by rw [e1]; exact S1.keep h.obj h0.bm, hrow.stay S1 h0.gm, ⟨hown, rfl, reads_nil⟩, h0.size, h0.bads⟩, S⟩
end

/-- the closures -/
def allP : Nat → Bool := fun _ => true
theorem yes_any (p : Nat) (w : World) : Calls Try.prog 74 #[.int .i64 p] w fun e w' => e = .returned (.bool (allP p)) ∧ w = w' := by
  show Calls Try.prog 74 #[.int .i64 p] w fun e w' => e = .returned (.bool true) ∧ w = w'
  go_enter Try.func74, Try.ntmps74
  go_wp2
  go_ret
  exact ⟨rfl, rfl⟩
theorem kept_any {keep : ByteArray} (hk : keep.size ≤ 140737488355328) {x : Nat} (p : Nat) (hp : p ≤ 1099511627776) (w : World) (hx : w.cell? ⟨x, 0, none⟩ = some (.string keep)) :
    Calls Try.prog 57 #[.int .i64 p, .pointer (some ⟨x, 0, none⟩)] w fun e w' => e = .returned (.bool (keepsAt keep p)) ∧ w = w' := by
  have C := fun w => has_any keep p w hk (by omega) (by omega)
  unfold keepsAt
  go_enter Try.func57, Try.ntmps57
  go_wp2_with fail
  refine (C _).mono ?_
  rintro e w' ⟨rfl, rfl⟩
  go_wp2
  go_ret
  exact ⟨rfl, rfl⟩

end Go.Proofs.Ytmbknpipefbelaa
