/-
  NvF / NvG / NvH / NvI.
-/
import Derived.Test.YtmloljjllmmkoaaGreatNB
namespace Go.Proofs.YtmloljjllmmkoaaGreat
open Go.RowKit Go Go.Maps SM

/-- what keep makes of a disk: n bytes were there, now these are -/
def keepD (g n : Nat) (all : List UInt8) (s : DS) : Int × DS :=
  if (put (halfAt s.stay g) all (n / 64) ((all.length + 63) / 64 - n / 64) s).1 = 0 then heads g all.length (put (halfAt s.stay g) all (n / 64) ((all.length + 63) / 64 - n / 64) s).2
  else put (halfAt s.stay g) all (n / 64) ((all.length + 63) / 64 - n / 64) s
theorem appD_keep (g : Nat) (L : List ByteArray) (r : ByteArray) (s : DS) : appD g L r s = keepD g (recB L).length (recB (L ++ [r])) s := rfl
theorem secB_fill (all : List UInt8) (j : Nat) : secB all j = fillB (bsL ((all.drop (64 * j)).take 64)) := by
  apply ByteArray.ext
  apply Array.toList_inj.1
  simp [secB, secL, fillB, ByteArray.data_append, bsL, zeros, ByteArray.size]
theorem rest_of_row {base : Nat} {u : Value} {all : List UInt8} {w : World} (h : w.ownsRow base 5 1 u all.length (u8c all)) : Rest u all w := by
  rcases h.2 with ⟨rfl, h0⟩ | ⟨g, cap, cur, rfl, _, hg, h4, h5, h6, h7⟩
  · exact ⟨none, 0, by rw [h0], by omega, by unfold maxLen; omega, fun hne => absurd (List.eq_nil_of_length_eq_zero h0) hne⟩
  · refine ⟨_, cap, rfl, h4, h5, fun _ => ⟨g, 0, cur, _, rfl, hg, fun i hi => ?_⟩⟩
    have := h.cellAt (g := g) (cap := cap) i (by omega)
    rw [Nat.zero_add, this]
    simp [u8c, hi]
section
variable {from_ : Nat} {all : List UInt8}
theorem puts_zero (i : Nat) (s : DS) : puts from_ all 0 i s = (0, s) := rfl
theorem puts_go {k i : Nat} {s : DS} (h : s.writeE ((from_ + i : Nat) : Int) (secB all i) = 0) : puts from_ all (k + 1) i s = puts from_ all k (i + 1) (s.write ((from_ + i : Nat) : Int) (secB all i)) := by rw [puts, if_pos h]
theorem puts_stop {k i : Nat} {s : DS} (h : s.writeE ((from_ + i : Nat) : Int) (secB all i) ≠ 0) : puts from_ all (k + 1) i s = (s.writeE ((from_ + i : Nat) : Int) (secB all i), s.write ((from_ + i : Nat) : Int) (secB all i)) := by rw [puts, if_neg h]
end
theorem keepD_stop {g n : Nat} {all : List UInt8} {s sw : DS} {E : Int} (h : puts (halfAt s.stay g) all ((all.length + 63) / 64 - n / 64) (n / 64) s = (E, sw)) (hE : E ≠ 0) : keepD g n all s = (E, sw) := by
  unfold keepD put
  rw [h]
  simp [hE]
theorem keepD_sync {g n : Nat} {all : List UInt8} {s s1 : DS} (h : puts (halfAt s.stay g) all ((all.length + 63) / 64 - n / 64) (n / 64) s = (0, s1)) (hE : s1.syncE ≠ 0) : keepD g n all s = (s1.syncE, s1.sync) := by
  unfold keepD put
  rw [h]
  simp [hE]
theorem keepD_all {g n : Nat} {all : List UInt8} {s s1 : DS} (h : puts (halfAt s.stay g) all ((all.length + 63) / 64 - n / 64) (n / 64) s = (0, s1)) (hE : s1.syncE = 0) : keepD g n all s = heads g all.length s1.sync := by
  unfold keepD put
  rw [h]
  simp [hE]
section
variable {base l b g m gen : Nat} {v : Value} {B : List UInt8} {dead : Bool} {s : DS} {w0 w w' : World}
end
end Go.Proofs.YtmloljjllmmkoaaGreat

namespace Go.Proofs.YtmloljjllmmkoaaGreat
open Go.RowKit Go Go.Maps SM

/-! ### a text behind a row: where the new row lies -/
theorem run_append_text {P : Program} (w : World) (base : Nat) (t u ty e : TypeId) (i : TypeInfo) (ht : P.underlying t = some (.slice e)) (hu : P.underlying u = some .string) (hi : P.info? e = some i) (hz : i.zero = some (.int .u8 0))
    (hsize : i.size = 1) (hby : i.bytes = 1)
    (v : Value) (n : Nat) (xs : List Value) (hown : w.ownsRow base e 1 v n xs) (s : ByteArray)
    (h63 : n + s.size ≤ maxLen) (hbytes : n + s.size ≤ 140737488355328) (hbase : base ≤ w.heap.size) :
    ∃ v' w', (Builtin.append_ #[t, u] ty #[v, .string s]).run P w = .ok v' w' ∧ w'.ownsRow base e 1 v' (n + s.size) (xs ++ Lib.strCells s) ∧ w.grownBy w' v.ownBlock ∧
      (v'.ownBlock = v.ownBlock ∨ v'.ownBlock = some w.heap.size) ∧ w'.ownsRow base e 1 v n xs := by
  obtain ⟨v', w', hr, h2, h3, h4⟩ := Lib.run_append_own_string (P := P) (w := w) base t u ty e i ht hu hi hz hsize hby v n xs hown s h63 hbytes hbase
  refine ⟨v', w', hr, h2, h3, ?_⟩
  have hxl : xs.length = n := by simpa using hown.1
  rcases hown.2 with ⟨rfl, rfl⟩ | ⟨g, cap, cur, rfl, hbg, hg, hnc, hcm, hcs, htake⟩
  · by_cases hm : s.size = 0
    · have := h4.2 ⟨rfl, hm⟩
      subst this
      exact ⟨.inl rfl, hown.1, .inl ⟨rfl, rfl⟩⟩
    · have hr2 := run_append_nil_string (P := P) w t u ty e i (.int .u8 0) ht hu hi hz s (by omega) (by simp only [maxLen] at h63; omega) (by rw [hby]; omega)
      rw [hr] at hr2
      injection hr2 with e1 _
      subst e1
      exact ⟨.inr rfl, hown.1, .inl ⟨rfl, rfl⟩⟩
  · by_cases hroom : n + s.size ≤ cap
    · have hcs' : cur.size = cap := by simpa using hcs
      have hr2 := Lib.run_append_room_string (P := P) (w := w) t u ty e i ht hu hi hsize g n cap cur hg s hroom (by omega)
      rw [hr] at hr2
      injection hr2 with e1 e2
      subst e1
      subst e2
      refine ⟨.inl rfl, hown.1, .inr ⟨g, cap, _, rfl, hbg, setRow_heap w g cur _ e _ hg, hnc, hcm, ?_, ?_⟩⟩
      · simp only [List.size_toArray, List.length_append, List.length_take, List.length_drop, Array.length_toList, Lib.strCells_length]
        omega
      · have ht' : cur.toList.take n = xs := by simpa using htake
        rw [ht', List.append_assoc, Nat.mul_one, ← hxl]
        exact List.take_left
    · have holds : ∀ j u, xs[j]? = some u → w.cell? ((⟨g, 0, none⟩ : Addr).add j) = some u := hown.cells (g := g) rfl
      have hr2 := Lib.run_append_grow_string (P := P) (w := w) t u ty e i (.int .u8 0) ht hu hi hz ⟨g, 0, none⟩ n cap xs (by rw [hsize]; simpa using hxl) holds s (by omega) (by simp only [maxLen] at h63; omega) (by rw [hby]; exact growslice_fits (by omega) (by omega))
      rw [hr] at hr2
      injection hr2 with e1 e2
      subst e1
      subst e2
      exact ⟨.inr rfl, hown.1, .inr ⟨g, cap, cur, rfl, hbg, by rw [Below.heap_alloc w.drew _ g (lt_of_heap hg)]; exact hg, hnc, hcm, hcs, htake⟩⟩
theorem wpList_append_text {P : Program} (w : World) {ops : Array Oper} {rest : List Oper} {o : Oper} {a : Act} {Q : Exit → Act → World → Prop} (hgd : o.guard = none) (sl x : Operand) (t u : TypeId)
    (ho : o.op = .call { callee := .builtin .append, args := #[sl, x], argTypes := #[t, u] })
    (base : Nat) (e : TypeId) (i : TypeInfo) (ht : P.underlying t = some (.slice e)) (hu : P.underlying u = some .string) (hi : P.info? e = some i) (hz : i.zero = some (.int .u8 0))
    (hsize : i.size = 1) (hby : i.bytes = 1)
    (v : Value) (n : Nat) (xs : List Value) (hs : a.eval sl = v) (hown : w.ownsRow base e 1 v n xs) (s : ByteArray) (hx : a.eval x = .string s)
    (h63 : n + s.size ≤ maxLen) (hbytes : n + s.size ≤ 140737488355328) (hbase : base ≤ w.heap.size)
    (h : ∀ v' w', w'.ownsRow base e 1 v' (n + s.size) (xs ++ Lib.strCells s) → w.grownBy w' v.ownBlock → (v'.ownBlock = v.ownBlock ∨ v'.ownBlock = some w.heap.size) ∧ w'.ownsRow base e 1 v n xs → wpList P ops Q rest (a.put o.dst v') w') : wpList P ops Q (o :: rest) a w := by
  refine wpList_plain hgd fun K hK => ?_
  obtain ⟨v', w', hr, h2, h3, h4⟩ := run_append_text (P := P) w base t u o.type e i ht hu hi hz hsize hby v n xs hown s h63 hbytes hbase
  unfold Oper.wp execOp
  simp only [ho, resolve, invoke, builtin, Sem.run_bind, Sem.run_pure, Result.andThen_ok, List.map_toArray, List.map_cons, List.map_nil, hs, hx, hr]
  exact hK _ _ (h v' w' h2 h3 h4)
theorem strCells_u8c (s : ByteArray) : Lib.strCells s = u8c s.data.toList := rfl

/-! ### a log as plain data -/
structure LS where
  gen : Nat
  recs : List ByteArray
  dead : Bool
  disk : DS
def LS.full (x : LS) (r : ByteArray) : Bool := decide (64 * halfN x.disk < (recB x.recs).length + 2 + r.size)
def LS.appE (x : LS) (r : ByteArray) : Int := if 1300 < r.size then 71 else if x.dead then 2 else if x.full r then 72 else (appD x.gen x.recs r x.disk).1
def LS.app (x : LS) (r : ByteArray) : LS := if 1300 < r.size then x else if x.dead then x else if x.full r then x else
  if (appD x.gen x.recs r x.disk).1 = 0 then { x with recs := x.recs ++ [r], disk := (appD x.gen x.recs r x.disk).2 } else { x with dead := (appD x.gen x.recs r x.disk).1 == 2, disk := (appD x.gen x.recs r x.disk).2 }
def LS.form (x : LS) (n : Int) : Bool := decide (n ≤ x.gen) || decide (1099511627776 < n)
def LS.startE (x : LS) (n : Int) : Int := if x.form n then 70 else if x.dead then 2 else (heads n.toNat 0 x.disk).1
def LS.start (x : LS) (n : Int) : LS := if x.form n then x else if x.dead then x else
  if (heads n.toNat 0 x.disk).1 = 0 then { gen := n.toNat, recs := [], dead := x.dead, disk := (heads n.toNat 0 x.disk).2 } else { x with dead := (heads n.toNat 0 x.disk).1 == 2, disk := (heads n.toNat 0 x.disk).2 }
section
variable {base l b g m : Nat} {v : Value} {x : LS} {w w' : World}
theorem len_puts {from_ : Nat} {all : List UInt8} : ∀ (k i : Nat) (s : DS), (puts from_ all k i s).2.stay.length = s.stay.length ∧ (puts from_ all k i s).2.made ≤ s.made + k
  | 0, _, _ => ⟨rfl, Nat.le_refl _⟩
  | k + 1, i, s => by
    rw [puts]
    split
    · obtain ⟨h1, h2⟩ := len_puts k (i + 1) (s.write ((from_ + i : Nat) : Int) (secB all i))
      have := made_write' s ((from_ + i : Nat) : Int) (secB all i)
      exact ⟨h1.trans (len_write ..), by omega⟩
    · have := made_write' s ((from_ + i : Nat) : Int) (secB all i)
      exact ⟨len_write .., by show (s.write _ _).made ≤ _; omega⟩
theorem len_put {from_ : Nat} {all : List UInt8} (lo k : Nat) (s : DS) : (put from_ all lo k s).2.stay.length = s.stay.length ∧ (put from_ all lo k s).2.made ≤ s.made + k + 1 := by
  obtain ⟨h1, h2⟩ := len_puts (from_ := from_) (all := all) k lo s
  unfold put
  split
  · have := made_sync' (puts from_ all k lo s).2
    exact ⟨(len_sync _).trans h1, by show (puts from_ all k lo s).2.sync.made ≤ _; omega⟩
  · exact ⟨h1, by omega⟩
theorem len_heads (g u : Nat) (s : DS) : (heads g u s).2.stay.length = s.stay.length ∧ (heads g u s).2.made ≤ s.made + 2 := len_put 0 1 s
theorem len_keepD (g n : Nat) (all : List UInt8) (s : DS) : (keepD g n all s).2.stay.length = s.stay.length ∧ (keepD g n all s).2.made ≤ s.made + ((all.length + 63) / 64 - n / 64) + 3 := by
  obtain ⟨h1, h2⟩ := len_put (from_ := halfAt s.stay g) (all := all) (n / 64) ((all.length + 63) / 64 - n / 64) s
  unfold keepD
  split
  · obtain ⟨h3, h4⟩ := len_heads g all.length (put (halfAt s.stay g) all (n / 64) ((all.length + 63) / 64 - n / 64) s).2
    exact ⟨h3.trans h1, by omega⟩
  · exact ⟨h1, by omega⟩
end
end Go.Proofs.YtmloljjllmmkoaaGreat

namespace Go.Proofs.YtmloljjllmmkoaaGreat
open Go.RowKit Go Go.Maps SM

section
variable {base l b g m : Nat} {v : Value} {x : LS} {w w' : World}
theorem recB_snoc (L : List ByteArray) (r : ByteArray) : recB (L ++ [r]) = recB L ++ (bsL (leN r.size 2) ++ r).data.toList := by
  rw [recB_append, recB_cons, recB_nil, List.append_nil]
  simp [ByteArray.data_append, bsL]
end
end Go.Proofs.YtmloljjllmmkoaaGreat

namespace Go.Proofs.YtmloljjllmmkoaaGreat
open Go.RowKit Go Go.Maps SM

theorem step_append_text {P : Program} (w : World) {ops : Array Oper} {o : Oper} {a : Act} {K : Act → World → Prop} {Q : Exit → Act → World → Prop} {E : Prop} (hgd : o.guard = none) (sl x : Operand) (t u : TypeId)
    (ho : o.op = .call { callee := .builtin .append, args := #[sl, x], argTypes := #[t, u] })
    (base : Nat) (e : TypeId) (i : TypeInfo) (ht : P.underlying t = some (.slice e)) (hu : P.underlying u = some .string) (hi : P.info? e = some i) (hz : i.zero = some (.int .u8 0))
    (hsize : i.size = 1) (hby : i.bytes = 1)
    (v : Value) (n : Nat) (xs : List Value) (hs : a.eval sl = v) (hown : w.ownsRow base e 1 v n xs) (s : ByteArray) (hx : a.eval x = .string s)
    (h63 : n + s.size ≤ maxLen) (hbytes : n + s.size ≤ 140737488355328) (hbase : base ≤ w.heap.size)
    (h : ∀ v' w', w'.ownsRow base e 1 v' (n + s.size) (xs ++ Lib.strCells s) → w.grownBy w' v.ownBlock → (v'.ownBlock = v.ownBlock ∨ v'.ownBlock = some w.heap.size) → K (a.put o.dst v') w') :
    if Region.wanted o (yielded ops a.tmps) = true then Oper.wp P o a w K Q else E := by
  have hw : Region.wanted o (yielded ops a.tmps) = true := by simp [Region.wanted, hgd]
  rw [if_pos hw]
  obtain ⟨v', w', hr, h2, h3, h4, _⟩ := run_append_text (P := P) w base t u o.type e i ht hu hi hz hsize hby v n xs hown s h63 hbytes hbase
  unfold Oper.wp execOp
  simp only [ho, resolve, invoke, builtin, Sem.run_bind, Sem.run_pure, Result.andThen_ok, List.map_toArray, List.map_cons, List.map_nil, hs, hx, hr]
  exact h v' w' h2 h3 h4

section
variable {base l b g m gen : Nat} {v : Value} {x : LS} {s : DS} {w w' : World}
/-! ### Records -/
/-! ### Format -/
def formE (s : DS) (n : Int) : Int := if s.stay.length < 5 ∨ n < 0 ∨ 1099511627776 < n then 70 else (heads n.toNat 0 s).1
def formD (s : DS) (n : Int) : DS := if s.stay.length < 5 ∨ n < 0 ∨ 1099511627776 < n then s else (heads n.toNat 0 s).2
end
end Go.Proofs.YtmloljjllmmkoaaGreat

