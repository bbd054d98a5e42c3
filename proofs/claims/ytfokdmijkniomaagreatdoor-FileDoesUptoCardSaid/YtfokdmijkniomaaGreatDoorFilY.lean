/-
  Numbers in a map of numbers; two such maps held against each other.
-/
import Derived.Test.YtfokdmijkniomaaGreatDoorFilX
import Derived.Test.YtfokdmijkniomaaGreatDoorFilLay
import Derived.Test.YtfokdmijkniomaaGreatDoorF2
namespace Go.Proofs.YtfokdmijkniomaaGreatDoor
open Go.RowKit Go Go.Maps Go.WideElems

/-- a map's datum tells what each number stands for -/
def ReadsC (D : DataW Unit) (f : Int → Option Int) : Prop := ∀ k z, D.atKey (litI k) z = match f k with
  | some v => .lit (.int .i64 v)
  | none => z
def CntAt (w : World) (g n : Nat) (f : Int → Option Int) : Prop := ∃ D, w.ownsMap Tryz.prog 3 intElem g (Maps.size D) D ∧ Maps.size D ≤ n ∧ ReadsC D f
section
variable {w w' : World} {g h n m : Nat} {f f' : Int → Option Int}
theorem ReadsC.has {D : DataW Unit} (h : ReadsC D f) (k : Int) : Maps.has D (litI k) = (f k).isSome := by
  cases e : f k with
  | none => exact Maps.has_false_of_atKey (fun z => by rw [h k z, e])
  | some v => exact Maps.has_true_of_atKey (y := .lit (.int .i64 v)) (fun z => by rw [h k z, e])
theorem CntAt.new (w : World) : CntAt (w.alloc (.map #[] 0)) w.heap.size 0 (fun _ => none) :=
  ⟨.map [], World.ownsMap_made w _ _ _, Nat.le_refl _, fun _ _ => rfl⟩
theorem CntAt.stay {F : Nat → Prop} (h : CntAt w g n f) (s : Stir F w w') (hn : ¬ F g) : CntAt w' g n f := by
  obtain ⟨D, h1, h2⟩ := h
  exact ⟨D, owns_stay h1 s hn, h2⟩
theorem CntAt.lt (h : CntAt w g n f) : g < w.heap.size := by
  obtain ⟨D, h1, _⟩ := h
  exact h1.lt
theorem CntAt.put (h : CntAt w g n f) (hn : n < 100000) {k v : Int} (hk : IntOk k) (hv : IntOk v) :
    ∃ w', (Instr.mapUpdate 158 (.map (some g)) (.int .i64 k) (.int .i64 v)).run Tryz.prog w = .ok () w' ∧ CntAt w' g (n + 1) (updI f k (some v)) ∧ w.mapTurned w' g := by
  obtain ⟨D, hD, hsz, hrd⟩ := h
  obtain ⟨w', h1, h2, h3⟩ := hD.store lawI Tryz.underlying158 (by unfold maxLen; omega) (keyI hk) (val := .int .i64 v) (d := .lit (.int .i64 v)) (ps := []) (plainElem_int Tryz.underlying3 (wf_int hv))
  refine ⟨w', h1, ⟨_, owns_fit h2, ?_, fun j z => ?_⟩, h3⟩
  · have := Maps.size_put (k := litI k) (d := DataW.lit (H := Unit) (.int .i64 v)) (hD.tidy lawI)
    rw [this]
    split <;> omega
  · by_cases e : k = j
    · subst e
      rw [atKey_put_same (k := litI k) hD.isMap trivial, updI_same]
    · rw [atKey_put_other (fun e2 => e (litI_inj e2).symm), hrd j z, updI_other _ _ (fun e2 => e e2.symm)]
theorem CntAt.get (h : CntAt w g n f) {k : Int} (hk : IntOk k) : (Instr.lookup 158 (.map (some g)) (.int .i64 k) false).run Tryz.prog w = .ok (.int .i64 ((f k).getD 0)) w := by
  obtain ⟨D, hD, _, hr⟩ := h
  obtain ⟨c, hrun, hat, _⟩ := hD.lookup_int lawI Tryz.underlying158 Tryz.underlying3 (zeroI w) (keyI hk)
  rw [hrun]
  rw [hr] at hat
  cases e : f k with
  | none => rw [e] at hat; simp only [DataW.lit.injEq, Lit.int.injEq, true_and] at hat; rw [← hat]; rfl
  | some k => rw [e] at hat; simp only [DataW.lit.injEq, Lit.int.injEq, true_and] at hat; rw [← hat]; rfl
end
theorem int_entries {R : Value → Option (DataW Unit × List MemPlace)} {w : World} {g n : Nat} {D : DataW Unit} (h : w.ownsMap Tryz.prog 3 R g n D) : ∃ es, D = .map es ∧ es.Pairwise (fun p q => p.1 ≠ q.1) ∧ ∀ p ∈ es, ∃ k, p.1 = litI k := by
  obtain ⟨es, clock, _, F, _, rfl⟩ := h
  refine ⟨_, rfl, ((Go.WideShapes.sorted_perm _).pairwise_iff (fun {_ _} hne => Ne.symm hne)).2 (Maps.fit_apart lawI F), fun p hp => ?_⟩
  obtain ⟨x, hx, rfl⟩ := List.mem_map.1 (mem_sorted.1 hp)
  obtain ⟨y, hy⟩ := F.reads x hx
  rw [rg_of hy]
  obtain ⟨k, _, e, _⟩ := Maps.keyOf_int_inv Tryz.underlying3 (rd_key hy)
  exact ⟨k, e⟩
theorem sub_lenG {α : Type} [DecidableEq α] : ∀ {l m : List α}, l.Nodup → (∀ x ∈ l, x ∈ m) → l.length ≤ m.length
  | [], _, _, _ => Nat.zero_le _
  | x :: l, m, hn, hs => by
    obtain ⟨h1, h2⟩ := List.nodup_cons.1 hn
    have hx := hs x (by simp)
    have := sub_lenG (l := l) (m := m.erase x) h2 fun y hy => (List.mem_erase_of_ne (fun e => by subst e; exact h1 hy)).2 (hs y (List.mem_cons_of_mem _ hy))
    rw [List.length_erase_of_mem hx] at this
    have := List.length_pos_of_mem hx
    simp only [List.length_cons]
    omega
theorem sub_eqG {α : Type} [DecidableEq α] {l m : List α} (hl : l.Nodup) (hs : ∀ x ∈ l, x ∈ m) (he : m.length ≤ l.length) : ∀ x ∈ m, x ∈ l := by
  intro x hx
  refine Classical.byContradiction fun hn => ?_
  have := sub_lenG (l := x :: l) (m := m) (List.nodup_cons.2 ⟨hn, hl⟩) fun y hy => by
    rcases List.mem_cons.1 hy with rfl | hy
    · exact hx
    · exact hs y hy
  simp only [List.length_cons] at this
  omega
theorem ReadsC.entry {es : List (Lit × DataW Unit)} {f : Int → Option Int} (h : ReadsC (.map es) f) (hp : es.Pairwise (fun p q => p.1 ≠ q.1)) {p : Lit × DataW Unit} (hm : p ∈ es) {k : Int} (hk : p.1 = litI k) : ∃ v, f k = some v ∧ p.2 = .lit (.int .i64 v) := by
  have hx : ∀ z, (DataW.map es).atKey (litI k) z = p.2 := fun z => WideAt.atKey_mem z (show WideAt.IsKeyLit (litI k) from trivial) hp (by rw [← hk]; exact hm)
  cases e : f k with
  | none =>
    have e1 := fun z => (hx z).symm.trans (h k z)
    simp only [e] at e1
    have := (e1 .nil).symm.trans (e1 (.lit (.bool true)))
    cases this
  | some v =>
    have := (hx .nil).symm.trans (h k .nil)
    simp only [e] at this
    exact ⟨v, rfl, this⟩
theorem ReadsC.mem {es : List (Lit × DataW Unit)} {f : Int → Option Int} (h : ReadsC (.map es) f) {k v : Int} (hk : f k = some v) : litI k ∈ es.map (·.1) := by
  have := h.has k
  rw [hk] at this
  obtain ⟨p, hp, hs⟩ := List.any_eq_true.1 (show es.any (fun p => p.1.sameKey (litI k)) = true from this)
  exact List.mem_map.2 ⟨p, hp, WideAt.sameKey_eq hs⟩
/-- what == says of two numbers, as they read -/
def sameD : DataW Unit → DataW Unit → Bool
  | .lit (.int _ x), .lit (.int _ y) => x == y
  | _, _ => false
theorem neq_nums (W : World) (x y : Value) (xd yd : DataW Unit) (xp yp : List MemPlace) (hx : plainElem Tryz.prog 3 x = some (xd, xp)) (hy : plainElem Tryz.prog 3 y = some (yd, yp)) :
    (binOp .neq 3 x y).run Tryz.prog W = .ok (.bool (!sameD xd yd)) W ∧ ∀ (a b : Operand), (eqGuard .neq 3 a b x y).run Tryz.prog W = .ok () W := by
  obtain ⟨a, rfl, h1, _⟩ := plainElem_int_inv Tryz.underlying3 hx
  obtain ⟨b, rfl, h2, _⟩ := plainElem_int_inv Tryz.underlying3 hy
  obtain rfl : xd = .lit (.int .i64 a) := by simpa using (congrArg Prod.fst h1)
  obtain rfl : yd = .lit (.int .i64 b) := by simpa using (congrArg Prod.fst h2)
  refine ⟨?_, fun _ _ => by rw [eqGuard_at_int]; rfl⟩
  simp [go_sem, sameD, binOp]
  rfl
section
variable {w w' : World} {g h n m : Nat} {f f' : Int → Option Int}
theorem numsEq_any (H1 : CntAt w g n f) (H2 : CntAt w h m f') :
    Calls Tryz.prog 104 #[.map (some g), .map (some h)] w fun e w' => Asks (∀ k, f k = f' k) e ∧ Below w.heap.size w w' := by
  obtain ⟨D1, o1, _, r1⟩ := H1
  obtain ⟨D2, o2, _, r2⟩ := H2
  have C := AnyEq.maps_Equal_opt Tryz.eqM lawI intElem intElem sameD (some g) (some h) D1 D2 w (.inr ⟨g, _, rfl, o1⟩) (.inr ⟨h, _, rfl, o2⟩) (.int .i64 0) zeroI (.lit (.int .i64 0)) [] (plainElem_int Tryz.underlying3 (by decide)) neq_nums
  refine C.mono ?_
  rintro e w' ⟨rfl, hg⟩
  refine ⟨⟨_, rfl, ?_⟩, ⟨hg.os, hg.tape, hg.output, hg.size, fun k hk => hg.block k hk (by simp)⟩⟩
  obtain ⟨es1, rfl, p1, k1⟩ := int_entries o1
  obtain ⟨es2, rfl, p2, k2⟩ := int_entries o2
  have n1 : (es1.map (·.1)).Nodup := List.pairwise_map.2 p1
  have n2 : (es2.map (·.1)).Nodup := List.pairwise_map.2 p2
  have sub : ∀ {es es' : List (Lit × DataW Unit)} {f f' : Int → Option Int}, ReadsC (.map es) f → ReadsC (.map es') f' → es.Pairwise (fun p q => p.1 ≠ q.1) → (∀ p ∈ es, ∃ k, p.1 = litI k) → (∀ k, f k = f' k) → ∀ x ∈ es.map (·.1), x ∈ es'.map (·.1) := by
    intro es es' f f' r r' hp hk hf x hx
    obtain ⟨p, hm, rfl⟩ := List.mem_map.1 hx
    obtain ⟨k, hk⟩ := hk p hm
    obtain ⟨v, e1, _⟩ := r.entry hp hm hk
    rw [hf] at e1
    rw [hk]
    exact r'.mem e1
  unfold Lib.equalFuncD
  rw [Bool.and_eq_true, decide_eq_true_eq, List.all_eq_true]
  constructor
  · rintro ⟨hsz, hall⟩ k
    have hsz : es1.length = es2.length := hsz
    have fw : ∀ k v, f k = some v → f' k = some v := fun k v hv => by
      obtain ⟨p, hm, e⟩ := List.mem_map.1 (r1.mem hv)
      have hg := hall p hm
      obtain ⟨v', e1, e2⟩ := r1.entry p1 hm e
      unfold Lib.goodD at hg
      rw [Bool.and_eq_true, e, e2, r2.has] at hg
      obtain ⟨hs, hs2⟩ := hg
      cases e3 : f' k with
      | none => rw [e3] at hs; cases hs
      | some v2 =>
        rw [r2 k .nil] at hs2
        simp only [e3, sameD, beq_iff_eq] at hs2
        rw [hv] at e1
        cases e1
        rw [hs2]
    have hsub : ∀ x ∈ es1.map (·.1), x ∈ es2.map (·.1) := fun x hx => by
      obtain ⟨p, hm, rfl⟩ := List.mem_map.1 hx
      obtain ⟨k, hk⟩ := k1 p hm
      obtain ⟨v, e1, _⟩ := r1.entry p1 hm hk
      rw [hk]
      exact r2.mem (fw k v e1)
    cases e : f k with
    | some v => exact (fw k v e).symm
    | none =>
      cases e2 : f' k with
      | none => rfl
      | some v =>
        classical
        have := sub_eqG n1 hsub (by simp [hsz]) _ (r2.mem e2)
        obtain ⟨p, hm, hk⟩ := List.mem_map.1 this
        obtain ⟨v', e3, _⟩ := r1.entry p1 hm hk
        rw [e] at e3; cases e3
  · intro hf
    refine ⟨?_, fun p hm => ?_⟩
    · classical
      have a := sub_lenG n1 (sub r1 r2 p1 k1 hf)
      have b := sub_lenG n2 (sub r2 r1 p2 k2 (fun k => (hf k).symm))
      simp only [List.length_map] at a b
      exact Nat.le_antisymm a b
    · obtain ⟨k, hk⟩ := k1 p hm
      obtain ⟨v, e1, e2⟩ := r1.entry p1 hm hk
      rw [hf] at e1
      unfold Lib.goodD
      rw [hk, e2, r2.has, r2 k .nil]
      simp only [e1, sameD]
      simp
end
end Go.Proofs.YtfokdmijkniomaaGreatDoor

