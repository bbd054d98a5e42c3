/-
  What each law's statement needs besides its walk: a world for the witness; the row's last step where the world behind the call is known below the heap's old size; a list of numbers, and of calls, as an argument.
-/
import Derived.Test.YtipnbggbejkhkaaCacK
import Derived.Test.YtipnbggbejkhkaaCacJ
import Derived.ProofKit
import Derived.OpenShut
import Derived.Deep.DeepHandedRow
import Derived.Lib.LaidTab
import Derived.SizedLaws
import Derived.SliceStrings
import Derived.Deep.Slices
import Derived.ChangeArms
namespace Go.Proofs.Ytipnbggbejkhkaa
open Go.ChangeShapes Go.WideShapes Go.ChangeAt Go.RowKit Go
theorem own : ownKnob Try.prog.godebug = none := by kernel_rfl
section
variable {H : Type} {enc : TypeId × Value → H} {P : Program}
/-- what the call did below the heap's old size is nothing: results, arguments, variables and places are as said -/
theorem post_of_below {f : Func} {s : ChangeSpec} {apart fresh handsOn again : Bool} {W W' : World} {args : Array Value} {v : Value} {ds gs : List (DataW H)} {before pa pv : List MemPlace}
    (hW : DataW.Whole enc P f.params.toList s.vars apart W args.toList ds gs before)
    (hres : ∀ (b : Nat) (sp : Nat → Bool) (hd : Bool), DataW.TrodAll enc P W' b sp hd f.resultTypes.toList (v.resultList f.resultTypes.size) (s.fn H (ds ++ gs)).results [])
    (hargs : ∀ sp : Nat → Bool, (∀ p ∈ before, sp p.block = true) → DataW.TrodAll enc P W' 0 sp true f.params.toList args.toList (s.fn H (ds ++ gs)).args pa)
    (hvars : ∀ sp : Nat → Bool, (∀ p ∈ before, sp p.block = true) → DataW.TrodVars enc P W' sp s.vars (s.fn H (ds ++ gs)).vars pv)
    (hps : before = pa ++ pv) (hb : Below W.heap.size W W')
    (hok : ∀ (j : Nat) (t : TypeId) (r : Value), f.resultTypes[j]? = some t → (v.resultList f.resultTypes.size)[j]? = some r → Value.okWide P W' .any 0 t r) :
    s.post enc P f apart fresh handsOn again W args v W' := by
  have lt : ∀ p ∈ before, p.block < W.heap.size := fun p hp => hW.lt p hp
  have old : ∀ p ∈ before, (fun b => decide (b < W.heap.size)) p.block = true := fun p hp => by simpa using lt p hp
  have kept : W.keptBut W' (fun p => p ∈ before ∧ p ∈ [] ++ (pa ++ pv)) := World.keptBut_mono (fun p hp => ⟨hp, by simpa [hps] using hp⟩) (hb.frame (· ∈ before))
  obtain ⟨_, _, _, _, _, hz, hn⟩ := id hW
  refine ⟨ds, gs, before, [], pa, pv, hW, hres _ _ _, hargs _ old, hvars _ old, World.keptBut_mono (fun p hp => ⟨hp.1, Or.inr (by simpa using hp.2)⟩) kept, fun _ => ⟨hok, _, _, ([] ++ pa) ++ pv, ⟨[] ++ pa, pv, trodAll_append (hargs _ (fun _ _ => rfl)) (hres _ _ _), hvars _ (fun _ _ => rfl), rfl, ?_, ?_⟩, ?_⟩⟩
  · intro b off hp
    have hin : MemPlace.cell b off ∈ before := by simpa [hps] using hp
    rw [hb.frozen (lt _ hin)]
    exact hz b off hin
  · intro ha
    simpa [hps] using hn ha
  · intro p hp _
    simpa [hps] using hp
end

/-- a world for the witness -/
noncomputable def laidWorld (os : Os) : World := World.holding Try.prog os ⟨#[], #[], []⟩
theorem laid_met (os : Os) (args : Array Value) : laidMet Try.prog [] ((laidWorld os).forCall (fun _ _ => 0) ⟨#[], args, []⟩).memory :=
  laidMet_of_run' 8 (by kernel_rfl) (by kernel_rfl)

theorem reach_size {s : ByteArray} (h : s.data.toList.length ≤ reachBytes) : s.size ≤ 140737488351232 := by
  have e : s.size = s.data.toList.length := by simp
  rw [e]; exact h
theorem int_range {n : Int} (h : (Lit.int .i64 n).wf = true) : -9223372036854775808 ≤ n ∧ n ≤ 9223372036854775807 := by
  have e : IntKind.i64.min = -9223372036854775808 := by decide
  simp [Lit.wf] at h
  rw [e] at h
  exact h
/-! ### Lists that came in -/
theorem laidOut : laidOutB Try.prog = true := by kernel_rfl
theorem cells3 : Try.prog.cellsOf 3 = 1 := by kernel_rfl
theorem bytes3 : Try.prog.bytesOf 3 = 8 := by kernel_rfl
theorem cells9 : Try.prog.cellsOf 9 = 1 := by kernel_rfl
theorem bytes9 : Try.prog.bytesOf 9 = 16 := by kernel_rfl
theorem addr_plain (b off j : Nat) : Addr.add ⟨b, off, none⟩ j = ⟨b, off + j, none⟩ := Addr.add_lit b off j
section
variable {H : Type} {enc : TypeId × Value → H} {W : World} {base : Nat} {v : Value} {d : DataW H} {p : List MemPlace} {ts : List TypeId} {ds : List (DataW H)} {j : Nat}
set_option maxRecDepth 100000 in
theorem ints_open (hval : Value.okWide Try.prog W .any base 27 v) (h0 : DataW.Trod enc Try.prog W 0 (fun _ => true) true 27 v d p) (hlt : ∀ x ∈ p, x.block < W.heap.size)
    (hreach : (DataW.weightsEach Try.prog ts ds).all (· ≤ reachBytes) = true) (hts : ts[j]? = some 27) (hds : ds[j]? = some d) :
    ∃ zs : List Int, IntsAt W v zs ∧ zs.length ≤ 140737488351232 ∧ ∀ z ∈ zs, CI.Ok z := by
  obtain ⟨a0, len, cap, rfl⟩ := okWide_slice Try.underlying27 hval
  by_cases hl0 : len = 0
  · subst hl0
    exact ⟨[], ⟨_, _, rfl, fun e => absurd rfl e⟩, by simp, by simp⟩
  · obtain ⟨fuel, hf⟩ := id h0
    rcases open_ints Try.underlying27 Try.underlying3 cells3 hf with ⟨hcs, hx⟩ | ⟨a, len', cap', zs, hcs, _, hl, hm, hz, hx, hcell, hwz⟩
    · simp [Value.cells] at hcs
      exact absurd hcs.2.1 hl0
    · simp [Value.cells] at hcs
      obtain ⟨rfl, rfl, rfl⟩ := hcs
      simp only [Prod.mk.injEq] at hx
      obtain ⟨rfl, rfl⟩ := hx
      simp only [if_true] at hz
      have hr : len * 8 ≤ 140737488351232 := by
        have := sized_slice hreach (j := j) (t := 27) (e := 3) hts hds Try.underlying27
        rw [bytes3] at this
        simp only [lits, List.length_map, List.length_take, List.length_drop, reachBytes] at this
        omega
      obtain ⟨b, off, spot⟩ := a
      have hspot : spot = none := by simpa [Addr.add] using World.cell?_spot (hcell 0 (by omega))
      subst hspot
      have hbW : b < W.heap.size := hlt (.cell b off) (MemPlace.mem_row.2 ⟨0, by omega, by simp⟩)
      have hlen : (zs.take len).length = len := by rw [List.length_take]; omega
      refine ⟨zs.take len, ⟨_, cap, by rw [hlen], fun _ => ⟨b, off, rfl, hbW, fun i hi => ?_⟩⟩, by omega, fun z hz => int_range (hwz z (List.mem_of_mem_take hz))⟩
      have hi' : i < zs.length := by rw [hlen] at hi; omega
      rw [← addr_plain, hcell i hi']
      simp [List.getD, List.getElem?_eq_getElem hi']
end
theorem cellsOp : Try.prog.cellsOf 36 = 3 := by kernel_rfl
theorem bytesOp : Try.prog.bytesOf 36 = 32 := by kernel_rfl
/-- a list of reads, at a world -/
def OpsAt (W : World) (v : Value) (l : List (Int × Int × ByteArray)) : Prop :=
  ∃ a cap, v = .slice a l.length cap ∧ (l ≠ [] → ∃ b off, a = some ⟨b, off, none⟩ ∧ b < W.heap.size ∧ ∀ j (h : j < l.length),
    W.cell? ⟨b, off + j * 3, none⟩ = some (.int .i64 l[j].1) ∧ W.cell? ⟨b, off + j * 3 + 1, none⟩ = some (.int .i64 l[j].2.1) ∧ W.cell? ⟨b, off + j * 3 + 2, none⟩ = some (.string l[j].2.2))
section
variable {H : Type} {enc : TypeId × Value → H} {W : World} {base : Nat} {v : Value} {d : DataW H} {p : List MemPlace}
theorem op_fields : ∃ f0 f1 f2 : Field, Try.prog.underlying 36 = some (.struct #[f0, f1, f2]) ∧ f0.offset = 0 ∧ f1.offset = 1 ∧ f2.offset = 2 ∧ f0.type = 3 ∧ f1.type = 3 ∧ f2.type = 9 :=
  ⟨_, _, _, Try.underlying36, rfl, rfl, rfl, rfl, rfl, rfl⟩
set_option maxRecDepth 100000 in
theorem op_read {n : Nat} {cs : List Value} {x : DataW H × List MemPlace} {sp : Nat → Bool} {hd : Bool} {bb : Nat} (h : DataW.trod enc Try.prog W bb sp hd n 36 cs = some x) :
    ∃ q : Int × Int × ByteArray, cs = [.int .i64 q.1, .int .i64 q.2.1, .string q.2.2] ∧ CI.Ok q.1 ∧ CI.Ok q.2.1 := by
  obtain ⟨f0, f1, f2, hu, o0, o1, o2, t0, t1, t2⟩ := op_fields
  obtain ⟨xs, k, _, _, hl, hxl, hf⟩ := DataW.trod_struct hu h
  rw [cellsOp] at hl
  match xs, hxl, cs, hl with
  | [y0, y1, y2], _, [v0, v1, v2], _ =>
    have g0 := hf 0 f0 rfl
    have g1 := hf 1 f1 rfl
    have g2 := hf 2 f2 rfl
    rw [o0, t0, cells3] at g0
    rw [o1, t1, cells3] at g1
    rw [o2, t2, cells9] at g2
    obtain ⟨n0, e0, _, r0⟩ := DataW.trod_int Try.underlying3 g0
    obtain ⟨n1, e1, _, r1⟩ := DataW.trod_int Try.underlying3 g1
    obtain ⟨n2, e2, _⟩ := DataW.trod_string Try.underlying9 g2
    simp at e0 e1 e2
    exact ⟨(n0, n1, n2), by rw [e0, e1, e2], int_range r0, int_range r1⟩

set_option maxRecDepth 100000 in
theorem ops_open (hval : Value.okWide Try.prog W .any base 30 v) (h0 : DataW.Trod enc Try.prog W 0 (fun _ => true) true 30 v d p) (hlt : ∀ x ∈ p, x.block < W.heap.size) :
    ∃ l : List (Int × Int × ByteArray), OpsAt W v l ∧ l.length ≤ 9223372036854775807 ∧ ∀ q ∈ l, CI.Ok q.1 ∧ CI.Ok q.2.1 := by
  obtain ⟨a0, len, cap, rfl⟩ := okWide_slice Try.underlying30 hval
  by_cases hl0 : len = 0
  · subst hl0
    exact ⟨[], ⟨a0, cap, rfl, fun e => absurd rfl e⟩, by simp, by simp⟩
  · obtain ⟨fuel, hf⟩ := id h0
    rcases Deep.open_slice Try.underlying30 hf with ⟨hcs, hx⟩ | ⟨a, len', cap', m, n, D, Pl, hcs, hb, hl, hm, hmm, hx, hel⟩
    · simp [Value.cells] at hcs
      exact absurd hcs.2.1 hl0
    · simp [Value.cells] at hcs
      obtain ⟨rfl, rfl, rfl⟩ := hcs
      simp only [Prod.mk.injEq] at hx
      obtain ⟨rfl, rfl⟩ := hx
      simp only [if_true] at hmm
      have each : ∀ i, i < len → ∃ q : Int × Int × ByteArray, W.cell? (a.add (i * 3)) = some (.int .i64 q.1) ∧ W.cell? (a.add (i * 3 + 1)) = some (.int .i64 q.2.1) ∧ W.cell? (a.add (i * 3 + 2)) = some (.string q.2.2) ∧ CI.Ok q.1 ∧ CI.Ok q.2.1 := by
        intro i hi
        obtain ⟨cs', h1, h2⟩ := hel i (by omega)
        obtain ⟨q, rfl, hk1, hk2⟩ := op_read h2
        rw [cellsOp] at h1
        obtain ⟨_, _, hc⟩ := World.cells?_some h1
        have e0 := hc 0 (by omega)
        have e1 := hc 1 (by omega)
        have e2 := hc 2 (by omega)
        rw [Deep.add_add] at e0 e1 e2
        exact ⟨q, by simpa using e0, by simpa using e1, by simpa using e2, hk1, hk2⟩
      obtain ⟨q, hq⟩ := Deep.choose_lt each
      obtain ⟨b, off, spot⟩ := a
      have hspot : spot = none := by
        have := (hq 0 (by omega)).1
        simpa [Addr.add] using World.cell?_spot this
      subst hspot
      have hbW : b < W.heap.size := hlt (.cell b off) (List.mem_append_left _ (MemPlace.mem_row.2 ⟨0, by rw [cellsOp]; omega, by simp⟩))
      have hml : cap ≤ 9223372036854775807 := hm
      refine ⟨(List.range len).map q, ⟨_, cap, by simp, fun _ => ⟨b, off, rfl, hbW, fun j hj => ?_⟩⟩, by simp; omega, fun x hx => ?_⟩
      rotate_left
      · obtain ⟨j, hj, rfl⟩ := List.mem_map.1 hx
        exact (hq j (by simpa using hj)).2.2.2
      have hj' : j < len := by simpa using hj
      have := hq j hj'
      rw [Addr.add_lit, Addr.add_lit, Addr.add_lit] at this
      simp only [List.getElem_map, List.getElem_range]
      exact ⟨this.1, by rw [Nat.add_assoc]; exact this.2.1, by rw [Nat.add_assoc]; exact this.2.2.1⟩
end
theorem OpsAt.later {W W' : World} {v : Value} {l : List (Int × Int × ByteArray)} (h : OpsAt W v l) (hB : Below W.heap.size W W') : OpsAt W' v l := by
  obtain ⟨a, cap, h1, h2⟩ := h
  refine ⟨a, cap, h1, fun hne => ?_⟩
  obtain ⟨b, off, e, hb, hc⟩ := h2 hne
  have hk : ∀ i, W'.cell? ⟨b, i, none⟩ = W.cell? ⟨b, i, none⟩ := fun i => World.cell?_of_block (w := W) (hB.block b hb)
  refine ⟨b, off, e, Nat.lt_of_lt_of_le hb hB.size, fun j hj => ?_⟩
  rw [hk, hk, hk]
  exact hc j hj
end Go.Proofs.Ytipnbggbejkhkaa
namespace Go.Proofs.Ytipnbggbejkhkaa
open Go.RowKit Go
/-- what a call may have turned of a cache whose blocks are F, and whose blocks are F' then -/
def Step (F F' : Nat → Prop) (w w' : World) : Prop := Stir F w w' ∧ ∀ k, F' k → F k ∨ w.heap.size ≤ k
/-- a row of the call's own that is no part of a cache -/
def RowIn (F : Nat → Prop) (w : World) (base : Nat) (e : TypeId) (size : Nat) (v : Value) (n : Nat) (xs : List Value) : Prop := w.ownsRow base e size v n xs ∧ ∀ k, v.ownBlock = some k → ¬ F k
section
variable {F F' G : Nat → Prop} {w w' : World} {base : Nat} {e : TypeId} {size : Nat} {v : Value} {n : Nat} {xs : List Value}
theorem RowIn.step (h : RowIn F w base e size v n xs) (k : Step F F' w w') : RowIn F' w' base e size v n xs :=
  ⟨ownsRow_of_block h.1 (fun i hi => k.1.block i (h.1.lt i hi).2 (h.2 i hi)), fun i hi hF => by
    rcases k.2 i hF with h1 | h1
    · exact h.2 i hi h1
    · have := (h.1.lt i hi).2; omega⟩
theorem RowIn.later (h : RowIn F w base e size v n xs) (k : Below w.heap.size w w') : RowIn F w' base e size v n xs :=
  ⟨ownsRow_of_block h.1 (fun i hi => k.block i (h.1.lt i hi).2), h.2⟩
theorem ints_of_row {w : World} {base : Nat} {v : Value} {zs : List Int} (h : w.ownsRow base 3 1 v zs.length (CI.keyVals zs)) : IntsAt w v zs := IntsAt.of_row h
end
section
variable {K V : Type} [DecidableEq K]
theorem keysL_drop (L : List (K × V)) (k : K) : keysL (dropL L k) = (keysL L).filter (· ≠ k) := by
  unfold keysL dropL
  rw [List.filter_map]
  rfl
theorem getL_some (L : List (K × V)) (k : K) : (getL L k).isSome = decide (k ∈ keysL L) := by
  unfold getL keysL
  rw [Option.isSome_map]
  cases h : L.find? (fun x => decide (x.1 = k)) with
  | none =>
    have := List.find?_eq_none.1 h
    symm
    simp only [Option.isSome_none, decide_eq_false_iff_not, List.mem_map, not_exists, not_and]
    intro x hx e
    have := this x hx
    simp [e] at this
  | some x =>
    have h1 := List.mem_of_find?_eq_some h
    have h2 := List.find?_some h
    symm
    simp only [Option.isSome_some, decide_eq_true_eq]
    exact List.mem_map.2 ⟨x, h1, by simpa using h2⟩
theorem getL_drop (L : List (K × V)) (k : K) : getL (dropL L k) k = none := by
  have := getL_some (dropL L k) k
  rw [keysL_drop] at this
  cases h : getL (dropL L k) k with
  | none => rfl
  | some v => rw [h] at this; simp at this
end
end Go.Proofs.Ytipnbggbejkhkaa
