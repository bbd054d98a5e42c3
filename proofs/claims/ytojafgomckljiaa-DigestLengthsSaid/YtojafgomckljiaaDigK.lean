/-
  What each law's statement needs besides its walk: a world for the witness; the row's last step where the world behind the call is known below the heap's old size.
-/
import Derived.Test.YtojafgomckljiaaDigF
import Derived.ProofKit
import Derived.OpenShut
import Derived.Deep.DeepHandedRow
import Derived.Lib.LaidTab
import Derived.SizedLaws
namespace Go.Proofs.Ytojafgomckljiaa
open Go.ChangeShapes Go.WideShapes Go.ChangeAt Go.RowKit Go

theorem own : ownKnob Try.prog.godebug = none := by kernel_rfl
section
variable {H : Type} {enc : TypeId × Value → H} {P : Program}
/-- what the call did below the heap's old size is nothing: results, arguments, variables and places are as said -/
theorem post_of_below {f : Func} {s : ChangeSpec} {apart fresh handsOn again : Bool} {W W' : World} {args : Array Value} {v : Value} {ds gs : List (DataW H)} {before pa pv : List MemPlace}
    (hW : DataW.Whole enc P f.params.toList s.vars apart W args.toList ds gs before)
    (hres : ∀ (b : Nat) (sp : Nat → Bool) (hd : Bool), DataW.TrodAll enc P W' b sp hd f.resultTypes.toList (v.resultList f.resultTypes.size) (s.fn H (ds ++ gs)).results [])
    (hargs : ∀ sp : Nat → Bool, (∀ p ∈ before, sp p.block = true) → DataW.TrodAll enc P W' 0 sp true f.params.toList args.toList (s.fn H (ds ++ gs)).args pa)
    (hvars : ∀ sp : Nat → Bool, (∀ p ∈ before, sp p.block = true) → DataW.TrodVars enc P W' sp s.vars (s.fn H (ds ++ gs)).vars pv)
    (hps : before = pa ++ pv) (hb : Below W.heap.size W W')
    (hok : ∀ (j : Nat) (t : TypeId) (r : Value), f.resultTypes[j]? = some t → (v.resultList f.resultTypes.size)[j]? = some r → Value.okWide P W' .any 0 t r) :
    s.post enc P f apart fresh handsOn again W args v W' := by
  have lt : ∀ p ∈ before, p.block < W.heap.size := fun p hp => hW.lt p hp
  have old : ∀ p ∈ before, (fun b => decide (b < W.heap.size)) p.block = true := fun p hp => by simpa using lt p hp
  have kept : W.keptBut W' (fun p => p ∈ before ∧ p ∈ [] ++ (pa ++ pv)) := World.keptBut_mono (fun p hp => ⟨hp, by simpa [hps] using hp⟩) (hb.frame (· ∈ before))
  obtain ⟨_, _, _, _, _, hz, hn⟩ := id hW
  refine ⟨ds, gs, before, [], pa, pv, hW, hres _ _ _, hargs _ old, hvars _ old, World.keptBut_mono (fun p hp => ⟨hp.1, Or.inr (by simpa using hp.2)⟩) kept, fun _ => ⟨hok, _, _, ([] ++ pa) ++ pv, ⟨[] ++ pa, pv, trodAll_append (hargs _ (fun _ _ => rfl)) (hres _ _ _), hvars _ (fun _ _ => rfl), rfl, ?_, ?_⟩, ?_⟩⟩
  · intro b off hp
    have hin : MemPlace.cell b off ∈ before := by simpa [hps] using hp
    rw [hb.frozen (lt _ hin)]
    exact hz b off hin
  · intro ha
    simpa [hps] using hn ha
  · intro p hp _
    simpa [hps] using hp
end

/-- a world for the witness -/
noncomputable def laidWorld (os : Os) : World := World.holding Try.prog os ⟨#[], #[], []⟩
theorem laid_met (os : Os) (args : Array Value) : laidMet Try.prog [] ((laidWorld os).forCall (fun _ _ => 0) ⟨#[], args, []⟩).memory :=
  laidMet_of_run' 8 (by kernel_rfl) (by kernel_rfl)

theorem reach_size {s : ByteArray} (h : s.data.toList.length ≤ reachBytes) : s.size ≤ 140737488351232 := by
  have e : s.size = s.data.toList.length := by simp
  rw [e]; exact h
theorem cut2000 (s : ByteArray) : ∃ k : Nat, k ≤ s.size ∧ k ≤ 2000 ∧ (if (2000 : Int) < (s.size : Int) then (2000 : Int) else (s.size : Int)) = (k : Int) := by
  by_cases h : (2000 : Int) < (s.size : Int)
  · exact ⟨2000, by omega, by omega, by rw [if_pos h]; rfl⟩
  · exact ⟨s.size, by omega, by omega, by rw [if_neg h]⟩
/-- what a sum of all bytes answers, by a key -/
theorem sumV_is {key s : ByteArray} (h : key.size = 16) : sumV key.data.toList s.data.toList = .tuple #[.string (bs (sum key.data.toList s.data.toList)), .int .i64 0] := by
  unfold sumV; rw [if_pos (by simpa using h)]
theorem sum_size (key s : List UInt8) : (bs (sum key s)).size = 8 := by rw [bs_size, sum_length]
theorem HObj.lt {w : World} {b : Nat} {h : Hs} (hb : w.heap[b]? = some (HObj h)) : b < w.heap.size := W4.lt hb
theorem HObj.later {w w' : World} {b : Nat} {h : Hs} (hb : w.heap[b]? = some (HObj h)) (B : Below w.heap.size w w') : w'.heap[b]? = some (HObj h) :=
  (B.block b (HObj.lt hb)).trans hb
theorem int_range {n : Int} (h : (Lit.int .i64 n).wf = true) : -9223372036854775808 ≤ n ∧ n ≤ 9223372036854775807 := by
  have e : IntKind.i64.min = -9223372036854775808 := by decide
  simp [Lit.wf] at h
  rw [e] at h
  exact h
theorem byte_range {n : Int} (h : (Lit.int .u8 n).wf = true) : 0 ≤ n ∧ n ≤ 255 := by
  have e : IntKind.u8.min = 0 := by decide
  have e2 : IntKind.u8.max = 255 := by decide
  simp [Lit.wf] at h
  rw [e, e2] at h
  exact h
end Go.Proofs.Ytojafgomckljiaa
