/-
  What each law's statement needs besides its walk: a world in which the two listed tables of unicode/utf8 lie as they are listed; the row's last step where the world behind the call is known below the heap's old size.
-/
import Derived.Test.YtoafojddochcgaaDoorCards
import Derived.Test.YtoafojddochcgaaDoorTie
import Derived.Test.YtoafojddochcgaaDoorSetsF
import Derived.ProofKit
import Derived.OpenShut
import Derived.Deep.DeepHandedRow
import Derived.Lib.LaidTab
namespace Go.Proofs.YtoafojddochcgaaDoor
open Go.ChangeShapes Go.WideShapes Go.ChangeAt Go.RowKit Go SM

theorem own : ownKnob Tryd.prog.godebug = none := by kernel_rfl
section
variable {H : Type} {enc : TypeId × Value → H} {P : Program}
/-- what the call did below the heap's old size is nothing: results, arguments, variables and places are as said -/
theorem post_of_below {f : Func} {s : ChangeSpec} {apart fresh handsOn again : Bool} {W W' : World} {args : Array Value} {v : Value} {ds gs : List (DataW H)} {before pa pv : List MemPlace}
    (hW : DataW.Whole enc P f.params.toList s.vars apart W args.toList ds gs before)
    (hres : ∀ (b : Nat) (sp : Nat → Bool) (hd : Bool), DataW.TrodAll enc P W' b sp hd f.resultTypes.toList (v.resultList f.resultTypes.size) (s.fn H (ds ++ gs)).results [])
    (hargs : ∀ sp : Nat → Bool, (∀ p ∈ before, sp p.block = true) → DataW.TrodAll enc P W' 0 sp true f.params.toList args.toList (s.fn H (ds ++ gs)).args pa)
    (hvars : ∀ sp : Nat → Bool, (∀ p ∈ before, sp p.block = true) → DataW.TrodVars enc P W' sp s.vars (s.fn H (ds ++ gs)).vars pv)
    (hps : before = pa ++ pv) (hb : Below W.heap.size W W')
    (hok : ∀ (j : Nat) (t : TypeId) (r : Value), f.resultTypes[j]? = some t → (v.resultList f.resultTypes.size)[j]? = some r → Value.okWide P W' .any 0 t r) :
    s.post enc P f apart fresh handsOn again W args v W' := by
  have lt : ∀ p ∈ before, p.block < W.heap.size := fun p hp => hW.lt p hp
  have old : ∀ p ∈ before, (fun b => decide (b < W.heap.size)) p.block = true := fun p hp => by simpa using lt p hp
  have kept : W.keptBut W' (fun p => p ∈ before ∧ p ∈ [] ++ (pa ++ pv)) := World.keptBut_mono (fun p hp => ⟨hp, by simpa [hps] using hp⟩) (hb.frame (· ∈ before))
  obtain ⟨_, _, _, _, _, hz, hn⟩ := id hW
  refine ⟨ds, gs, before, [], pa, pv, hW, hres _ _ _, hargs _ old, hvars _ old, World.keptBut_mono (fun p hp => ⟨hp.1, Or.inr (by simpa using hp.2)⟩) kept, fun _ => ⟨hok, _, _, ([] ++ pa) ++ pv, ⟨[] ++ pa, pv, trodAll_append (hargs _ (fun _ _ => rfl)) (hres _ _ _), hvars _ (fun _ _ => rfl), rfl, ?_, ?_⟩, ?_⟩⟩
  · intro b off hp
    have hin : MemPlace.cell b off ∈ before := by simpa [hps] using hp
    rw [hb.frozen (lt _ hin)]
    exact hz b off hin
  · intro ha
    simpa [hps] using hn ha
  · intro p hp _
    simpa [hps] using hp
end

/-- the two listed tables, cell by cell -/
def firstCells : Array Value := (Pinned.utf8FirstZ.map fun n : Nat => Value.int .u8 (n : Int)).toArray
def rangeCells : Array Value := #[.int .u8 128, .int .u8 191, .int .u8 160, .int .u8 191, .int .u8 128, .int .u8 159, .int .u8 144, .int .u8 191, .int .u8 128, .int .u8 143, .int .u8 0, .int .u8 0, .int .u8 0, .int .u8 0, .int .u8 0, .int .u8 0, .int .u8 0, .int .u8 0, .int .u8 0, .int .u8 0, .int .u8 0, .int .u8 0, .int .u8 0, .int .u8 0, .int .u8 0, .int .u8 0, .int .u8 0, .int .u8 0, .int .u8 0, .int .u8 0, .int .u8 0, .int .u8 0]
def layCells (cs : Array Value) : Obj → Obj
  | .cells _ t frozen => .cells cs t frozen
  | o => o
/-- a world for the witness -/
noncomputable def laidWorld (os : Os) : World :=
  { World.holding Tryd.prog os ⟨#[], #[], []⟩ with heap := ((World.holding Tryd.prog os ⟨#[], #[], []⟩).heap.modify 0 (layCells firstCells)).modify 1 (layCells rangeCells) }
theorem laid_met (os : Os) (args : Array Value) : laidMet Tryd.prog [("unicode/utf8.acceptRanges", Rows.laid_unicode_utf8_acceptRanges), ("unicode/utf8.first", Rows.laid_unicode_utf8_first)] ((laidWorld os).forCall (fun _ _ => 0) ⟨#[], args, []⟩).memory :=
  laidMet_of_run' 8 (by kernel_rfl) (by kernel_rfl)

/-! ### Strings in a law -/
def bs (l : List UInt8) : ByteArray := ⟨l.toArray⟩
theorem str_bs (l : List UInt8) : str l = .string (bs l) := rfl
theorem bs_list (l : List UInt8) : (bs l).data.toList = l := by simp [bs]
theorem bs_size (l : List UInt8) : (bs l).size = l.length := by simp [bs, ByteArray.size]
theorem bs_inj {a b : List UInt8} : bs a = bs b ↔ a = b := by
  constructor
  · intro h
    rw [← bs_list a, h, bs_list]
  · rintro rfl; rfl
theorem reach_size {s : ByteArray} (h : s.data.toList.length ≤ reachBytes) : s.size ≤ 140737488351232 := by
  have e : s.size = s.data.toList.length := by simp
  rw [e]; exact h
/-! ### What two texts make, as texts -/
def andB (a b : ByteArray) : ByteArray := bs (mk band a.data.toList b.data.toList)
def orB (a b : ByteArray) : ByteArray := bs (mk bor a.data.toList b.data.toList)
def subB (a b : ByteArray) : ByteArray := bs (mk bsub a.data.toList b.data.toList)
def cntB (a : ByteArray) : Nat := cnt a.data.toList
theorem size_mk (f : UInt8 → UInt8 → UInt8) (a b : ByteArray) : (bs (mk f a.data.toList b.data.toList)).size ≤ max a.size b.size := by
  rw [bs_size]; have := mk_length f a.data.toList b.data.toList; simpa using this
theorem size_andB (a b : ByteArray) : (andB a b).size ≤ max a.size b.size := size_mk _ _ _
theorem size_orB (a b : ByteArray) : (orB a b).size ≤ max a.size b.size := size_mk _ _ _
theorem size_subB (a b : ByteArray) : (subB a b).size ≤ max a.size b.size := size_mk _ _ _
theorem cntB_le (a : ByteArray) : cntB a ≤ 8 * a.size := by have := cnt_le a.data.toList; simpa [cntB] using this
theorem list_andB (a b : ByteArray) : (andB a b).data.toList = mk band a.data.toList b.data.toList := bs_list _
theorem list_orB (a b : ByteArray) : (orB a b).data.toList = mk bor a.data.toList b.data.toList := bs_list _
theorem list_subB (a b : ByteArray) : (subB a b).data.toList = mk bsub a.data.toList b.data.toList := bs_list _
theorem and_b (a b : ByteArray) (w : World) (ha : a.size ≤ 140737488355328) (hb : b.size ≤ 140737488355328) :
    Calls Tryd.prog 22 #[.string a, .string b] w fun e w' => e = .returned (.string (andB a b)) ∧ Below w.heap.size w w' := and_any a b ha hb w
theorem or_b (a b : ByteArray) (w : World) (ha : a.size ≤ 140737488355328) (hb : b.size ≤ 140737488355328) :
    Calls Tryd.prog 24 #[.string a, .string b] w fun e w' => e = .returned (.string (orB a b)) ∧ Below w.heap.size w w' := or_any a b ha hb w
theorem sub_b (a b : ByteArray) (w : World) (ha : a.size ≤ 140737488355328) (hb : b.size ≤ 140737488355328) :
    Calls Tryd.prog 25 #[.string a, .string b] w fun e w' => e = .returned (.string (subB a b)) ∧ Below w.heap.size w w' := minus_any a b ha hb w
theorem cnt_b (a : ByteArray) (w : World) (ha : a.size ≤ 140737488355328) :
    Calls Tryd.prog 19 #[.string a] w fun e w' => e = .returned (.int .i64 (cntB a)) ∧ w = w' := count_any a w ha
/-- the first letters of a text -/
theorem short_b (s : ByteArray) (w : World) (hs : s.size ≤ 140737488355328) :
    Calls Tryd.prog 15 #[.string s] w fun e w' => e = .returned (.string (bs (s.data.toList.take 3000))) ∧ w = w' := short_any s w hs
theorem size_short (s : ByteArray) : (bs (s.data.toList.take 3000)).size ≤ 3000 := by rw [bs_size, List.length_take]; omega
theorem nextV_form (l : List UInt8) (f : Int) : ∃ (a : Int) (b : Bool), nextV l f = .tuple #[.int .i64 a, .bool b] := by
  unfold nextV; split
  · exact ⟨_, _, rfl⟩
  · exact ⟨_, _, rfl⟩
theorem gapV_form (l : List UInt8) (f e : Int) : ∃ (a : Int) (b : Bool), gapV l f e = .tuple #[.int .i64 a, .bool b] := by
  unfold gapV; split
  · exact ⟨_, _, rfl⟩
  · exact ⟨_, _, rfl⟩
theorem int_range {n : Int} (h : (Lit.int .i64 n).wf = true) : -9223372036854775808 ≤ n ∧ n ≤ 9223372036854775807 := by
  have e : IntKind.i64.min = -9223372036854775808 := by decide
  simp [Lit.wf] at h
  rw [e] at h
  exact h
end Go.Proofs.YtoafojddochcgaaDoor
