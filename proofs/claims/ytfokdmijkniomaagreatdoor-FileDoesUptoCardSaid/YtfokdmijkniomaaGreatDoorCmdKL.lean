/-
  What each law's statement needs besides its walk, in stage 14's seat (eight listed variables, one of them a type's handle): what they give a walk; a world for the witness; the row's last step where the world behind the call is known below the heap's old size.
-/
import Derived.Test.YtfokdmijkniomaaGreatDoorKW
import Derived.Test.YtfokdmijkniomaaGreatDoorCards
import Derived.Test.YtfokdmijkniomaaGreatDoorTie
import Derived.Lib.LaidU8
import Derived.Lib.ItoaNum
import Derived.LaidLaws
import Derived.LaidHandle
import Derived.ProofKit
import Derived.OpenShut
import Derived.Deep.DeepHandedRow
import Derived.Lib.LaidTab
import Derived.SizedLaws
import Derived.SliceStrings
import Derived.Deep.Slices
import Derived.ChangeArms
import Derived.Laws.OwnMore
import Derived.Laws.BitsAllLaws
namespace Go.Proofs.YtfokdmijkniomaaGreatDoor
open Go.ChangeShapes Go.WideShapes Go.ChangeAt Go.RowKit Go
theorem own : ownKnob Tryz.prog.godebug = none := by kernel_rfl
section
variable {H : Type} {enc : TypeId × Value → H} {P : Program}
/-- what the call did below the heap's old size is nothing: results, arguments, variables and places are as said -/
theorem post_of_below {f : Func} {s : ChangeSpec} {apart fresh handsOn again : Bool} {W W' : World} {args : Array Value} {v : Value} {ds gs : List (DataW H)} {before pa pv : List MemPlace}
    (hW : DataW.Whole enc P f.params.toList s.vars apart W args.toList ds gs before)
    (hres : ∀ (b : Nat) (sp : Nat → Bool) (hd : Bool), DataW.TrodAll enc P W' b sp hd f.resultTypes.toList (v.resultList f.resultTypes.size) (s.fn H (ds ++ gs)).results [])
    (hargs : ∀ sp : Nat → Bool, (∀ p ∈ before, sp p.block = true) → DataW.TrodAll enc P W' 0 sp true f.params.toList args.toList (s.fn H (ds ++ gs)).args pa)
    (hvars : ∀ sp : Nat → Bool, (∀ p ∈ before, sp p.block = true) → DataW.TrodVars enc P W' sp s.vars (s.fn H (ds ++ gs)).vars pv)
    (hps : before = pa ++ pv) (hb : Below W.heap.size W W')
    (hok : ∀ (j : Nat) (t : TypeId) (r : Value), f.resultTypes[j]? = some t → (v.resultList f.resultTypes.size)[j]? = some r → Value.okWide P W' .any 0 t r) :
    s.post enc P f apart fresh handsOn again W args v W' := by
  have lt : ∀ p ∈ before, p.block < W.heap.size := fun p hp => hW.lt p hp
  have old : ∀ p ∈ before, (fun b => decide (b < W.heap.size)) p.block = true := fun p hp => by simpa using lt p hp
  have kept : W.keptBut W' (fun p => p ∈ before ∧ p ∈ [] ++ (pa ++ pv)) := World.keptBut_mono (fun p hp => ⟨hp, by simpa [hps] using hp⟩) (hb.frame (· ∈ before))
  obtain ⟨_, _, _, _, _, hz, hn⟩ := id hW
  refine ⟨ds, gs, before, [], pa, pv, hW, hres _ _ _, hargs _ old, hvars _ old, World.keptBut_mono (fun p hp => ⟨hp.1, Or.inr (by simpa using hp.2)⟩) kept, fun _ => ⟨hok, _, _, ([] ++ pa) ++ pv, ⟨[] ++ pa, pv, trodAll_append (hargs _ (fun _ _ => rfl)) (hres _ _ _), hvars _ (fun _ _ => rfl), rfl, ?_, ?_⟩, ?_⟩⟩
  · intro b off hp
    have hin : MemPlace.cell b off ∈ before := by simpa [hps] using hp
    rw [hb.frozen (lt _ hin)]
    exact hz b off hin
  · intro ha
    simpa [hps] using hn ha
  · intro p hp _
    simpa [hps] using hp
end


/-! ### The listed variables -/
/-- what a walk reads of them: the powers of ten, and that the two errors of strconv are handles -/
structure GE (W : World) : Prop where
  pow : Lib.TabIs Tryz.prog W "internal/strconv.uint64pow10" .u64 Lib.pow10Tab
  syn : ∃ te pe, W.cell? ⟨5, 0, none⟩ = some (.iface te pe)
  rng : ∃ te pe, W.cell? ⟨6, 0, none⟩ = some (.iface te pe)
  err : WT.GE W
theorem et : Tryz.prog.globalNamed "errors.errorType" = some 1 := by kernel_rfl
theorem rtt : (Tryz.prog.cutTypes.find? (·.1 == "internal/reflectlite.rtype")).map (·.2) = some 259 := by kernel_rfl
theorem typesSize : Tryz.prog.types.size = 308 := by kernel_rfl
theorem oneRow : ((List.range 308).filter fun t => Tryz.prog.rowNamed t [101, 114, 114, 111, 114]) = [164] := by kernel_rfl
theorem gpow : Tryz.prog.globalNamed "internal/strconv.uint64pow10" = some 2 := by kernel_rfl
theorem gsyn : Tryz.prog.globalNamed "strconv.ErrSyntax" = some 5 := by kernel_rfl
theorem grng : Tryz.prog.globalNamed "strconv.ErrRange" = some 6 := by kernel_rfl
theorem tpow : (Tryz.prog.globals[(2 : Nat)]?).map (·.type) = some 244 := by kernel_rfl
theorem tsyn : (Tryz.prog.globals[(5 : Nat)]?).map (·.type) = some 164 := by kernel_rfl
theorem trng : (Tryz.prog.globals[(6 : Nat)]?).map (·.type) = some 164 := by kernel_rfl
theorem iface_of_reads {W : World} {n nm : String} {d : DataW Unit} {g : Nat} (hn : Tryz.prog.globalNamed n = some g) (hy : (Tryz.prog.globals[g]?).map (·.type) = some 164) (h : Lib.VarReads Tryz.prog W n (.iface nm d)) :
    ∃ te pe, W.cell? ⟨g, 0, none⟩ = some (.iface te pe) := by
  obtain ⟨g', t, cs, fuel, p, hg, hty, hvar, hd⟩ := h
  obtain rfl := Option.some.inj (hn.symm.trans hg)
  obtain rfl := Option.some.inj (hy.symm.trans hty)
  obtain ⟨_, u, v, hcs, _, _⟩ := iface_of_trod Tryz.underlying164 hd
  obtain rfl : cs = #[.iface u v] := by rw [← Array.toArray_toList (xs := cs), hcs]
  exact ⟨u, v, by have := World.var?_cell hn hvar 0; simpa using this⟩
/-- the listed variables but for the handle -/
def noHandles : List (String × DataW Unit) := Rows.fileDoesRow.laid.filter fun x => x.2.handleName?.isNone
def handles : List (String × DataW Unit) := Rows.fileDoesRow.laid.filter fun x => x.2.handleName?.isSome
theorem handles_is : handles = [("errors.errorType", Rows.laid_errors_errorType)] := by kernel_rfl
theorem noHandles_is : noHandles = [("math/bits.deBruijn32tab", Rows.laid_math_bits_deBruijn32tab), ("math/bits.deBruijn64tab", Rows.laid_math_bits_deBruijn64tab), ("internal/strconv.uint64pow10", Rows.laid_internal_strconv_uint64pow10), ("unicode/utf8.acceptRanges", Rows.laid_unicode_utf8_acceptRanges), ("strconv.ErrRange", Rows.laid_strconv_ErrRange), ("strconv.ErrSyntax", Rows.laid_strconv_ErrSyntax), ("unicode/utf8.first", Rows.laid_unicode_utf8_first)] := by kernel_rfl
theorem laid_parts {W : World} (h : laidMetH Tryz.prog Rows.fileDoesRow.laid W) : laidMet Tryz.prog noHandles W ∧ handlesMet Tryz.prog handles W := by
  unfold laidMetH at h
  split at h
  · rename_i e
    have e2 : handles = [] := e
    rw [handles_is] at e2; cases e2
  · rename_i x l e
    have e2 : handles = x :: l := e
    rw [e2]
    exact h
theorem handle_of_laid {W : World} (h0 : laidMetH Tryz.prog Rows.fileDoesRow.laid W) : GE W := by
  obtain ⟨h, h3⟩ := laid_parts h0
  have hp := Lib.laidMet.reads h (n := "internal/strconv.uint64pow10") (d := Rows.laid_internal_strconv_uint64pow10) (by rw [noHandles_is]; simp)
  have h1 := Lib.laidMet.reads h (n := "strconv.ErrSyntax") (d := Rows.laid_strconv_ErrSyntax) (by rw [noHandles_is]; simp)
  have h2 := Lib.laidMet.reads h (n := "strconv.ErrRange") (d := Rows.laid_strconv_ErrRange) (by rw [noHandles_is]; simp)
  refine ⟨?_, iface_of_reads gsyn tsyn h1, iface_of_reads grng trng h2, ?_⟩
  · obtain ⟨g', t, cs, fuel, p, hg, hty, hvar, hd⟩ := hp
    obtain rfl := Option.some.inj (gpow.symm.trans hg)
    obtain rfl := Option.some.inj (tpow.symm.trans hty)
    unfold Lib.TabIs
    rw [hvar]
    have hcs := Lib.cells_of_tab (zs := Lib.pow10Tab) (k := .u64) (n := 20) (e := 182) Tryz.underlying244 Tryz.underlying182 (by kernel_rfl) (by kernel_rfl) hd
    rw [← Array.toArray_toList (xs := cs), hcs]
  · rw [handles_is] at h3
    have h4 := h3 _ (List.mem_singleton.2 rfl)
    have ef : (Rows.laid_errors_errorType : DataW Unit).funcsIn? = none := by kernel_rfl
    simp only [ef] at h4
    obtain ⟨name, u, ty, e1, e2, e3, e4, e5⟩ := h4
    have en : name = [101, 114, 114, 111, 114] := (Option.some.inj e1).symm
    subst en
    obtain rfl := Option.some.inj (rtt.symm.trans e2)
    have hm : ty ∈ (List.range 308).filter fun t => Tryz.prog.rowNamed t [101, 114, 114, 111, 114] := List.mem_filter.2 ⟨List.mem_range.2 (by rw [← typesSize]; exact e3), e4⟩
    rw [oneRow] at hm
    obtain rfl := List.mem_singleton.1 hm
    have hh : typeHandle Tryz.prog 164 = .pointer (some ⟨9, 164, none⟩) := by kernel_rfl
    rw [hh] at e5
    have := World.var?_cell et e5 0
    simpa [WT.GE] using this
theorem GE.below {W W' : World} (h : GE W) (hB : Below W.heap.size W W') : GE W' := by
  refine ⟨?_, ?_, ?_, h.err.below hB⟩
  · have hp := h.pow
    have h0 := World.block_lt_of_cell? _ _ (hp.cell gpow 0 (by decide))
    have hb : W'.heap[(2 : Nat)]? = W.heap[(2 : Nat)]? := hB.block _ h0
    unfold Lib.TabIs World.var? at hp ⊢
    rw [gpow] at hp ⊢
    simp only [Option.bind_some] at hp ⊢
    rw [hb]
    exact hp
  · obtain ⟨te, pe, hc⟩ := h.syn
    exact ⟨te, pe, (hB.cell (p := ⟨_, 0, none⟩) (World.block_lt_of_cell? _ _ hc)).trans hc⟩
  · obtain ⟨te, pe, hc⟩ := h.rng
    exact ⟨te, pe, (hB.cell (p := ⟨_, 0, none⟩) (World.block_lt_of_cell? _ _ hc)).trans hc⟩
/-- the listed tables, cell by cell -/
def cellsOfD : DataW Unit → Array Value
  | .agg l => (l.map fun | .lit x => x.value | _ => .int .u8 0).toArray
  | _ => #[]
def firstCells : Array Value := (Pinned.utf8FirstZ.map fun n : Nat => Value.int .u8 (n : Int)).toArray
def rangeCells : Array Value := #[.int .u8 128, .int .u8 191, .int .u8 160, .int .u8 191, .int .u8 128, .int .u8 159, .int .u8 144, .int .u8 191, .int .u8 128, .int .u8 143, .int .u8 0, .int .u8 0, .int .u8 0, .int .u8 0, .int .u8 0, .int .u8 0, .int .u8 0, .int .u8 0, .int .u8 0, .int .u8 0, .int .u8 0, .int .u8 0, .int .u8 0, .int .u8 0, .int .u8 0, .int .u8 0, .int .u8 0, .int .u8 0, .int .u8 0, .int .u8 0, .int .u8 0, .int .u8 0]
def layCells (cs : Array Value) : Obj → Obj
  | .cells _ t frozen => .cells cs t frozen
  | o => o
/-- a world for the witness: two blocks more (the errors' structs), the eight variables holding what their initialisers lay -/
noncomputable def laidWorld (os : Os) : World :=
  let w0 := World.holding Tryz.prog os ⟨#[], #[], []⟩
  let N := w0.heap.size
  { w0 with heap := (((((((((w0.heap.push (.cells #[.string ⟨#[105, 110, 118, 97, 108, 105, 100, 32, 115, 121, 110, 116, 97, 120]⟩] 281)).push
      (.cells #[.string ⟨#[118, 97, 108, 117, 101, 32, 111, 117, 116, 32, 111, 102, 32, 114, 97, 110, 103, 101]⟩] 281)).modify 5 (layCells #[.iface 279 (.pointer (some ⟨N, 0, none⟩))])).modify
      6 (layCells #[.iface 279 (.pointer (some ⟨N + 1, 0, none⟩))])).modify 3 (layCells firstCells)).modify 4 (layCells rangeCells)).modify
      2 (layCells (Lib.pow10Tab.map fun z => Value.int .u64 z).toArray)).modify 7 (layCells (cellsOfD Rows.laid_math_bits_deBruijn32tab))).modify 8 (layCells (cellsOfD Rows.laid_math_bits_deBruijn64tab))).modify 1 (layCells #[WT.rty 164]) }
theorem laid_met0 (os : Os) (args : Array Value) : laidMet Tryz.prog noHandles ((laidWorld os).forCall (fun _ _ => 0) ⟨#[], args, []⟩).memory := by
  rw [noHandles_is]
  exact laidMet_of_run' 8 (by kernel_rfl) (by kernel_rfl)
theorem laid_met (os : Os) (args : Array Value) : laidMetH Tryz.prog Rows.fileDoesRow.laid ((laidWorld os).forCall (fun _ _ => 0) ⟨#[], args, []⟩).memory :=
  laidMetH_of_parts (laid_met0 os args) (by kernel_rfl)
theorem reach_size {s : ByteArray} (h : s.data.toList.length ≤ reachBytes) : s.size ≤ 140737488351232 := by
  have e : s.size = s.data.toList.length := by simp
  rw [e]; exact h
theorem int_range {n : Int} (h : (Lit.int .i64 n).wf = true) : -9223372036854775808 ≤ n ∧ n ≤ 9223372036854775807 := by
  have e : IntKind.i64.min = -9223372036854775808 := by decide
  simp [Lit.wf] at h
  rw [e] at h
  exact h
theorem laidOut : laidOutB Tryz.prog = true := by kernel_rfl
def IntOk (k : Int) : Prop := -9223372036854775808 ≤ k ∧ k ≤ 9223372036854775807
def intVals (l : List Int) : List Value := l.map fun k => .int .i64 k
def strVals (l : List ByteArray) : List Value := l.map fun k => .string k
theorem wrapI (n : Int) (h1 : -9223372036854775808 ≤ n) (h2 : n ≤ 9223372036854775807) : IntKind.i64.wrap n = n := by
  simp [IntKind.wrap, IntKind.bits, IntKind.signed]; omega
end Go.Proofs.YtfokdmijkniomaaGreatDoor

