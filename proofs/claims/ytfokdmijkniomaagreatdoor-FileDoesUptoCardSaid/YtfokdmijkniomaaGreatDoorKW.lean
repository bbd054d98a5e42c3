/-
  KitW / WirAs / WirB.
-/
import Derived.Test.YtfokdmijkniomaaGreatDoorRows
import Derived.Below
import Derived.WalkKit
import Derived.Outline
import Derived.Lib.Hide
import Derived.Deep.Draws
import Derived.Maps.OwnSet
import Derived.LaidEql
import Derived.Stop.Asserts
import Derived.RowKitTokens
namespace Go.Proofs.YtfokdmijkniomaaGreatDoor
open Go.RowKit Go

/-- the blocks of F, and new ones, may have turned; nothing else has -/
structure Stir (F : Nat → Prop) (w w' : World) : Prop where
  os : w'.os = w.os
  tape : w'.tape = w.tape
  output : w'.output = w.output
  size : w.heap.size ≤ w'.heap.size
  block : ∀ k, k < w.heap.size → ¬ F k → w'.heap[k]? = w.heap[k]?

section
variable {F G : Nat → Prop} {w v u : World}
theorem Stir.refl (F : Nat → Prop) (w : World) : Stir F w w := ⟨rfl, rfl, rfl, Nat.le_refl _, fun _ _ _ => rfl⟩
theorem Stir.trans (h : Stir F w v) (k : Stir G v u) (hG : ∀ i, G i → F i ∨ w.heap.size ≤ i) : Stir F w u :=
  ⟨k.os.trans h.os, k.tape.trans h.tape, k.output.trans h.output, Nat.le_trans h.size k.size, fun i hi hn =>
    (k.block i (Nat.lt_of_lt_of_le hi h.size) (fun g => by rcases hG i g with h1 | h1; exact hn h1; omega)).trans (h.block i hi hn)⟩
theorem Stir.of_below (h : Below w.heap.size w v) : Stir F w v := ⟨h.os, h.tape, h.output, h.size, fun k hk _ => h.block k hk⟩
theorem Stir.and_below (h : Stir F w v) (k : Below v.heap.size v u) : Stir F w u := h.trans (Stir.of_below (F := fun _ => False) k) (fun _ h => h.elim)
theorem Stir.below {B : Nat} (h : Stir F w v) (hF : ∀ k, F k → B ≤ k) (hB : B ≤ w.heap.size) : Below B w v :=
  ⟨h.os, h.tape, h.output, h.size, fun k hk => h.block k (by omega) (fun f => by have := hF k f; omega)⟩
theorem Stir.weaken (h : Stir F w v) (hF : ∀ k, F k → G k) : Stir G w v := ⟨h.os, h.tape, h.output, h.size, fun k hk hn => h.block k hk (fun f => hn (hF k f))⟩
theorem Stir.drewN (h : Stir F w v) (n : Nat) : Stir F w (v.drewN n) := ⟨h.os, h.tape, h.output, h.size, h.block⟩
theorem Stir.drew (h : Stir F w v) : Stir F w v.drew := ⟨h.os, h.tape, h.output, h.size, h.block⟩
theorem Stir.set (h : Stir F w v) {b i : Nat} (hb : F b ∨ w.heap.size ≤ b) (x : Value) : Stir F w (v.setCell ⟨b, i, none⟩ x) := by
  refine ⟨h.os, h.tape, h.output, by simpa [World.setCell] using h.size, fun k hk hn => ?_⟩
  rw [Below.heap_setCell _ _ _ _ (by rintro rfl; rcases hb with h1 | h1; exact hn h1; omega), h.block k hk hn]
theorem Stir.turned (h : Stir F w v) {b : Nat} (hb : F b ∨ w.heap.size ≤ b) (k : v.mapTurned u b) : Stir F w u := by
  have g := k.grown
  exact ⟨g.os.trans h.os, g.tape.trans h.tape, g.output.trans h.output, Nat.le_trans h.size g.size, fun i hi hn =>
    (g.block i (Nat.lt_of_lt_of_le hi h.size) (by intro e; cases e; rcases hb with h1 | h1; exact hn h1; omega)).trans (h.block i hi hn)⟩
end
theorem lt_of_heap {w : World} {b : Nat} {o : Obj} (h : w.heap[b]? = some o) : b < w.heap.size := (Array.getElem?_eq_some_iff.1 h).1
theorem grown_of_below {w v : World} (h : Below w.heap.size w v) : w.grownBy v none := ⟨h.os, h.tape, h.output, h.size, fun k hk _ => h.block k hk⟩
theorem Stir.keep {F : Nat → Prop} {w v : World} (h : Stir F w v) {b : Nat} {o : Obj} (hb : w.heap[b]? = some o) (hn : ¬ F b) : v.heap[b]? = some o := (h.block b (lt_of_heap hb) hn).trans hb
theorem keeps_of {w v : World} {b : Nat} {o : Obj} (h : Below w.heap.size w v) (hb : w.heap[b]? = some o) : v.heap[b]? = some o := (h.block b (lt_of_heap hb)).trans hb
/-- a block with one cell turned -/
theorem heap_set {w : World} {b i : Nat} {C : Array Value} {t : TypeId} {f : Nat × Nat} (h : w.heap[b]? = some (.cells C t f)) (x : Value) : (w.setCell ⟨b, i, none⟩ x).heap[b]? = some (.cells (C.setIfInBounds i x) t f) := by
  simp [World.setCell, Array.getElem?_modify, h]
theorem heap_set_other {w : World} {b c i : Nat} {o : Obj} (h : w.heap[c]? = some o) (hn : c ≠ b) (x : Value) : (w.setCell ⟨b, i, none⟩ x).heap[c]? = some o := by
  rw [Below.heap_setCell _ _ _ _ hn]; exact h
theorem below_drewN {B : Nat} {a w : World} (h : Below B a w) (n : Nat) : Below B a (w.drewN n) := ⟨h.os, h.tape, h.output, h.size, h.block⟩

theorem Stir.alloc {F : Nat → Prop} {w v : World} (h : Stir F w v) (o : Obj) : Stir F w (v.alloc o) := h.and_below ((Below.refl _ v).alloc (Nat.le_refl _) o)
theorem heap_alloc_old {w : World} {b : Nat} {o : Obj} (h : w.heap[b]? = some o) (o' : Obj) : (w.alloc o').heap[b]? = some o := by
  rw [Below.heap_alloc w o' b (lt_of_heap h)]; exact h
end Go.Proofs.YtfokdmijkniomaaGreatDoor

namespace Go.Proofs.YtfokdmijkniomaaGreatDoor.WT
open Go.RowKit Go.Extern.Stop Go.Stop Go.Extern

/-- errors.As of no error -/
theorem as_nil (t : Value) (w : World) :
    Calls Tryz.prog 186 #[.nilIface, t] w fun e w' => e = .returned (.bool false) ∧ w' = w := by
  go_enter Tryz.func186, Tryz.ntmps186
  go_wp2
  go_ret
  exact ⟨rfl, rfl⟩

/-- what a pointer to a type's row is -/
abbrev hdl (k : Nat) : Value := .pointer (some ⟨9, k, none⟩)
abbrev rty (k : Nat) : Value := .iface 259 (.agg #[hdl k])
abbrev flt (k : Int) : Value := .iface 221 (.agg #[.int .i64 k])

/-! ### Closed facts on the model's entries for internal/reflectlite, at this program's types -/
theorem valueOfP (t : Addr) (w : World) : (ReflectliteValue.unpack (.iface 225 (.pointer (some t)))).run Tryz.prog w
    = .ok (.agg #[hdl 225, .pointer (some ⟨w.heap.size, 0, none⟩), .int .u64 150]) (w.alloc (.cells #[.pointer (some t)] 225)) := by kernel_rfl
theorem typeP (a : Addr) (w : World) : (ReflectliteValue.methodAny (ReflectliteValue.valueError "reflectlite.Value.Type" 0) (fun t _ _ _ => ReflectliteType.toType t) #[.agg #[hdl 225, .pointer (some a), .int .u64 150]]).run Tryz.prog w
    = .ok (rty 225) w := by kernel_rfl
theorem methodKind (h : Value) (w : World) : (Go.method 408 259 (.agg #[h]) "Kind").run Tryz.prog w = .ok (236, h) w := by kernel_rfl
theorem kindP (w : World) : ((ReflectliteType.abiMethod fun t => (fun a : Nat => Value.int IntKind.u8 (a : Int)) <$> Rtype.kind t) #[hdl 225]).run Tryz.prog w = .ok (.int .u8 22) w := by kernel_rfl
theorem kindF (w : World) : ((ReflectliteType.abiMethod fun t => (fun a : Nat => Value.int IntKind.u8 (a : Int)) <$> Rtype.kind t) #[hdl 221]).run Tryz.prog w = .ok (.int .u8 25) w := by kernel_rfl

/-! ### The entries that read or write memory -/
theorem rlm (z : Sem Value) (f : TypeId → Addr → Nat → Nat → Sem Value) (v : Value) :
    ReflectliteValue.method z f #[v] = (do match ← ReflectliteValue.parts v with | none => z | some (t, a, fl) => f t a fl (fl % 32)) := rfl
theorem partsP (a : Addr) (w : World) : (ReflectliteValue.parts (.agg #[hdl 225, .pointer (some a), .int .u64 150])).run Tryz.prog w = .ok (some (225, a, 150)) w := by kernel_rfl
theorem isNilP (a p : Addr) (W : World) (ha : W.cell? a = some (.pointer (some p))) :
    (ReflectliteValue.method (ReflectliteValue.valueError "reflectlite.Value.IsNil" 0) ReflectliteValue.isNil #[.agg #[hdl 225, .pointer (some a), .int .u64 150]]).run Tryz.prog W = .ok (.bool false) W := by
  rw [rlm]
  simp only [Sem.run_bind, partsP, Result.andThen]
  simp [ReflectliteValue.isNil, loadVar, isAgg, underlying, Tryz.underlying225, ha, Result.andThen]

theorem methodElem (h : Value) (w : World) : (Go.method 408 259 (.agg #[h]) "Elem").run Tryz.prog w = .ok (250, .agg #[h]) w := by kernel_rfl
theorem methodImplements (h : Value) (w : World) : (Go.method 408 259 (.agg #[h]) "Implements").run Tryz.prog w = .ok (251, .agg #[h]) w := by kernel_rfl
theorem methodAssignableTo (h : Value) (w : World) : (Go.method 408 259 (.agg #[h]) "AssignableTo").run Tryz.prog w = .ok (248, .agg #[h]) w := by kernel_rfl
theorem elemP (w : World) : (ReflectliteType.method ReflectliteType.elem #[.agg #[hdl 225]]).run Tryz.prog w = .ok (rty 221) w := by kernel_rfl
theorem implementsF (w : World) : (ReflectliteType.relation "Implements" ReflectliteType.implements_ #[.agg #[hdl 221], rty 164]).run Tryz.prog w = .ok (.bool true) w := by kernel_rfl
theorem typeOfF (v : Value) (w : World) : (ReflectliteType.typeOf #[.iface 221 v]).run Tryz.prog w = .ok (rty 221) w := by kernel_rfl
theorem assignableF (w : World) : (ReflectliteType.relation "AssignableTo" ReflectliteType.assignableTo #[.agg #[hdl 221], rty 221]).run Tryz.prog w = .ok (.bool true) w := by kernel_rfl
theorem valueOfF (k : Int) (w : World) : (ReflectliteValue.unpack (flt k)).run Tryz.prog w
    = .ok (.agg #[hdl 221, .pointer (some ⟨w.heap.size, 0, none⟩), .int .u64 153]) (w.alloc (.cells #[.int .i64 k] 221)) := by kernel_rfl

theorem elemOfP (w : World) : (Rtype.elem? 225).run Tryz.prog w = .ok (some 221) w := by kernel_rfl
theorem mkF (p : Addr) (w : World) : (ReflectliteValue.mk 221 p ReflectliteValue.flagAddr).run Tryz.prog w = .ok (.agg #[hdl 221, .pointer (some p), .int .u64 409]) w := by kernel_rfl
theorem elemV (a p : Addr) (W : World) (ha : W.cell? a = some (.pointer (some p))) :
    (ReflectliteValue.method (ReflectliteValue.valueError "reflectlite.Value.Elem" 0) ReflectliteValue.elem #[.agg #[hdl 225, .pointer (some a), .int .u64 150]]).run Tryz.prog W
      = .ok (.agg #[hdl 221, .pointer (some p), .int .u64 409]) W := by
  rw [rlm]
  simp only [Sem.run_bind, partsP, Result.andThen]
  simp [ReflectliteValue.elem, loadVar, isAgg, underlying, Tryz.underlying225, ha, Result.andThen, elemOfP, mkF]
theorem rls (v x : Value) : ReflectliteValue.set #[v, x] = (do
    let (some (dst, a, fl), some (src, b, _)) := (← ReflectliteValue.parts v, ← ReflectliteValue.parts x)
      | unsupported (.noEntry "extern/(internal/reflectlite.Value).Set.zeroValue")
    if fl / ReflectliteValue.flagAddr % 2 == 0 then unsupported (.noEntry "extern/(internal/reflectlite.Value).Set.unaddressable")
    let val ← loadVar src b
    if ← Rtype.directlyAssignable dst src then storeVar dst a val
    else if ← Rtype.implements dst src then
      if (← Rtype.kind src) == 20 then
        match val with
        | .nilIface => unsupported (.noEntry "extern/reflectlite: a nil value of one interface type handed on as a value of another")
        | _ => storeVar dst a val
      else storeVar dst a (.iface src val)
    else panicString ("reflectlite.Set: value of type " ++ (← Rtype.spelt src) ++ " is not assignable to type " ++ (← Rtype.spelt dst))
    pure (.tuple #[])) := rfl
theorem partsFa (a : Addr) (w : World) : (ReflectliteValue.parts (.agg #[hdl 221, .pointer (some a), .int .u64 409])).run Tryz.prog w = .ok (some (221, a, 409)) w := by kernel_rfl
theorem partsF (a : Addr) (w : World) : (ReflectliteValue.parts (.agg #[hdl 221, .pointer (some a), .int .u64 153])).run Tryz.prog w = .ok (some (221, a, 153)) w := by kernel_rfl
theorem directF (w : World) : (Rtype.directlyAssignable 221 221).run Tryz.prog w = .ok true w := by kernel_rfl
theorem sizeF (w : World) : (sizeOf 221).run Tryz.prog w = .ok 1 w := by kernel_rfl
theorem aggF (w : World) : (isAgg 221).run Tryz.prog w = .ok true w := by kernel_rfl
theorem loadF (b : Addr) (k : Value) (W : World) (hb : W.cell? b = some k) (hs : b.add 0 = b) : (loadVar 221 b).run Tryz.prog W = .ok (.agg #[k]) W := by
  simp only [loadVar, Sem.run_bind, aggF, sizeF, Result.andThen, if_true]
  simp [loadCells, loadCellsFrom, hs, hb]
theorem storeF (a : Addr) (k : Int) (old : Value) (W : World) (ht : W.cell? a = some old) (hf : W.frozen? a = false) (hs : a.add 0 = a) : (storeVar 221 a (.agg #[.int .i64 k])).run Tryz.prog W = .ok () (W.setCell a (.int .i64 k)) := by
  have hc : (Value.agg #[.int .i64 k]).cells = #[.int .i64 k] := by simp [Value.cells]
  simp only [storeVar, Sem.run_bind, sizeF, Result.andThen, hc]
  simp [storeCells, hs]
  rw [run_store Tryz.prog W a _ _ (by rfl)]
  simp [ht, hf]
theorem setV (ta b : Addr) (k : Int) (old : Value) (W : World) (hb : W.cell? b = some (.int .i64 k)) (hs : b.add 0 = b) (ht : W.cell? ta = some old) (hf : W.frozen? ta = false) (hts : ta.add 0 = ta) :
    (ReflectliteValue.set #[.agg #[hdl 221, .pointer (some ta), .int .u64 409], .agg #[hdl 221, .pointer (some b), .int .u64 153]]).run Tryz.prog W
      = .ok (.tuple #[]) (W.setCell ta (.int .i64 k)) := by
  rw [rls]
  simp only [Sem.run_bind, partsFa, partsF, Result.andThen]
  simp [ReflectliteValue.flagAddr, Sem.run_bind, loadF b _ W hb hs, directF, storeF ta k old W ht hf hts, Result.andThen]
end Go.Proofs.YtfokdmijkniomaaGreatDoor.WT

namespace Go.Proofs.YtfokdmijkniomaaGreatDoor.WT
open Go.RowKit Go.Extern.Stop Go.Stop Go.Extern

/-- the one package-level variable -/
def GE (w : World) : Prop := w.cell? ⟨1, 0, none⟩ = some (rty 164)
theorem GE.lt {w : World} (h : GE w) : 1 < w.heap.size := by
  rcases Nat.lt_or_ge 1 w.heap.size with h1 | h0
  · exact h1
  · simp [GE, World.cell?, Array.getElem?_eq_none h0] at h
theorem GE.alloc {w : World} (h : GE w) (o : Obj) : GE (w.alloc o) := by
  unfold GE; rw [World.cell?_alloc_lt _ _ ⟨1, 0, none⟩ h.lt]; exact h
theorem GE.below {w w' : World} (h : GE w) (b : Below w.heap.size w w') : GE w' := by
  unfold GE; rw [World.cell?_of_block (w := w) (b.block 1 h.lt)]; exact h

set_option maxHeartbeats 4000000 in
theorem as_hit (k : Int) (tb : Nat) (old : Value) (w : World) (hg : GE w) (ht0 : w.cell? ⟨tb, 0, none⟩ = some old) (hf0 : w.frozen? ⟨tb, 0, none⟩ = false) :
    Calls Tryz.prog 186 #[flt k, .iface 225 (.pointer (some ⟨tb, 0, none⟩))] w fun ev w' => ev = .returned (.bool true) ∧ w' = ((((w.alloc (.cells #[.pointer (some ⟨tb, 0, none⟩)] 225)).alloc (.cells #[hdl 225, .pointer (some ⟨w.heap.size, 0, none⟩), .int .u64 150] 234)).alloc (.cells #[hdl 225, .pointer (some ⟨w.heap.size, 0, none⟩), .int .u64 150] 234)).alloc (.cells #[.int .i64 k] 221)).setCell ⟨tb, 0, none⟩ (.int .i64 k) := by
  have h6 := @run_callFunc_extern Tryz.prog 199 _ (fun args => ReflectliteValue.unpack (args.getD 0 (.tuple #[]))) Tryz.func199 (by kernel_rfl) (by kernel_rfl) (by kernel_rfl) (by kernel_rfl)
  have h7 := @run_callFunc_extern Tryz.prog 200 _ (ReflectliteValue.methodAny (ReflectliteValue.valueError "reflectlite.Value.Type" 0) (fun t _ _ _ => ReflectliteType.toType t)) Tryz.func200 (by kernel_rfl) (by kernel_rfl) (by kernel_rfl) (by kernel_rfl)
  have h8 := @run_callFunc_extern Tryz.prog 201 _ (ReflectliteValue.method (ReflectliteValue.valueError "reflectlite.Value.IsNil" 0) ReflectliteValue.isNil) Tryz.func201 (by kernel_rfl) (by kernel_rfl) (by kernel_rfl) (by kernel_rfl)
  have h27 := @run_callFunc_extern Tryz.prog 236 _ (ReflectliteType.abiMethod fun t => do pure (.int .u8 (← Rtype.kind t))) Tryz.func236 (by kernel_rfl) (by kernel_rfl) (by kernel_rfl) (by kernel_rfl)
  have h37 := @run_callFunc_extern Tryz.prog 250 _ (ReflectliteType.method ReflectliteType.elem) Tryz.func250 (by kernel_rfl) (by kernel_rfl) (by kernel_rfl) (by kernel_rfl)
  have h38 := @run_callFunc_extern Tryz.prog 251 _ (ReflectliteType.relation "Implements" ReflectliteType.implements_) Tryz.func251 (by kernel_rfl) (by kernel_rfl) (by kernel_rfl) (by kernel_rfl)
  have h10 := @run_callFunc_extern Tryz.prog 213 _ ReflectliteType.typeOf Tryz.func213 (by kernel_rfl) (by kernel_rfl) (by kernel_rfl) (by kernel_rfl)
  have h35 := @run_callFunc_extern Tryz.prog 248 _ (ReflectliteType.relation "AssignableTo" ReflectliteType.assignableTo) Tryz.func248 (by kernel_rfl) (by kernel_rfl) (by kernel_rfl) (by kernel_rfl)
  have h11 := @run_callFunc_extern Tryz.prog 214 _ (ReflectliteValue.method (ReflectliteValue.valueError "reflectlite.Value.Elem" 0) ReflectliteValue.elem) Tryz.func214 (by kernel_rfl) (by kernel_rfl) (by kernel_rfl) (by kernel_rfl)
  have h12 := @run_callFunc_extern Tryz.prog 215 _ ReflectliteValue.set Tryz.func215 (by kernel_rfl) (by kernel_rfl) (by kernel_rfl) (by kernel_rfl)
  have tO := typeOfF
  have mA := methodAssignableTo
  have a25 := assignableF
  have v25 := valueOfF
  have f6 := valueOfP
  have f7 := typeP
  have mK := methodKind
  have mE := methodElem
  have mI := methodImplements
  have k27 := kindP
  have k25 := kindF
  have e27 := elemP
  have i25 := implementsF
  have n8 := isNilP ⟨w.heap.size, 0, none⟩ ⟨tb, 0, none⟩ ((w.alloc (.cells #[.pointer (some ⟨tb, 0, none⟩)] 225)).alloc (.cells #[hdl 225, .pointer (some ⟨w.heap.size, 0, none⟩), .int .u64 150] 234)) (by simp)
  have hg2 : ((w.alloc (.cells #[.pointer (some ⟨tb, 0, none⟩)] 225)).alloc (.cells #[hdl 225, .pointer (some ⟨w.heap.size, 0, none⟩), .int .u64 150] 234)).cell? ⟨1, 0, none⟩ = some (rty 164) := (hg.alloc _).alloc _
  have htl : tb < w.heap.size := by
    rcases Nat.lt_or_ge tb w.heap.size with h | h
    · exact h
    · simp [World.cell?, Array.getElem?_eq_none h] at ht0
  have el := elemV ⟨w.heap.size, 0, none⟩ ⟨tb, 0, none⟩ (((w.alloc (.cells #[.pointer (some ⟨tb, 0, none⟩)] 225)).alloc (.cells #[hdl 225, .pointer (some ⟨w.heap.size, 0, none⟩), .int .u64 150] 234)).alloc (.cells #[hdl 225, .pointer (some ⟨w.heap.size, 0, none⟩), .int .u64 150] 234)) (by rw [World.cell?_alloc_lt _ _ ⟨w.heap.size, 0, none⟩ (by simp; omega)]; simp)
  have st := setV ⟨tb, 0, none⟩ ⟨w.heap.size + 1 + 1 + 1, 0, none⟩ k old ((((w.alloc (.cells #[.pointer (some ⟨tb, 0, none⟩)] 225)).alloc (.cells #[hdl 225, .pointer (some ⟨w.heap.size, 0, none⟩), .int .u64 150] 234)).alloc (.cells #[hdl 225, .pointer (some ⟨w.heap.size, 0, none⟩), .int .u64 150] 234)).alloc (.cells #[.int .i64 k] 221))
    (by rw [World.cell?_alloc_at _ _ _ _ (by simp)]; rfl) (Addr.add_lit _ _ _)
    (by rw [World.cell?_alloc_lt _ _ ⟨tb, 0, none⟩ (by simp; omega), World.cell?_alloc_lt _ _ ⟨tb, 0, none⟩ (by simp; omega), World.cell?_alloc_lt _ _ ⟨tb, 0, none⟩ (by simp; omega), World.cell?_alloc_lt _ _ ⟨tb, 0, none⟩ htl]; exact ht0)
    (by rw [World.frozen?_alloc_old _ _ ⟨tb, 0, none⟩ (by simp; omega), World.frozen?_alloc_old _ _ ⟨tb, 0, none⟩ (by simp; omega), World.frozen?_alloc_old _ _ ⟨tb, 0, none⟩ (by simp; omega), World.frozen?_alloc_old _ _ ⟨tb, 0, none⟩ (Nat.ne_of_lt htl)]; exact hf0)
    (Addr.add_lit _ _ _)
  go_enter Tryz.func186, Tryz.ntmps186
  go_wp2
  refine wp_loop_rounds 1 ?_
  rw [rounds_succ]
  go_wp2
  go_ret
  exact ⟨rfl, rfl⟩

/-- what the first error of a reader is: none, or a fault of a number -/
def errV (e : Int) : Value := if e = 0 then .nilIface else flt e

theorem errno_nil (w : World) : Calls Tryz.prog 166 #[.nilIface] w fun e w' => e = .returned (.int .i64 0) ∧ Below w.heap.size w w' := by
  go_enter Tryz.func166, Tryz.ntmps166
  go_wp2_with fail
  refine (as_nil _ _).mono ?_
  rintro e w' ⟨rfl, rfl⟩
  go_wp2_with fail
  go_ret
  exact ⟨rfl, (Below.refl _ _).alloc (Nat.le_refl _) _⟩

theorem cell_put {W : World} {b i : Nat} {C : Array Value} {t : TypeId} {f : Nat × Nat} {v : Value} (h : W.heap[b]? = some (.cells C t f)) (hi : i < C.size) : (W.setCell ⟨b, i, none⟩ v).cell? ⟨b, i, none⟩ = some v := by
  simp [World.cell?, World.setCell, Array.getElem?_modify, h, hi]
theorem errno_flt (k : Int) (w : World) (hg : GE w) : Calls Tryz.prog 166 #[flt k] w fun e w' => e = .returned (.int .i64 k) ∧ Below w.heap.size w w' := by
  have hgA := hg.alloc (.cells #[.int .i64 0] 221)
  have htA : (w.alloc (.cells #[.int .i64 0] 221)).cell? ⟨w.heap.size, 0, none⟩ = some (.int .i64 0) := by simp
  have hfA : (w.alloc (.cells #[.int .i64 0] 221)).frozen? ⟨w.heap.size, 0, none⟩ = false := by simp
  go_enter Tryz.func166, Tryz.ntmps166
  go_wp2_with fail
  refine (as_hit k _ (.int .i64 0) _ hgA htA hfA).mono ?_
  rintro e w' ⟨rfl, hw⟩
  have hB : Below w.heap.size w w' := by
    rw [hw]
    refine Below.setCell (p := ⟨w.heap.size, 0, none⟩) ?_ (Nat.le_refl _) _
    exact (((((Below.refl _ _).alloc (Nat.le_refl _) _).alloc (by simp) _).alloc (by simp; omega) _).alloc (by simp; omega) _).alloc (by simp; omega) _
  have hc : w'.cell? ⟨w.heap.size, 0, none⟩ = some (.int .i64 k) := by
    rw [hw]
    refine cell_put (C := #[.int .i64 0]) (t := 221) (f := (0, 0)) ?_ (by decide)
    rw [Below.heap_alloc _ _ _ (by simp; omega), Below.heap_alloc _ _ _ (by simp; omega), Below.heap_alloc _ _ _ (by simp; omega), Below.heap_alloc _ _ _ (by simp)]
    exact heap_alloc_new _ _
  clear hw
  go_wp2_with fail
  go_ret
  exact ⟨rfl, hB⟩

theorem errno_any (k : Int) (w : World) (hg : GE w) : Calls Tryz.prog 166 #[errV k] w fun e w' => e = .returned (.int .i64 k) ∧ Below w.heap.size w w' := by
  unfold errV
  split
  · subst k; exact errno_nil w
  · exact errno_flt k w hg
end Go.Proofs.YtfokdmijkniomaaGreatDoor.WT

