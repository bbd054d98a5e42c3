/-
  errors.As at the target of package wire ('var f fault; errors.As(err, &f)'): what it answers at no error, and at a fault; and errno, which asks it.
-/
import Derived.Test.YtgeggiafjojgdaaDoorRows
import Derived.WalkKit
import Derived.LaidEql
import Derived.Stop.Asserts
import Derived.RowKitTokens
namespace Go.Proofs.YtgeggiafjojgdaaDoor
open Go.RowKit Go.Extern.Stop Go.Stop Go.Extern

/-- errors.As of no error -/
theorem as_nil (t : Value) (w : World) :
    Calls Tryd.prog 51 #[.nilIface, t] w fun e w' => e = .returned (.bool false) ∧ w' = w := by
  go_enter Tryd.func51, Tryd.ntmps51
  go_wp2
  go_ret
  exact ⟨rfl, rfl⟩

/-- what a pointer to a type's row is -/
abbrev hdl (k : Nat) : Value := .pointer (some ⟨1, k, none⟩)
abbrev rty (k : Nat) : Value := .iface 101 (.agg #[hdl k])
abbrev flt (k : Int) : Value := .iface 83 (.agg #[.int .i64 k])

/-! ### Closed facts on the model's entries for internal/reflectlite, at this program's types -/
theorem valueOfP (t : Addr) (w : World) : (ReflectliteValue.unpack (.iface 85 (.pointer (some t)))).run Tryd.prog w
    = .ok (.agg #[hdl 85, .pointer (some ⟨w.heap.size, 0, none⟩), .int .u64 150]) (w.alloc (.cells #[.pointer (some t)] 85)) := by kernel_rfl
theorem typeP (a : Addr) (w : World) : (ReflectliteValue.methodAny (ReflectliteValue.valueError "reflectlite.Value.Type" 0) (fun t _ _ _ => ReflectliteType.toType t) #[.agg #[hdl 85, .pointer (some a), .int .u64 150]]).run Tryd.prog w
    = .ok (rty 85) w := by kernel_rfl
theorem methodKind (h : Value) (w : World) : (Go.method 243 101 (.agg #[h]) "Kind").run Tryd.prog w = .ok (76, h) w := by kernel_rfl
theorem kindP (w : World) : ((ReflectliteType.abiMethod fun t => (fun a : Nat => Value.int IntKind.u8 (a : Int)) <$> Rtype.kind t) #[hdl 85]).run Tryd.prog w = .ok (.int .u8 22) w := by kernel_rfl
theorem kindF (w : World) : ((ReflectliteType.abiMethod fun t => (fun a : Nat => Value.int IntKind.u8 (a : Int)) <$> Rtype.kind t) #[hdl 83]).run Tryd.prog w = .ok (.int .u8 25) w := by kernel_rfl

/-! ### The entries that read or write memory -/
theorem rlm (z : Sem Value) (f : TypeId → Addr → Nat → Nat → Sem Value) (v : Value) :
    ReflectliteValue.method z f #[v] = (do match ← ReflectliteValue.parts v with | none => z | some (t, a, fl) => f t a fl (fl % 32)) := rfl
theorem partsP (a : Addr) (w : World) : (ReflectliteValue.parts (.agg #[hdl 85, .pointer (some a), .int .u64 150])).run Tryd.prog w = .ok (some (85, a, 150)) w := by kernel_rfl
theorem isNilP (a p : Addr) (W : World) (ha : W.cell? a = some (.pointer (some p))) :
    (ReflectliteValue.method (ReflectliteValue.valueError "reflectlite.Value.IsNil" 0) ReflectliteValue.isNil #[.agg #[hdl 85, .pointer (some a), .int .u64 150]]).run Tryd.prog W = .ok (.bool false) W := by
  rw [rlm]
  simp only [Sem.run_bind, partsP, Result.andThen]
  simp [ReflectliteValue.isNil, loadVar, isAgg, underlying, Tryd.underlying85, ha, Result.andThen]

theorem methodElem (h : Value) (w : World) : (Go.method 243 101 (.agg #[h]) "Elem").run Tryd.prog w = .ok (86, .agg #[h]) w := by kernel_rfl
theorem methodImplements (h : Value) (w : World) : (Go.method 243 101 (.agg #[h]) "Implements").run Tryd.prog w = .ok (87, .agg #[h]) w := by kernel_rfl
theorem methodAssignableTo (h : Value) (w : World) : (Go.method 243 101 (.agg #[h]) "AssignableTo").run Tryd.prog w = .ok (84, .agg #[h]) w := by kernel_rfl
theorem elemP (w : World) : (ReflectliteType.method ReflectliteType.elem #[.agg #[hdl 85]]).run Tryd.prog w = .ok (rty 83) w := by kernel_rfl
theorem implementsF (w : World) : (ReflectliteType.relation "Implements" ReflectliteType.implements_ #[.agg #[hdl 83], rty 65]).run Tryd.prog w = .ok (.bool true) w := by kernel_rfl
theorem typeOfF (v : Value) (w : World) : (ReflectliteType.typeOf #[.iface 83 v]).run Tryd.prog w = .ok (rty 83) w := by kernel_rfl
theorem assignableF (w : World) : (ReflectliteType.relation "AssignableTo" ReflectliteType.assignableTo #[.agg #[hdl 83], rty 83]).run Tryd.prog w = .ok (.bool true) w := by kernel_rfl
theorem valueOfF (k : Int) (w : World) : (ReflectliteValue.unpack (flt k)).run Tryd.prog w
    = .ok (.agg #[hdl 83, .pointer (some ⟨w.heap.size, 0, none⟩), .int .u64 153]) (w.alloc (.cells #[.int .i64 k] 83)) := by kernel_rfl

theorem elemOfP (w : World) : (Rtype.elem? 85).run Tryd.prog w = .ok (some 83) w := by kernel_rfl
theorem mkF (p : Addr) (w : World) : (ReflectliteValue.mk 83 p ReflectliteValue.flagAddr).run Tryd.prog w = .ok (.agg #[hdl 83, .pointer (some p), .int .u64 409]) w := by kernel_rfl
theorem elemV (a p : Addr) (W : World) (ha : W.cell? a = some (.pointer (some p))) :
    (ReflectliteValue.method (ReflectliteValue.valueError "reflectlite.Value.Elem" 0) ReflectliteValue.elem #[.agg #[hdl 85, .pointer (some a), .int .u64 150]]).run Tryd.prog W
      = .ok (.agg #[hdl 83, .pointer (some p), .int .u64 409]) W := by
  rw [rlm]
  simp only [Sem.run_bind, partsP, Result.andThen]
  simp [ReflectliteValue.elem, loadVar, isAgg, underlying, Tryd.underlying85, ha, Result.andThen, elemOfP, mkF]
theorem rls (v x : Value) : ReflectliteValue.set #[v, x] = (do
    let (some (dst, a, fl), some (src, b, _)) := (← ReflectliteValue.parts v, ← ReflectliteValue.parts x)
      | unsupported (.noEntry "extern/(internal/reflectlite.Value).Set.zeroValue")
    if fl / ReflectliteValue.flagAddr % 2 == 0 then unsupported (.noEntry "extern/(internal/reflectlite.Value).Set.unaddressable")
    let val ← loadVar src b
    if ← Rtype.directlyAssignable dst src then storeVar dst a val
    else if ← Rtype.implements dst src then
      if (← Rtype.kind src) == 20 then
        match val with
        | .nilIface => unsupported (.noEntry "extern/reflectlite: a nil value of one interface type handed on as a value of another")
        | _ => storeVar dst a val
      else storeVar dst a (.iface src val)
    else panicString ("reflectlite.Set: value of type " ++ (← Rtype.spelt src) ++ " is not assignable to type " ++ (← Rtype.spelt dst))
    pure (.tuple #[])) := rfl
theorem partsFa (a : Addr) (w : World) : (ReflectliteValue.parts (.agg #[hdl 83, .pointer (some a), .int .u64 409])).run Tryd.prog w = .ok (some (83, a, 409)) w := by kernel_rfl
theorem partsF (a : Addr) (w : World) : (ReflectliteValue.parts (.agg #[hdl 83, .pointer (some a), .int .u64 153])).run Tryd.prog w = .ok (some (83, a, 153)) w := by kernel_rfl
theorem directF (w : World) : (Rtype.directlyAssignable 83 83).run Tryd.prog w = .ok true w := by kernel_rfl
theorem sizeF (w : World) : (sizeOf 83).run Tryd.prog w = .ok 1 w := by kernel_rfl
theorem aggF (w : World) : (isAgg 83).run Tryd.prog w = .ok true w := by kernel_rfl
theorem loadF (b : Addr) (k : Value) (W : World) (hb : W.cell? b = some k) (hs : b.add 0 = b) : (loadVar 83 b).run Tryd.prog W = .ok (.agg #[k]) W := by
  simp only [loadVar, Sem.run_bind, aggF, sizeF, Result.andThen, if_true]
  simp [loadCells, loadCellsFrom, hs, hb]
theorem storeF (a : Addr) (k : Int) (old : Value) (W : World) (ht : W.cell? a = some old) (hf : W.frozen? a = false) (hs : a.add 0 = a) : (storeVar 83 a (.agg #[.int .i64 k])).run Tryd.prog W = .ok () (W.setCell a (.int .i64 k)) := by
  have hc : (Value.agg #[.int .i64 k]).cells = #[.int .i64 k] := by simp [Value.cells]
  simp only [storeVar, Sem.run_bind, sizeF, Result.andThen, hc]
  simp [storeCells, hs]
  rw [run_store Tryd.prog W a _ _ (by rfl)]
  simp [ht, hf]
theorem setV (ta b : Addr) (k : Int) (old : Value) (W : World) (hb : W.cell? b = some (.int .i64 k)) (hs : b.add 0 = b) (ht : W.cell? ta = some old) (hf : W.frozen? ta = false) (hts : ta.add 0 = ta) :
    (ReflectliteValue.set #[.agg #[hdl 83, .pointer (some ta), .int .u64 409], .agg #[hdl 83, .pointer (some b), .int .u64 153]]).run Tryd.prog W
      = .ok (.tuple #[]) (W.setCell ta (.int .i64 k)) := by
  rw [rls]
  simp only [Sem.run_bind, partsFa, partsF, Result.andThen]
  simp [ReflectliteValue.flagAddr, Sem.run_bind, loadF b _ W hb hs, directF, storeF ta k old W ht hf hts, Result.andThen]
end Go.Proofs.YtgeggiafjojgdaaDoor

