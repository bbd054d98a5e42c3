/-
  A log: load, Open.
-/
import Derived.Test.YtmloljjllmmkoaaGreatNC
namespace Go.Proofs.YtmloljjllmmkoaaGreat
open Go.RowKit Go Go.Maps SM

theorem step_min {P : Program} (w : World) {ops : Array Oper} {o : Oper} {a : Act} {K : Act → World → Prop} {Q : Exit → Act → World → Prop} {E : Prop} (hgd : o.guard = none) (x c : Operand) (t1 t2 : TypeId)
    (ho : o.op = .call { callee := .builtin .min, args := #[x, c], argTypes := #[t1, t2] }) (p q m : Int) (hx : a.eval x = .int .i64 p) (hc : a.eval c = .int .i64 q) (hm : (if q < p then q else p) = m) (h : K (a.put o.dst (.int .i64 m)) w) :
    if Region.wanted o (yielded ops a.tmps) = true then Oper.wp P o a w K Q else E := by
  have hw : Region.wanted o (yielded ops a.tmps) = true := by simp [Region.wanted, hgd]
  rw [if_pos hw]
  unfold Oper.wp execOp
  simp only [ho, resolve, invoke, builtin, Sem.run_bind, Sem.run_pure, Result.andThen_ok, List.map_toArray, List.map_cons, List.map_nil, hx, hc, run_min_int2, hm]
  exact h
/-- sectors are read, one behind the other, up to the first error -/
def loads (s : DS) (from_ : Nat) : Nat → Nat → Int × List UInt8
  | 0, _ => (0, [])
  | k + 1, i => if s.readE ((from_ + i : Nat) : Int) = 0 then ((loads s from_ k (i + 1)).1, (s.readS ((from_ + i : Nat) : Int)).data.toList ++ (loads s from_ k (i + 1)).2) else (s.readE ((from_ + i : Nat) : Int), [])
theorem loads_go {s : DS} {f k i : Nat} (h : s.readE ((f + i : Nat) : Int) = 0) : loads s f (k + 1) i = ((loads s f k (i + 1)).1, (s.readS ((f + i : Nat) : Int)).data.toList ++ (loads s f k (i + 1)).2) := by rw [loads, if_pos h]
theorem loads_stop {s : DS} {f k i : Nat} (h : s.readE ((f + i : Nat) : Int) ≠ 0) : loads s f (k + 1) i = (s.readE ((f + i : Nat) : Int), []) := by rw [loads, if_neg h]
theorem DS.Ok.readS_size {s : DS} (h : s.Ok) {n : Int} (he : s.readE n = 0) : (s.readS n).size = 64 := by
  have hm : s.may n = 0 := by
    unfold DS.readE at he
    split at he
    · assumption
    · rename_i h1; simpa using h1
  obtain ⟨_, h1, h2⟩ := DS.may_ok hm
  unfold DS.readS
  rw [if_pos he]
  exact h.look_size h1 h2

section
variable {l b g m gen : Nat} {v : Value} {R : List UInt8} {s : DS} {w0 w w' : World}
end
end Go.Proofs.YtmloljjllmmkoaaGreat

