/-
  A list of calls on a disk, as an argument.
-/
import Derived.Test.YtmbknpipefbelaaKitL
namespace Go.Proofs.Ytmbknpipefbelaa
open Go.ChangeShapes Go.WideShapes Go.ChangeAt Go.RowKit Go
theorem cells3 : Try.prog.cellsOf 3 = 1 := by kernel_rfl
theorem cells9 : Try.prog.cellsOf 9 = 1 := by kernel_rfl
theorem cellsB : Try.prog.cellsOf 4 = 1 := by kernel_rfl
theorem cellsY : Try.prog.cellsOf 5 = 1 := by kernel_rfl
def ByteOk (n : Int) : Prop := 0 ≤ n ∧ n ≤ 255
theorem byte_range {n : Int} (h : (Lit.int .u8 n).wf = true) : 0 ≤ n ∧ n ≤ 255 := by
  have e : IntKind.u8.min = 0 := by decide
  have e2 : IntKind.u8.max = 255 := by decide
  simp [Lit.wf] at h
  rw [e, e2] at h
  exact h
theorem weights_mem_all {H : Type} {P : Program} {e : TypeId} {d : DataW H} {n : Nat} : ∀ {l : List (DataW H)}, d ∈ l → n ∈ d.weights P e → n ∈ DataW.weightsAll P e l
  | x :: r, h, hn => by
    simp only [DataW.weightsAll, List.mem_append]
    rcases List.mem_cons.1 h with rfl | h
    · exact .inl hn
    · exact .inr (weights_mem_all h hn)
/-- a list of calls, at a world -/
def OpsAt (W : World) (v : Value) (l : List (Int × Int × Int × Int × ByteArray × Bool)) : Prop :=
  ∃ a cap, v = .slice a l.length cap ∧ (l ≠ [] → ∃ b off, a = some ⟨b, off, none⟩ ∧ b < W.heap.size ∧ ∀ j (h : j < l.length),
    W.cell? ⟨b, off + j * 6, none⟩ = some (.int .i64 l[j].1) ∧ W.cell? ⟨b, off + j * 6 + 1, none⟩ = some (.int .i64 l[j].2.1) ∧ W.cell? ⟨b, off + j * 6 + 2, none⟩ = some (.int .u8 l[j].2.2.1) ∧ W.cell? ⟨b, off + j * 6 + 3, none⟩ = some (.int .i64 l[j].2.2.2.1) ∧ W.cell? ⟨b, off + j * 6 + 4, none⟩ = some (.string l[j].2.2.2.2.1) ∧ W.cell? ⟨b, off + j * 6 + 5, none⟩ = some (.bool l[j].2.2.2.2.2))
def OpsOk (l : List (Int × Int × Int × Int × ByteArray × Bool)) : Prop := l.length ≤ 9223372036854775807 ∧ ∀ q ∈ l, IntOk q.1 ∧ IntOk q.2.1 ∧ ByteOk q.2.2.1 ∧ IntOk q.2.2.2.1 ∧ q.2.2.2.2.1.size ≤ 140737488351232
section
variable {H : Type} {enc : TypeId × Value → H} {W : World} {base : Nat} {v : Value} {d : DataW H} {p : List MemPlace}
end
theorem OpsAt.later {W W' : World} {v : Value} {l : List (Int × Int × Int × Int × ByteArray × Bool)} (h : OpsAt W v l) (hB : Below W.heap.size W W') : OpsAt W' v l := by
  obtain ⟨a, cap, h1, h2⟩ := h
  refine ⟨a, cap, h1, fun hne => ?_⟩
  obtain ⟨b, off, e, hb, hc⟩ := h2 hne
  have hk : ∀ i, W'.cell? ⟨b, i, none⟩ = W.cell? ⟨b, i, none⟩ := fun i => World.cell?_of_block (w := W) (hB.block b hb)
  refine ⟨b, off, e, Nat.lt_of_lt_of_le hb hB.size, fun j hj => ?_⟩
  rw [hk, hk, hk, hk, hk, hk]
  exact hc j hj
end Go.Proofs.Ytmbknpipefbelaa
