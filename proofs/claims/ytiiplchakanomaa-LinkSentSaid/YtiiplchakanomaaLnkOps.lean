/-
  A list of calls on a link, as an argument.
-/
import Derived.Test.YtiiplchakanomaaKitI
import Derived.Test.YtiiplchakanomaaKitS
import Derived.Test.YtiiplchakanomaaLnkMath
namespace Go.Proofs.Ytiiplchakanomaa
open Go.ChangeShapes Go.WideShapes Go.ChangeAt Go.RowKit Go
theorem cellsY : Try.prog.cellsOf 5 = 1 := by kernel_rfl
def ByteOk (n : Int) : Prop := 0 ≤ n ∧ n ≤ 255
theorem byte_range {n : Int} (h : (Lit.int .u8 n).wf = true) : 0 ≤ n ∧ n ≤ 255 := by
  have e : IntKind.u8.min = 0 := by decide
  have e2 : IntKind.u8.max = 255 := by decide
  simp [Lit.wf] at h
  rw [e, e2] at h
  exact h
theorem weights_mem_all {H : Type} {P : Program} {e : TypeId} {d : DataW H} {n : Nat} : ∀ {l : List (DataW H)}, d ∈ l → n ∈ d.weights P e → n ∈ DataW.weightsAll P e l
  | x :: r, h, hn => by
    simp only [DataW.weightsAll, List.mem_append]
    rcases List.mem_cons.1 h with rfl | h
    · exact .inl hn
    · exact .inr (weights_mem_all h hn)
theorem cellsOp : Try.prog.cellsOf 36 = 5 := by kernel_rfl
/-- a list of calls, at a world -/
def OpsAt (W : World) (v : Value) (l : List (Int × ByteArray × Int × Int × Int)) : Prop :=
  ∃ a cap, v = .slice a l.length cap ∧ (l ≠ [] → ∃ b off, a = some ⟨b, off, none⟩ ∧ b < W.heap.size ∧ ∀ j (h : j < l.length),
    W.cell? ⟨b, off + j * 5, none⟩ = some (.int .i64 l[j].1) ∧ W.cell? ⟨b, off + j * 5 + 1, none⟩ = some (.string l[j].2.1) ∧ W.cell? ⟨b, off + j * 5 + 2, none⟩ = some (.int .i64 l[j].2.2.1) ∧ W.cell? ⟨b, off + j * 5 + 3, none⟩ = some (.int .i64 l[j].2.2.2.1) ∧ W.cell? ⟨b, off + j * 5 + 4, none⟩ = some (.int .u8 l[j].2.2.2.2))
def OpsOk (l : List (Int × ByteArray × Int × Int × Int)) : Prop := l.length ≤ 9223372036854775807 ∧ ∀ q ∈ l, IntOk q.1 ∧ IntOk q.2.2.1 ∧ IntOk q.2.2.2.1 ∧ ByteOk q.2.2.2.2 ∧ q.2.1.size ≤ 140737488351232
section
variable {H : Type} {enc : TypeId × Value → H} {W : World} {base : Nat} {v : Value} {d : DataW H} {p : List MemPlace}
theorem op_fields : ∃ f0 f1 f2 : Field, Try.prog.underlying 36 = some (.struct #[f0, f1, f2]) ∧ f0.offset = 0 ∧ f1.offset = 1 ∧ f2.offset = 2 ∧ f0.type = 3 ∧ f1.type = 9 ∧ f2.type = 34 :=
  ⟨_, _, _, Try.underlying36, rfl, rfl, rfl, rfl, rfl, rfl⟩
theorem fate_fields : ∃ f0 f1 f2 : Field, Try.prog.underlying 34 = some (.struct #[f0, f1, f2]) ∧ f0.offset = 0 ∧ f1.offset = 1 ∧ f2.offset = 2 ∧ f0.type = 3 ∧ f1.type = 3 ∧ f2.type = 5 :=
  ⟨_, _, _, Try.underlying34, rfl, rfl, rfl, rfl, rfl, rfl⟩
theorem cellsF : Try.prog.cellsOf 34 = 3 := by kernel_rfl
set_option maxRecDepth 100000 in
theorem op_read {n : Nat} {cs : List Value} {x : DataW H × List MemPlace} {sp : Nat → Bool} {hd : Bool} {bb : Nat} (h : DataW.trod enc Try.prog W bb sp hd n 36 cs = some x) :
    ∃ q : Int × ByteArray × Int × Int × Int, cs = [.int .i64 q.1, .string q.2.1, .int .i64 q.2.2.1, .int .i64 q.2.2.2.1, .int .u8 q.2.2.2.2] ∧ (IntOk q.1 ∧ IntOk q.2.2.1 ∧ IntOk q.2.2.2.1 ∧ ByteOk q.2.2.2.2) ∧ q.2.1.data.toList.length ∈ DataW.weights Try.prog 36 x.1 := by
  obtain ⟨f0, f1, f2, hu, o0, o1, o2, t0, t1, t2⟩ := op_fields
  obtain ⟨k0, k1, k2, ku, p0, p1, p2, s0, s1, s2⟩ := fate_fields
  obtain ⟨xs, k, _, hx, hl, hxl, hf⟩ := DataW.trod_struct hu h
  rw [cellsOp] at hl
  match xs, hxl, cs, hl with
  | [y0, y1, y2], _, [v0, v1, v2, v3, v4], _ =>
    have g0 := hf 0 f0 rfl
    rw [o0, t0, cells3] at g0
    have g1 := hf 1 f1 rfl
    rw [o1, t1, cells9] at g1
    have g2 := hf 2 f2 rfl
    rw [o2, t2, cellsF] at g2
    obtain ⟨n0, e0, z0, r0⟩ := DataW.trod_int Try.underlying3 g0
    obtain ⟨n1, e1, z1, _⟩ := DataW.trod_string Try.underlying9 g1
    obtain ⟨zs, kk, _, hx2, hl2, hxl2, hf2⟩ := DataW.trod_struct ku g2
    match zs, hxl2 with
    | [q0, q1, q2], _ =>
      have d0 := hf2 0 k0 rfl
      rw [p0, s0, cells3] at d0
      have d1 := hf2 1 k1 rfl
      rw [p1, s1, cells3] at d1
      have d2 := hf2 2 k2 rfl
      rw [p2, s2, cellsY] at d2
      obtain ⟨n2, e2, z2, r2⟩ := DataW.trod_int Try.underlying3 d0
      obtain ⟨n3, e3, z3, r3⟩ := DataW.trod_int Try.underlying3 d1
      obtain ⟨n4, e4, z4, r4⟩ := DataW.trod_int Try.underlying5 d2
      simp at e0 e1 e2 e3 e4
      exact ⟨(n0, n1, n2, n3, n4), by rw [e0, e1, e2, e3, e4], ⟨int_range r0, int_range r2, int_range r3, byte_range r4⟩, by rw [hx]; simp only [DataW.weights, hu]; exact DataW.weights_mem_each (j := 1) (t := 9) (d := .lit (.string n1.data.toList)) (by simp [t1]) (by simp [z1]) _ (by simp [DataW.weights])⟩

set_option maxRecDepth 100000 in
theorem ops_open (hval : Value.okWide Try.prog W .any base 22 v) (h0 : DataW.Trod enc Try.prog W 0 (fun _ => true) true 22 v d p) (hlt : ∀ x ∈ p, x.block < W.heap.size) {ts : List TypeId} {ds : List (DataW H)} {j : Nat} (hreach : (DataW.weightsEach Try.prog ts ds).all (· ≤ reachBytes) = true) (hts : ts[j]? = some 22) (hds : ds[j]? = some d) :
    ∃ l : List (Int × ByteArray × Int × Int × Int), OpsAt W v l ∧ OpsOk l := by
  obtain ⟨a0, len, cap, rfl⟩ := okWide_slice Try.underlying22 hval
  by_cases hl0 : len = 0
  · subst hl0
    exact ⟨[], ⟨a0, cap, rfl, fun e => absurd rfl e⟩, by simp, by simp⟩
  · obtain ⟨fuel, hf⟩ := id h0
    rcases Deep.open_slice Try.underlying22 hf with ⟨hcs, hx⟩ | ⟨a, len', cap', m, n, D, Pl, hcs, hb, hl, hm, hmm, hx, hel⟩
    · simp [Value.cells] at hcs
      exact absurd hcs.2.1 hl0
    · simp [Value.cells] at hcs
      obtain ⟨rfl, rfl, rfl⟩ := hcs
      simp only [Prod.mk.injEq] at hx
      obtain ⟨rfl, rfl⟩ := hx
      simp only [if_true] at hmm
      have each : ∀ i, i < len → ∃ q : Int × ByteArray × Int × Int × Int, (W.cell? (a.add (i * 5)) = some (.int .i64 q.1) ∧ W.cell? (a.add (i * 5 + 1)) = some (.string q.2.1) ∧ W.cell? (a.add (i * 5 + 2)) = some (.int .i64 q.2.2.1) ∧ W.cell? (a.add (i * 5 + 3)) = some (.int .i64 q.2.2.2.1) ∧ W.cell? (a.add (i * 5 + 4)) = some (.int .u8 q.2.2.2.2)) ∧ IntOk q.1 ∧ IntOk q.2.2.1 ∧ IntOk q.2.2.2.1 ∧ ByteOk q.2.2.2.2 ∧ q.2.1.size ≤ 140737488351232 := by
        intro i hi
        obtain ⟨cs', h1, h2⟩ := hel i (by omega)
        obtain ⟨q, rfl, hk, hw1⟩ := op_read h2
        rw [cellsOp] at h1
        obtain ⟨_, _, hc⟩ := World.cells?_some h1
        have e0 := hc 0 (by omega)
        have e1 := hc 1 (by omega)
        have e2 := hc 2 (by omega)
        have e3 := hc 3 (by omega)
        have e4 := hc 4 (by omega)
        rw [Deep.add_add] at e0 e1 e2 e3 e4
        have hs1 : q.2.1.size ≤ 140737488351232 := by
          have := List.all_eq_true.1 hreach _ (DataW.weights_mem_each hts hds q.2.1.data.toList.length (by
            simp only [DataW.weights, Try.underlying22]
            exact List.mem_cons_of_mem _ (List.mem_append.2 (Or.inl (weights_mem_all (List.mem_map.2 ⟨i, List.mem_range.2 hi, rfl⟩) hw1)))))
          exact reach_size (by simpa using this)
        exact ⟨q, ⟨by simpa using e0, by simpa using e1, by simpa using e2, by simpa using e3, by simpa using e4⟩, hk.1, hk.2.1, hk.2.2.1, hk.2.2.2, hs1⟩
      obtain ⟨q, hq⟩ := Deep.choose_lt each
      obtain ⟨b, off, spot⟩ := a
      have hspot : spot = none := by
        have := (hq 0 (by omega)).1.1
        simpa [Addr.add] using World.cell?_spot this
      subst hspot
      have hbW : b < W.heap.size := hlt (.cell b off) (List.mem_append_left _ (MemPlace.mem_row.2 ⟨0, by rw [cellsOp]; omega, by simp⟩))
      have hml : cap ≤ 9223372036854775807 := hm
      refine ⟨(List.range len).map q, ⟨_, cap, by simp, fun _ => ⟨b, off, rfl, hbW, fun j hj => ?_⟩⟩, by simp; omega, fun x hx => ?_⟩
      rotate_left
      · obtain ⟨j, hj, rfl⟩ := List.mem_map.1 hx
        exact (hq j (by simpa using hj)).2
      have hj' : j < len := by simpa using hj
      have := (hq j hj').1
      rw [Addr.add_lit, Addr.add_lit, Addr.add_lit, Addr.add_lit, Addr.add_lit] at this
      simp only [List.getElem_map, List.getElem_range]
      exact ⟨this.1, by rw [Nat.add_assoc]; exact this.2.1, by rw [Nat.add_assoc]; exact this.2.2.1, by rw [Nat.add_assoc]; exact this.2.2.2.1, by rw [Nat.add_assoc]; exact this.2.2.2.2⟩
end
theorem OpsAt.later {W W' : World} {v : Value} {l : List (Int × ByteArray × Int × Int × Int)} (h : OpsAt W v l) (hB : Below W.heap.size W W') : OpsAt W' v l := by
  obtain ⟨a, cap, h1, h2⟩ := h
  refine ⟨a, cap, h1, fun hne => ?_⟩
  obtain ⟨b, off, e, hb, hc⟩ := h2 hne
  have hk : ∀ i, W'.cell? ⟨b, i, none⟩ = W.cell? ⟨b, i, none⟩ := fun i => World.cell?_of_block (w := W) (hB.block b hb)
  refine ⟨b, off, e, Nat.lt_of_lt_of_le hb hB.size, fun j hj => ?_⟩
  rw [hk, hk, hk, hk, hk]
  exact hc j hj

/-- a call: its kind, its message, its fate -/
def opF (q : Int × ByteArray × Int × Int × Int) : Fte := ⟨q.2.2.1, q.2.2.2.1, UInt8.ofNat q.2.2.2.2.toNat⟩
theorem opF_mask {q : Int × ByteArray × Int × Int × Int} (h : ByteOk q.2.2.2.2) : ((opF q).mask.toNat : Int) = q.2.2.2.2 := by
  unfold ByteOk at h
  simp only [opF]
  rw [UInt8.toNat_ofNat']
  omega
end Go.Proofs.Ytiiplchakanomaa

