/-
  A list of commands, as an argument of a bulk of at most 1048576.
-/
import Derived.Test.YtfncoojpommfcaaGreatDoorFilOps
import Derived.Test.YtfncoojpommfcaaGreatDoorFilVx
import Derived.Test.YtfncoojpommfcaaGreatDoorT1
namespace Go.Proofs.YtfncoojpommfcaaGreatDoor
open Go.ChangeShapes Go.WideShapes Go.ChangeAt Go.RowKit Go
theorem bulk_part {H : Type} {d : DataW H} {l : List (DataW H)} (h : d ∈ l) : Rows.uptoBulk d ≤ Rows.uptoBulkAll l := by
  induction l with
  | nil => cases h
  | cons x r ih =>
    simp only [Rows.uptoBulkAll]
    cases List.mem_cons.1 h with
    | inl e => subst e; omega
    | inr e => have := ih e; omega
section
variable {H : Type} {enc : TypeId × Value → H} {W : World} {base : Nat} {v : Value} {d : DataW H} {p : List MemPlace}
set_option maxRecDepth 100000 in
theorem op_bulk {n : Nat} {cs : List Value} {x : DataW H × List MemPlace} {sp : Nat → Bool} {hd : Bool} {bb : Nat} (h : DataW.trod enc Tryz.prog W bb sp hd n 31 cs = some x) :
    ∃ (a b : Int) (s t u : ByteArray), cs = [.int .i64 a, .string s, .string t, .int .i64 b, .string u] ∧ s.data.toList.length ≤ Rows.uptoBulk x.1 ∧ t.data.toList.length ≤ Rows.uptoBulk x.1 := by
  obtain ⟨f0, f1, f2, f3, f4, hu, o0, o1, o2, o3, o4, t0, t1, t2, t3, t4⟩ := op_fields
  obtain ⟨xs, k, _, hx, hl, hxl, hf⟩ := DataW.trod_struct hu h
  rw [cellsOp] at hl
  match xs, hxl, cs, hl with
  | [y0, y1, y2, y3, y4], _, [v0, v1, v2, v3, v4], _ =>
    have g0 := hf 0 f0 rfl
    rw [o0, t0, cells3] at g0
    have g1 := hf 1 f1 rfl
    rw [o1, t1, cells9] at g1
    have g2 := hf 2 f2 rfl
    rw [o2, t2, cells9] at g2
    have g3 := hf 3 f3 rfl
    rw [o3, t3, cells3] at g3
    have g4 := hf 4 f4 rfl
    rw [o4, t4, cells9] at g4
    obtain ⟨n0, e0, z0, r0⟩ := DataW.trod_int Tryz.underlying3 g0
    obtain ⟨n1, e1, z1, _⟩ := DataW.trod_string Tryz.underlying9 g1
    obtain ⟨n2, e2, z2, _⟩ := DataW.trod_string Tryz.underlying9 g2
    obtain ⟨n3, e3, z3, r3⟩ := DataW.trod_int Tryz.underlying3 g3
    obtain ⟨n4, e4, z4, _⟩ := DataW.trod_string Tryz.underlying9 g4
    simp at e0 e1 e2 e3 e4
    refine ⟨n0, n3, n1, n2, n4, by rw [e0, e1, e2, e3, e4], ?_, ?_⟩
    · have hy : y1.1 = .lit (.string n1.data.toList) := by simpa using congrArg Prod.fst z1
      have hb : Rows.uptoBulk y1.1 = n1.data.toList.length + 1 := by rw [hy]; rfl
      have hm : y1.1 ∈ List.map (fun x => x.fst) [y0, y1, y2, y3, y4] := List.mem_map.2 ⟨y1, by simp, rfl⟩
      have := bulk_part hm
      rw [hx]
      simp only [Rows.uptoBulk]
      omega
    · have hy : y2.1 = .lit (.string n2.data.toList) := by simpa using congrArg Prod.fst z2
      have hb : Rows.uptoBulk y2.1 = n2.data.toList.length + 1 := by rw [hy]; rfl
      have hm : y2.1 ∈ List.map (fun x => x.fst) [y0, y1, y2, y3, y4] := List.mem_map.2 ⟨y2, by simp, rfl⟩
      have := bulk_part hm
      rw [hx]
      simp only [Rows.uptoBulk]
      omega
set_option maxRecDepth 100000 in
/-- the texts of a list of commands of small bulk are short -/
theorem ops_up (h0 : DataW.Trod enc Tryz.prog W 0 (fun _ => true) true 22 v d p) {l : List (Int × ByteArray × ByteArray × Int × ByteArray)} (hl : OpsAt W v l) (hb : Rows.uptoBulk d ≤ 1048576) : ∀ q ∈ l, q.2.1.size ≤ 1048576 ∧ q.2.2.1.size ≤ 1048576 := by
  obtain ⟨a0, cap, rfl, hcell⟩ := hl
  intro q hq
  obtain ⟨i, hi, rfl⟩ := List.getElem_of_mem hq
  obtain ⟨b, off, rfl, _, hc⟩ := hcell (by intro e; rw [e] at hi; simp at hi)
  obtain ⟨fuel, hf⟩ := id h0
  rcases Deep.open_slice Tryz.underlying22 hf with ⟨hcs, hx⟩ | ⟨a, len', cap', m, n, D, Pl, hcs, hb', hl', hm, hmm, hx, hel⟩
  · simp [Value.cells] at hcs
  · simp [Value.cells] at hcs
    obtain ⟨rfl, rfl, rfl⟩ := hcs
    simp only [Prod.mk.injEq] at hx
    obtain ⟨rfl, rfl⟩ := hx
    simp only [if_true] at hmm
    obtain ⟨cs', h1, h2⟩ := hel i (by omega)
    obtain ⟨x0, x1, s, t, u, rfl, hs, ht⟩ := op_bulk h2
    rw [cellsOp] at h1
    obtain ⟨_, _, hc'⟩ := World.cells?_some h1
    have e1 := hc' 1 (by omega)
    have e2 := hc' 2 (by omega)
    rw [Deep.add_add, Addr.add_lit] at e1 e2
    have c1 := (hc i hi).2.1
    have c2 := (hc i hi).2.2.1
    rw [Nat.add_assoc] at c1 c2
    rw [c1] at e1
    rw [c2] at e2
    simp at e1 e2
    have hD : (D i) ∈ (List.range l.length).map D := List.mem_map.2 ⟨i, List.mem_range.2 hi, rfl⟩
    have k1 := bulk_part hD
    simp only [Rows.uptoBulk] at hb
    have hs' : s.data.toList.length ≤ Rows.uptoBulk (D i) := hs
    have ht' : t.data.toList.length ≤ Rows.uptoBulk (D i) := ht
    have hsz : s.data.toList.length = s.size := by simp
    have htz : t.data.toList.length = t.size := by simp
    rw [e1, e2]
    omega
end
/-- a command's cells -/
def cmdC (c : Cmd) : List Value := [.int .i64 c.kind, .string c.path, .string c.dest, .int .i64 c.place, .string c.data]
def toCmd (q : Int × ByteArray × ByteArray × Int × ByteArray) : Cmd := ⟨q.1, q.2.1, q.2.2.1, q.2.2.2.1, q.2.2.2.2⟩
theorem cmds_of {W : World} {v : Value} {l : List (Int × ByteArray × ByteArray × Int × ByteArray)} (h : OpsAt W v l) (ho : OpsOk l) (hu : ∀ q ∈ l, q.2.1.size ≤ 1048576 ∧ q.2.2.1.size ≤ 1048576) :
    ∃ cs : List Cmd, LstAt cmdC 5 W v cs ∧ cs.length ≤ 9223372036854775807 ∧ ∀ c ∈ cs, CmdIn c ∧ c.path.size + c.dest.size ≤ 100000000 := by
  obtain ⟨a, cap, rfl, hc⟩ := h
  refine ⟨l.map toCmd, ⟨a, cap, by rw [List.length_map], fun hne => ?_⟩, by rw [List.length_map]; exact ho.1, fun c hc => ?_⟩
  · obtain ⟨b, off, e, hb, hx⟩ := hc (fun e => hne (by rw [e]; rfl))
    refine ⟨b, off, e, hb, fun j hj i hi => ?_⟩
    rw [List.length_map] at hj
    obtain ⟨h0, h1, h2, h3, h4⟩ := hx j hj
    rw [List.getElem_map]
    have : i = 0 ∨ i = 1 ∨ i = 2 ∨ i = 3 ∨ i = 4 := by omega
    rcases this with rfl | rfl | rfl | rfl | rfl
    · exact h0
    · exact h1
    · exact h2
    · exact h3
    · exact h4
  · obtain ⟨q, hq, rfl⟩ := List.mem_map.1 hc
    obtain ⟨o0, o1, o2, o3, o4⟩ := ho.2 q hq
    obtain ⟨u1, u2⟩ := hu q hq
    refine ⟨⟨o0, o1, ?_, ?_, ?_⟩, ?_⟩
    · show q.2.1.size ≤ _; omega
    · show q.2.2.1.size ≤ _; omega
    · show q.2.2.2.2.size ≤ _; omega
    · show q.2.1.size + q.2.2.1.size ≤ _; omega
end Go.Proofs.YtfncoojpommfcaaGreatDoor

