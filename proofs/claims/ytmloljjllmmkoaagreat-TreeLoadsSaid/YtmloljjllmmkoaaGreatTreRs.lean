/-
  The reference reads a tree: where it has failed; a block is noted.
-/
import Derived.Test.YtmloljjllmmkoaaGreatTreRr
import Derived.Deep.RegionLaw
import Derived.Deep.CutRange
namespace Go.Proofs.YtmloljjllmmkoaaGreat
open Go.ChangeShapes Go.WideShapes Go.ChangeAt Go.RowKit Go.Shelf Go Go.Maps SM PL AL TR

/-- an append of a row, or of nothing, onto a row of the call's own, at a step of a region that draws -/
theorem step_append_row {P : Program} (w : World) {ops : Array Oper} {o : Oper} {a : Act} {K : Act → World → Prop} {Q : Exit → Act → World → Prop} {E : Prop} (hgd : o.guard = none) (s x : Operand) (t : TypeId)
    (ho : o.op = .call { callee := .builtin .append, args := #[s, x], argTypes := #[t, t] })
    (base : Nat) (e : TypeId) (i : TypeInfo) (z : Value) (size bytes : Nat) (ht : P.underlying t = some (.slice e)) (hi : P.info? e = some i) (hz : i.zero = some z)
    (hsize : i.size = size) (hby : i.bytes = bytes) (hzs : z.cells.size = size) (hsz : 0 < size)
    (v : Value) (n : Nat) (xs : List Value) (hs : a.eval s = v) (hown : w.ownsRow base e size v n xs)
    (B2 : Nat) (u : Value) (m : Nat) (news : List Value) (hx : a.eval x = u) (hrow : w.ownsRow B2 e size u m news) (h1 : ∀ u ∈ news, u.oneCell' = true)
    (h63 : n + m ≤ maxLen) (hbytes : (n + m) * bytes ≤ 140737488355328) (hbase : base ≤ w.heap.size)
    (h : ∀ v' w', w'.ownsRow base e size v' (n + m) (xs ++ news) → w.grownBy w' v.ownBlock → K (a.put o.dst v') w') :
    if Region.wanted o (yielded ops a.tmps) = true then Oper.wp P o a w K Q else E := by
  rcases hrow.2 with ⟨rfl, rfl⟩ | ⟨g, cap, cur, rfl, _⟩
  · have hw : Region.wanted o (yielded ops a.tmps) = true := by simp [Region.wanted, hgd]
    rw [if_pos hw]
    have hr := run_append_owned_none (P := P) w base t o.type e i size ht hi v n xs hown
    have hnil : news = [] := List.length_eq_zero_iff.1 (by rw [hrow.1, Nat.zero_mul])
    subst hnil
    unfold Oper.wp execOp
    simp only [ho, resolve, invoke, builtin, Sem.run_bind, Sem.run_pure, Result.andThen_ok, List.map_toArray, List.map_cons, List.map_nil, hs, hx, hr]
    exact h v w (by rw [List.append_nil]; exact hown) ⟨rfl, rfl, rfl, Nat.le_refl _, fun _ _ _ => rfl⟩
  · exact step_append_own w hgd s x t ho base e i z size bytes ht hi hz hsize hby hzs hsz v n xs hs hown ⟨g, 0, none⟩ m cap news hx hrow.1 (fun j y hj => (hrow.cells rfl) j y hj) h1 h63 hbytes hbase (fun v' w' h2 h3 _ _ => h v' w' h2 h3)
theorem vals_one (L : List Int) : ∀ u ∈ intVals L, u.oneCell' = true := fun u hu => by
  unfold intVals at hu
  obtain ⟨x, _, rfl⟩ := List.mem_map.1 hu
  rfl
section
variable {B B0 p N k : Nat} {O : List Int} {D : ByteArray} {e v : Int} {w w4 : World} {ov a b c v' : Value}
/-- a block's number is put to the order -/
theorem pushO (hp : B ≤ p) (hob : w.heap[p]? = some (TrO ov D a b c e)) (hrw : w.ownsRow B 3 1 ov k (intVals O)) (hk : O.length = k) (hN : k ≤ N) (hD : D.size ≤ 240 * N) (h3 : LvOk B N ov a w) (h4 : LvOk B N ov b w) (h5 : LvOk B N ov c w)
    (hown : w4.ownsRow B 3 1 v' (k + 1) (intVals O ++ [.int .i64 v])) (hgrow : (w.alloc (.cells #[.int .i64 v] 3)).grownBy w4 ov.ownBlock) (hat : v'.ownBlock = ov.ownBlock ∨ v'.ownBlock = some (w.alloc (.cells #[.int .i64 v] 3)).heap.size) :
    w4.heap[p]? = some (TrO ov D a b c e) ∧ TrAt B p (O ++ [v]) D e (N + 1) (w4.setCell ⟨p, 0, none⟩ v') ∧ Stir (fun j => ov.ownBlock = some j ∨ j = p) w (w4.setCell ⟨p, 0, none⟩ v') ∧ ∀ i, (ov.ownBlock = some i ∨ i = p) → ∃ C t f, w.heap[i]? = some (Obj.cells C t f) ∧ TRK t ∧ B ≤ i := by
  have hold : ∀ j o, w.heap[j]? = some o → ov.ownBlock ≠ some j → w4.heap[j]? = some o := fun j o hj hn =>
    (hgrow.block j (lt_of_heap (heap_alloc_old hj _)) (fun e => hn e.symm)).trans (heap_alloc_old hj _)
  have hpn : ov.ownBlock ≠ some p := fun e => by
    obtain ⟨C, hC⟩ := owns_block hrw e
    rw [hob] at hC
    simp [TrO] at hC
  have ho4 := hold p _ hob hpn
  have hlv : ∀ {u : Value}, LvOk B N ov u w → LvOk B (N + 1) v' u (w4.setCell ⟨p, 0, none⟩ v') := fun h => by
    obtain ⟨L, k1, k2, k3⟩ := h
    have k4 := owns_keep k2 (w' := w4) (fun j hj => by
      obtain ⟨C, hC⟩ := owns_block k2 hj
      rw [hC]
      exact hold j _ hC (k3 j hj))
    refine ⟨L, by omega, owns_other k4 ho4 (by decide) _, fun j hj => ?_⟩
    rcases hat with e1 | e1
    · rw [e1]; exact k3 j hj
    · rw [e1]
      intro e2
      have := (k2.lt j hj).2
      simp at e2
      omega
  refine ⟨ho4, ⟨hp, by rw [List.length_append, hk]; simp; omega, by omega, v', a, b, c, TrO.set0 ho4 v', ?_, hlv h3, hlv h4, hlv h5⟩, ?_, ?_⟩
  · have e1 : (O ++ [v]).length = k + 1 := by simp [hk]
    have e2 : intVals (O ++ [v]) = intVals O ++ [.int .i64 v] := by simp [intVals]
    rw [e1, e2]
    exact owns_other hown ho4 (by decide) _
  · have s4 : Stir (fun j => ov.ownBlock = some j) w w4 := by
      refine ⟨hgrow.os, hgrow.tape, hgrow.output, Nat.le_trans (by simp) hgrow.size, fun j hj hn => ?_⟩
      rw [hgrow.block j (by rw [World.size_alloc]; omega) (fun e => hn e.symm)]
      exact Below.heap_alloc w _ j hj
    exact (s4.weaken (fun _ e => .inl e)).set (.inl (.inr rfl)) _
  · rintro i (e1 | rfl)
    · obtain ⟨C, hC⟩ := owns_block hrw e1
      exact ⟨C, _, _, hC, .inr rfl, (hrw.lt i e1).1⟩
    · exact ⟨_, _, _, hob, .inl rfl, hp⟩
theorem cell_one_at {w : World} {g : Nat} {x : Value} {t : TypeId} {f : Nat × Nat} (h : w.heap[g]? = some (Obj.cells #[x] t f)) : ∀ (i : Nat) (u : Value), [x][i]? = some u → w.cell? ((⟨g, 0, none⟩ : Addr).add i) = some u := by
  intro i u hu
  rw [Addr.add_lit]
  cases i with
  | zero =>
    simp at hu
    subst hu
    simp [World.cell?, h]
  | succ n => simp at hu
/-- a level's row -/
theorem TrAt.level (h : TrAt B p O D e N w) {j : Nat} (hj : j < 3) : ∃ u L, L.length ≤ N ∧ w.cell? ⟨p, 2 + j, none⟩ = some u ∧ w.ownsRow B 3 1 u L.length (intVals L) := by
  obtain ⟨ov, a, b, c, h1, h2, ⟨La, a1, a2, _⟩, ⟨Lb, b1, b2, _⟩, ⟨Lc, c1, c2, _⟩⟩ := h.obj
  obtain rfl | rfl | rfl : j = 0 ∨ j = 1 ∨ j = 2 := by omega
  · exact ⟨a, La, a1, TrO.c2 h1, a2⟩
  · exact ⟨b, Lb, b1, TrO.c3 h1, b2⟩
  · exact ⟨c, Lc, c1, TrO.c4 h1, c2⟩
end
set_option maxRecDepth 100000 in
theorem rtread_stop {B p N : Nat} {O : List Int} {D : ByteArray} {e : Int} {w : World} (h : TrAt B p O D e N w) (he : e ≠ 0) (q : Nat) (v z a s : Int) (ch : Bool) :
    Calls Tryz.prog 65 #[.pointer (some ⟨p, 0, none⟩), .pointer (some ⟨q, 0, none⟩), .int .i64 v, .int .i64 z, .int .i64 a, .int .i64 s, .bool ch] w fun x w' => x = .returned (.tuple #[]) ∧ w = w' := by
  obtain ⟨ov, a1, b1, c1, h1, _⟩ := h.obj
  have c5 := TrO.c5 h1
  have hb : (e != 0) = true := by simpa using he
  clear h h1
  go_enter Tryz.func65, Tryz.ntmps65
  go_wp2
  (try simp only [Exit.inBlock, Exit.then])
  refine bodyPost_ret (results_none rfl _ _ _) rfl ?_
  exact ⟨rfl, rfl⟩
end Go.Proofs.YtmloljjllmmkoaaGreat

