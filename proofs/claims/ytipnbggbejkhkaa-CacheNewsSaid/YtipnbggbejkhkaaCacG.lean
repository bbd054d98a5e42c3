/-
  The reference: the list without one of its things.
-/
import Derived.Test.YtipnbggbejkhkaaCacF
import Derived.Deep.AppendLies
import Derived.Deep.RegionHeld3
namespace Go.Proofs.Ytipnbggbejkhkaa
open Go.RowKit Go

/-- an append onto a slice of the call's own, at a step of a region that draws -/
theorem step_append_own {P : Program} (w : World) {ops : Array Oper} {o : Oper} {a : Act} {K : Act → World → Prop} {Q : Exit → Act → World → Prop} {E : Prop} (hgd : o.guard = none) (s x : Operand) (t : TypeId)
    (ho : o.op = .call { callee := .builtin .append, args := #[s, x], argTypes := #[t, t] })
    (base : Nat) (e : TypeId) (i : TypeInfo) (z : Value) (size bytes : Nat) (ht : P.underlying t = some (.slice e)) (hi : P.info? e = some i) (hz : i.zero = some z)
    (hsize : i.size = size) (hby : i.bytes = bytes) (hzs : z.cells.size = size) (hsz : 0 < size)
    (v : Value) (n : Nat) (xs : List Value) (hs : a.eval s = v) (hown : w.ownsRow base e size v n xs)
    (ad : Addr) (m c : Nat) (news : List Value) (hx : a.eval x = .slice (some ad) m c) (hl : news.length = m * size) (hnews : ∀ j u, news[j]? = some u → w.cell? (ad.add j) = some u) (h1 : ∀ u ∈ news, u.oneCell' = true)
    (h63 : n + m ≤ maxLen) (hbytes : (n + m) * bytes ≤ 140737488355328) (hbase : base ≤ w.heap.size)
    (h : ∀ v' w', w'.ownsRow base e size v' (n + m) (xs ++ news) → w.grownBy w' v.ownBlock → (v'.ownBlock = v.ownBlock ∨ v'.ownBlock = some w.heap.size) → (v' = .slice none 0 0 → v = .slice none 0 0) → K (a.put o.dst v') w') :
    if Region.wanted o (yielded ops a.tmps) = true then Oper.wp P o a w K Q else E := by
  have hw : Region.wanted o (yielded ops a.tmps) = true := by simp [Region.wanted, hgd]
  rw [if_pos hw]
  obtain ⟨v', w', hr, h2, h3, h4, h5⟩ := run_append_own_at (P := P) w base t o.type e i z size bytes ht hi hz hsize hby hzs hsz v n xs hown ad m c news hl hnews h1 h63 hbytes hbase
  unfold Oper.wp execOp
  simp only [ho, resolve, invoke, builtin, Sem.run_bind, Sem.run_pure, Result.andThen_ok, List.map_toArray, List.map_cons, List.map_nil, hs, hx, hr]
  exact h v' w' h2 h3 h5 (fun e => (h4.1 e).1)

/-- a row of the call's own that is not nil -/
theorem row_cells {W : World} {base : Nat} {e : TypeId} {size : Nat} {v : Value} {n : Nat} {xs : List Value} (h : W.ownsRow base e size v n xs) (hv : v ≠ .slice none 0 0) :
    ∃ g cap, v = .slice (some ⟨g, 0, none⟩) n cap ∧ base ≤ g ∧ g < W.heap.size ∧ n ≤ cap ∧ cap ≤ maxLen := by
  rcases h.2 with ⟨e, _⟩ | ⟨g, cap, cur, h1, h2, h3, h4, h5, h6, h7⟩
  · exact absurd e hv
  · exact ⟨g, cap, h1, h2, (Array.getElem?_eq_some_iff.1 h3).1, h4, h5⟩
theorem info64 : (Try.prog.info? 64).map (fun i => (i.zero, i.size, i.bytes)) = some (some (.agg #[.int .i64 0, .string ⟨#[]⟩]), 2, 24) := by kernel_rfl
/-- some of a row's cells -/
theorem news_of_cut {w : World} {g : Nat} {cur : Array Value} {t : TypeId} {fr : Nat × Nat} (hg : w.heap[g]? = some (.cells cur t fr)) (a b : Nat) : ∀ j u, ((cur.toList.drop a).take b)[j]? = some u → w.cell? ((⟨g, a, none⟩ : Addr).add j) = some u := by
  intro j u hu
  have hj : j < b := by
    rcases Nat.lt_or_ge j b with h | h
    · exact h
    · rw [List.getElem?_eq_none (by simp; omega)] at hu; cases hu
  rw [List.getElem?_take_of_lt hj, List.getElem?_drop] at hu
  rw [Addr.add_lit]
  simp only [World.cell?, hg]
  simpa using hu

theorem held_alloc {w : World} {m g : Nat} {v : Value} {o : Obj} (h : w.cell? ⟨m, 1, none⟩ = some v ∧ w.heap[g]? = some o) (x : Obj) : (w.alloc x).cell? ⟨m, 1, none⟩ = some v ∧ (w.alloc x).heap[g]? = some o :=
  ⟨by rw [World.cell?_alloc_lt _ _ _ (World.block_lt_of_cell? w _ h.1)]; exact h.1, by rw [Below.heap_alloc w x g (lt_of_heap h.2)]; exact h.2⟩
theorem held_grown {w w' : World} {m g : Nat} {v : Value} {o : Obj} {row : Option Nat} (k : w.grownBy w' row) (h : w.cell? ⟨m, 1, none⟩ = some v ∧ w.heap[g]? = some o) (hm : some m ≠ row) (hg : some g ≠ row) : w'.cell? ⟨m, 1, none⟩ = some v ∧ w'.heap[g]? = some o :=
  ⟨(k.cell_far _ (World.block_lt_of_cell? w _ h.1) hm).trans h.1, (k.block g (lt_of_heap h.2) hg).trans h.2⟩

theorem slice_to (g n cap i : Nat) (hi : i ≤ cap) (w : World) : (Instr.slice 32 (.slice (some ⟨g, 0, none⟩) n cap) none (some (.int .i64 i)) none).run Try.prog w = .ok (.slice (some ⟨g, 0, none⟩) i cap) w := by
  rw [run_slice_h _ 32 _ n cap Try.underlying32 .i64 i (by omega) (by omega)]
  have hs : (sizeOf (Try.prog.elem 32)).run Try.prog w = .ok 2 w := by kernel_rfl
  rw [hs]
  simp [Result.andThen, sliced, Addr.add]
theorem slice_from (g n cap i : Nat) (hi : i ≤ n) (w : World) : (Instr.slice 32 (.slice (some ⟨g, 0, none⟩) n cap) (some (.int .i64 i)) none none).run Try.prog w = .ok (.slice (some ⟨g, if cap = i then 0 else i * 2, none⟩) (n - i) (cap - i)) w := by
  rw [run_slice_l _ 32 _ n cap Try.underlying32 .i64 i (by omega) (by omega)]
  have hs : (sizeOf (Try.prog.elem 32)).run Try.prog w = .ok 2 w := by kernel_rfl
  rw [hs]
  by_cases h : cap = i
  · simp [Result.andThen, sliced, h]
  · simp [Result.andThen, sliced, h, Addr.add]
    exact fun e => e.symm

set_option maxRecDepth 100000 in
set_option maxHeartbeats 4000000 in
theorem without_raw (m g n cap i room : Nat) (cur : Array Value) (hi : i < n) (hn : n ≤ cap) (hn2 : n ≤ 1048576) (w : World) (hg : w.heap[g]? = some (.cells cur 64 (0, 0))) (hcur : cur.size = cap * 2)
    (h1 : ∀ u ∈ cur.toList.take (n * 2), u.oneCell' = true)
    (hm : w.heap[m]? = some (RefObj room (.slice (some ⟨g, 0, none⟩) n cap))) :
    Calls Try.prog 29 #[.pointer (some ⟨m, 0, none⟩), .int .i64 i] w fun e w' => ∃ v, e = .returned v ∧
      w'.ownsRow w.heap.size 64 2 v (i + (n - (i + 1))) (cur.toList.take (i * 2) ++ (cur.toList.drop ((i + 1) * 2)).take ((n - (i + 1)) * 2)) ∧ Below w.heap.size w w' ∧ v ≠ .slice none 0 0 := by
  obtain ⟨i0, hi0, hz0, hz1, hz2⟩ := info_parts info64
  have c1 := RefObj.c1 hm
  have lg := lt_of_heap hg
  have lm := lt_of_heap hm
  have k1 : (0 : Int) ≤ (i : Int) := Int.natCast_nonneg _
  have k2 : (i : Int) < (n : Int) := by omega
  have k3 : (n : Int) ≤ (cap : Int) := by omega
  have k4 : (n : Int) ≤ 1048576 := by omega
  have e1 := slice_to g n cap i (by omega)
  have e2 := slice_from g n cap (i + 1) (by omega)
  obtain ⟨o2, ho2⟩ : ∃ o, (if cap = i + 1 then 0 else (i + 1) * 2) = o := ⟨_, rfl⟩
  rw [ho2] at e2
  have HO2 := Lib.hid ho2
  obtain ⟨i1, hi1⟩ : ∃ i1 : Nat, i + 1 = i1 := ⟨_, rfl⟩
  have hw : IntKind.i64.wrap ((i : Int) + 1) = (i1 : Int) := by rw [← hi1]; exact IntWalk.i64_in _ (by omega)
  rw [hi1] at e2
  rw [show n - (i + 1) = n - i1 by rw [hi1], show (i + 1) * 2 = i1 * 2 by rw [hi1]]
  have HI := Lib.hid hi1
  have hcl : cur.toList.length = cap * 2 := by simpa using hcur
  have N1 := Lib.hid (show ∀ w' : World, w'.heap[g]? = some (.cells cur 64 (0, 0)) → ∀ j u, (cur.toList.take (i * 2))[j]? = some u → w'.cell? ((⟨g, 0, none⟩ : Addr).add j) = some u from
    fun w' h => by have := news_of_cut h 0 (i * 2); simpa using this)
  have N2 := Lib.hid (show ∀ w' : World, w'.heap[g]? = some (.cells cur 64 (0, 0)) → ∀ j u, ((cur.toList.drop (i1 * 2)).take ((n - i1) * 2))[j]? = some u → w'.cell? ((⟨g, o2, none⟩ : Addr).add j) = some u from
    fun w' h => by
      by_cases hc : cap = i + 1
      · have : n - i1 = 0 := by omega
        rw [this]; simp
      · rw [if_neg hc] at ho2
        rw [← ho2, show (i + 1) * 2 = i1 * 2 by omega]
        exact news_of_cut h (i1 * 2) _)
  have L1 : (cur.toList.take (i * 2)).length = i * 2 := by rw [List.length_take]; omega
  have L2 : ((cur.toList.drop (i1 * 2)).take ((n - i1) * 2)).length = (n - i1) * 2 := by rw [List.length_take, List.length_drop]; omega
  have M1 : ∀ u ∈ cur.toList.take (i * 2), u.oneCell' = true := fun u hu => h1 u ((List.take_sublist_take_left (by omega)).subset hu)
  have M2 : ∀ u ∈ (cur.toList.drop (i1 * 2)).take ((n - i1) * 2), u.oneCell' = true := fun u hu => h1 u (by
    rw [show n * 2 = i1 * 2 + (n - i1) * 2 by omega, List.take_add]
    exact List.mem_append_right _ hu)
  have HA := Lib.hid (And.intro L1 (And.intro L2 (And.intro M1 M2)))
  have O0 := Lib.hid (show ((w.alloc (.cells #[] 64)).drew).ownsRow w.heap.size 64 2 (.slice (some ⟨w.heap.size, 0, none⟩) 0 0) 0 [] from World.ownsRow_made w #[] 0 (Nat.le_refl _) (by decide) rfl)
  generalize cur.toList.take (i * 2) = X1 at *
  generalize (cur.toList.drop (i1 * 2)).take ((n - i1) * 2) = X2 at *
  have hi1n : i1 ≤ n := by omega
  have hx1 : w.heap.size ≠ m := by omega
  have hx2 : w.heap.size ≠ g := by omega
  clear ho2 hi1 hcl L1 L2 M1 M2 h1
  go_enter Try.func29, Try.ntmps29
  go_wp2_with fail
  go_region_held3 (fun w' => w'.cell? ⟨m, 1, none⟩ = some (.slice (some ⟨g, 0, none⟩) n cap) ∧ w'.heap[g]? = some (.cells cur 64 (0, 0)))
    (first
      | exact ⟨c1, hg⟩
      | (go_split_ands; exact held_alloc ⟨by assumption, by assumption⟩ _)
      | (go_split_ands; exact held_grown hgrow1 ⟨by assumption, by assumption⟩ (by simp [Value.ownBlock]; omega) (by simp [Value.ownBlock]; omega))
      | (go_split_ands; exact held_grown hgrow2 ⟨by assumption, by assumption⟩ (fun e => by rcases hat1 with h | h <;> rw [← e] at h <;> simp [Value.ownBlock] at h <;> omega) (fun e => by rcases hat1 with h | h <;> rw [← e] at h <;> simp [Value.ownBlock] at h <;> omega))
      | go_keep)
    (first
      | (refine step_append_own _ (by rfl) (.tmp 5) (.tmp 11) _ (by rfl) w.heap.size 64 i0 _ 2 24 Try.underlying32 hi0 hz0 hz1 hz2 rfl (by omega) _ 0 [] (by rfl) O0.out ⟨g, 0, none⟩ i cap X1 (by rfl) HA.out.1 (N1.out _ (by go_split_ands; assumption)) HA.out.2.2.1 (by unfold maxLen; omega) (by omega) (by simp) ?_; intro v1 w1 hown1 hgrow1 hat1 hnn1; have HN1 := Lib.hid hnn1; clear hnn1)
      | (refine step_append_own _ (by rfl) (.tmp 12) (.tmp 19) _ (by rfl) w.heap.size 64 i0 _ 2 24 Try.underlying32 hi0 hz0 hz1 hz2 rfl (by omega) _ (0 + i) ([] ++ X1) (by rfl) hown1 ⟨g, o2, none⟩ (n - i1) (cap - i1) X2 (by rfl) HA.out.2.1 (N2.out _ (by go_split_ands; assumption)) HA.out.2.2.2 (by unfold maxLen; omega) (by omega) (Nat.le_trans (by simp) hgrow1.size) ?_; intro v2 w2 hown2 hgrow2 hat2 hnn2; have HN2 := Lib.hid hnn2; clear hnn2))
  go_wp2
  go_ret
  refine ⟨v2, rfl, by simpa using hown2, ?_, fun e => by have := HN1.out (HN2.out e); simp at this⟩
  exact ((((Below.refl _ w).alloc (Nat.le_refl _) _).drew).grown hgrow1 (by simp) (fun j e => by simp [Value.ownBlock] at e; omega)).grown hgrow2 (Nat.le_trans (by simp) hgrow1.size) (fun j e => (hown1.lt j e).1)

theorem eraseIdx_cells (L : List (Int × ByteArray)) (i : Nat) (cur : List Value) (h : cur.take (L.length * 2) = thingCells L) (hi : i < L.length) :
    cur.take (i * 2) ++ (cur.drop ((i + 1) * 2)).take ((L.length - (i + 1)) * 2) = thingCells (L.eraseIdx i) := by
  rw [List.eraseIdx_eq_take_drop_succ, thingCells_append, thingCells_take, thingCells_drop, ← h, List.take_take, Nat.min_eq_left (by omega), List.drop_take]
  congr 2
  omega

section
variable {w w' : World} {B m room : Nat} {G : Nat → Prop} {v : Value} {L : List (Int × ByteArray)}
theorem without_any (h : RefAt B G m room v L w) (hL : L.length ≤ 1048576) {i : Nat} (hi : i < L.length) :
    Calls Try.prog 29 #[.pointer (some ⟨m, 0, none⟩), .int .i64 i] w fun e w' => ∃ g cap, e = .returned (.slice (some ⟨g, 0, none⟩) (L.eraseIdx i).length cap) ∧
      w'.ownsRow w.heap.size 64 2 (.slice (some ⟨g, 0, none⟩) (L.eraseIdx i).length cap) (L.eraseIdx i).length (thingCells (L.eraseIdx i)) ∧ Below w.heap.size w w' := by
  obtain ⟨g, cap, hv, h1, h2, h3, ⟨cur, hc, hx, hs⟩, -, -⟩ := h.thing hi
  subst hv
  refine (without_raw m g L.length cap i room cur hi h1 hL w hc hs (fun u hu => thingCells_one L u (by rw [← hx]; exact hu)) h.obj).mono ?_
  rintro e w' ⟨v, rfl, hrow, hB, hnn⟩
  rw [eraseIdx_cells L i cur.toList hx hi] at hrow
  rw [show i + (L.length - (i + 1)) = (L.eraseIdx i).length by rw [List.length_eraseIdx_of_lt hi]; omega] at hrow
  obtain ⟨g2, cap2, rfl, _⟩ := row_cells hrow hnn
  exact ⟨g2, cap2, rfl, hrow, hB⟩
end
end Go.Proofs.Ytipnbggbejkhkaa
