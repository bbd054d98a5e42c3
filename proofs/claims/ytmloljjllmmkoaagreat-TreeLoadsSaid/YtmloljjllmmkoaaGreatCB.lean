/-
  CacF / CacG / CacH / CacI / CacJ.
-/
import Derived.Test.YtmloljjllmmkoaaGreatCA
import Derived.Deep.AppendLies
import Derived.Deep.RegionHeld3
import Derived.Laws.OwnMore
import Derived.OwnWalk
import Derived.Maps.AppendAt
import Derived.Laws.AppendOwnNone
import Derived.Deep.RegionLaw
namespace Go.Proofs.YtmloljjllmmkoaaGreat.CI
open Go.RowKit Go

/-- things, in cells -/
def thingCells : List (Int × ByteArray) → List Value
  | [] => []
  | x :: L => .int .i64 x.1 :: .string x.2 :: thingCells L
theorem thingCells_len : ∀ L, (thingCells L).length = L.length * 2
  | [] => rfl
  | x :: L => by simp only [thingCells, List.length_cons, thingCells_len L]; omega
theorem thingCells_append : ∀ A B, thingCells (A ++ B) = thingCells A ++ thingCells B
  | [], B => rfl
  | x :: A, B => by simp only [List.cons_append, thingCells, thingCells_append A B]
theorem thingCells_take : ∀ L i, thingCells (L.take i) = (thingCells L).take (i * 2)
  | L, 0 => by simp [thingCells]
  | [], i + 1 => by simp [thingCells]
  | x :: L, i + 1 => by rw [show (i + 1) * 2 = i * 2 + 1 + 1 by omega]; simp only [List.take_succ_cons, thingCells, thingCells_take L i]
theorem thingCells_drop : ∀ L i, thingCells (L.drop i) = (thingCells L).drop (i * 2)
  | L, 0 => by simp
  | [], i + 1 => by simp [thingCells]
  | x :: L, i + 1 => by rw [show (i + 1) * 2 = i * 2 + 1 + 1 by omega]; simp only [List.drop_succ_cons, thingCells, thingCells_drop L i]
theorem thingCells_at : ∀ (L : List (Int × ByteArray)) (i : Nat) (h : i < L.length), (thingCells L)[i * 2]? = some (.int .i64 L[i].1) ∧ (thingCells L)[i * 2 + 1]? = some (.string L[i].2)
  | x :: L, 0, _ => ⟨rfl, rfl⟩
  | x :: L, i + 1, h => by
    have := thingCells_at L i (by simpa using h)
    rw [show (i + 1) * 2 = i * 2 + 1 + 1 by omega]
    simpa [thingCells] using this
theorem thingCells_one : ∀ (L : List (Int × ByteArray)), ∀ u ∈ thingCells L, u.oneCell' = true
  | x :: L, u, h => by
    simp only [thingCells, List.mem_cons] at h
    rcases h with rfl | rfl | h
    · rfl
    · rfl
    · exact thingCells_one L u h

/-- the reference, in memory -/
def RefObj (room : Nat) (v : Value) : Obj := .cells #[.int .i64 room, v] 117 (0, 0)
section
variable {w : World} {b room : Nat} {v : Value}
theorem RefObj.c0 (h : w.heap[b]? = some (RefObj room v)) : w.cell? ⟨b, 0, none⟩ = some (.int .i64 room) := by simp [World.cell?, h, RefObj]
theorem RefObj.c1 (h : w.heap[b]? = some (RefObj room v)) : w.cell? ⟨b, 1, none⟩ = some v := by simp [World.cell?, h, RefObj]
theorem RefObj.fr (h : w.heap[b]? = some (RefObj room v)) (i : Nat) : w.frozen? ⟨b, i, none⟩ = false := by simp [World.frozen?, h, RefObj]
theorem RefObj.set1 (h : w.heap[b]? = some (RefObj room v)) (u : Value) : (w.setCell ⟨b, 1, none⟩ u).heap[b]? = some (RefObj room u) := by rw [heap_set h]; rfl
end

/-- the reference with its list; G: the blocks that are its own -/
structure RefAt (B : Nat) (G : Nat → Prop) (m room : Nat) (v : Value) (L : List (Int × ByteArray)) (w : World) : Prop where
  obj : w.heap[m]? = some (RefObj room v)
  row : w.ownsRow B 119 2 v L.length (thingCells L)
  own : ∀ k, G k ↔ k = m ∨ v.ownBlock = some k
  apart : v.ownBlock ≠ some m
  low : B ≤ m

section
variable {w w' : World} {B m room : Nat} {G : Nat → Prop} {v : Value} {L : List (Int × ByteArray)}
theorem ownsRow_of_block {w w' : World} {base : Nat} {e : TypeId} {size : Nat} {v : Value} {n : Nat} {xs : List Value} (h : w.ownsRow base e size v n xs) (hk : ∀ k, v.ownBlock = some k → w'.heap[k]? = w.heap[k]?) : w'.ownsRow base e size v n xs := by
  refine ⟨h.1, ?_⟩
  rcases h.2 with h1 | ⟨g, cap, cur, rfl, h2, h3, h4⟩
  · exact Or.inl h1
  · exact Or.inr ⟨g, cap, cur, rfl, h2, (hk g rfl).trans h3, h4⟩
theorem RefAt.lt (h : RefAt B G m room v L w) {k : Nat} (hk : G k) : k < w.heap.size := by
  rcases (h.own k).1 hk with rfl | hk
  · exact lt_of_heap h.obj
  · exact (h.row.lt k hk).2
theorem RefAt.lowG (h : RefAt B G m room v L w) {k : Nat} (hk : G k) : B ≤ k := by
  rcases (h.own k).1 hk with rfl | hk
  · exact h.low
  · exact (h.row.lt k hk).1
theorem RefAt.stay {F : Nat → Prop} (h : RefAt B G m room v L w) (k : Stir F w w') (hn : ∀ b, G b → ¬ F b) : RefAt B G m room v L w' :=
  ⟨k.keep h.obj (hn m ((h.own m).2 (Or.inl rfl))), ownsRow_of_block h.row (fun b hb => k.block b (h.row.lt b hb).2 (hn b ((h.own b).2 (Or.inr hb)))), h.own, h.apart, h.low⟩
theorem RefAt.later (h : RefAt B G m room v L w) (k : Below w.heap.size w w') : RefAt B G m room v L w' :=
  h.stay (Stir.of_below (F := fun _ => False) k) (fun _ _ h => h)
theorem row_shape {w : World} {base : Nat} {e : TypeId} {size : Nat} {v : Value} {n : Nat} {xs : List Value} (h : w.ownsRow base e size v n xs) : ∃ a cap, v = .slice a n cap := by
  rcases h.2 with ⟨rfl, h0⟩ | ⟨g, cap, cur, rfl, _⟩
  · exact ⟨none, 0, by rw [h0]⟩
  · exact ⟨_, _, rfl⟩
/-- a thing's two cells -/
theorem RefAt.thing (h : RefAt B G m room v L w) {i : Nat} (hi : i < L.length) : ∃ g cap, v = .slice (some ⟨g, 0, none⟩) L.length cap ∧ L.length ≤ cap ∧ cap ≤ maxLen ∧ g < w.heap.size ∧ (∃ cur, w.heap[g]? = some (.cells cur 119 (0, 0)) ∧ cur.toList.take (L.length * 2) = thingCells L ∧ cur.size = cap * 2) ∧
    w.cell? ⟨g, i * 2, none⟩ = some (.int .i64 L[i].1) ∧ w.cell? ⟨g, i * 2 + 1, none⟩ = some (.string L[i].2) := by
  rcases h.row.2 with ⟨_, h0⟩ | ⟨g, cap, cur, rfl, h2, h3, h4, h5, h6, h7⟩
  · omega
  · obtain ⟨t1, t2⟩ := thingCells_at L i hi
    refine ⟨g, cap, rfl, h4, h5, lt_of_heap h3, ⟨cur, h3, h7, h6⟩, ?_, ?_⟩
    · rw [h.row.cellAt (i * 2) (by omega), t1]
    · rw [h.row.cellAt (i * 2 + 1) (by omega), t2]

/-- where a key stands -/
def atL (L : List (Int × ByteArray)) (k : Int) : Option Nat := L.findIdx? fun x => x.1 = k
def atV (L : List (Int × ByteArray)) (k : Int) : Value := match atL L k with | some i => .int .i64 (i : Nat) | none => .int .i64 (-1)

set_option maxRecDepth 100000 in
set_option maxHeartbeats 1000000 in
theorem at_any (h : RefAt B G m room v L w) (hL : L.length ≤ 1048576) (k : Int) :
    Calls Tryz.prog 61 #[.pointer (some ⟨m, 0, none⟩), .int .i64 k] w fun e w' => e = .returned (atV L k) ∧ w = w' := by
  have H := Lib.hid h
  have c1 := RefObj.c1 h.obj
  obtain ⟨a, cap, hv⟩ : ∃ a cap, v = .slice a L.length cap := by
    rcases h.row.2 with ⟨rfl, h0⟩ | ⟨g, cap, cur, rfl, _⟩
    · exact ⟨none, 0, by rw [h0]⟩
    · exact ⟨_, _, rfl⟩
  rw [hv] at c1
  have HV := Lib.hid hv
  clear hv h
  go_enter Tryz.func61, Tryz.ntmps61
  go_wp2
  go_loop [5] (fun i => ∃ j : Nat, j ≤ L.length ∧ i = .int .i64 j ∧ ∀ x ∈ L.take j, x.1 ≠ k) (fun i => L.length - (intOf i).toNat)
  case atStart => exact ⟨0, Nat.zero_le _, rfl, by simp⟩
  case round =>
    obtain ⟨j, hj, rfl, hno⟩ := hrel
    have HN := Lib.hid hno
    clear hno
    by_cases hlt : j < L.length
    · obtain ⟨g, cap', e, h1, h2, h3, -, h4, h5⟩ := H.out.thing hlt
      rw [HV.out] at e
      obtain ⟨rfl, -, rfl⟩ : a = some ⟨g, 0, none⟩ ∧ True ∧ cap = cap' := by simpa using e
      clear e h5
      have hji : (j : Int) < (L.length : Int) := by omega
      by_cases hk : L[j].1 = k
      · have hE := Lib.hid (show atL L k = some j by
          unfold atL
          rw [List.findIdx?_eq_some_iff_getElem]
          refine ⟨hlt, by simpa using hk, fun i hi => ?_⟩
          have := HN.out L[i] (List.mem_take_iff_getElem.2 ⟨i, by omega, rfl⟩)
          simpa using this)
        generalize L[j].1 = z at *
        have hk1 : (z == k) = true := by simp [hk]
        have HK := Lib.hid hk
        clear hk
        go_wp2
        go_ret
        exact ⟨by unfold atV; rw [hE.out]; rfl, rfl⟩
      · have hE := Lib.hid (show ∀ x ∈ L.take (j + 1), x.1 ≠ k by
          intro x hx
          rw [List.take_succ_eq_append_getElem hlt] at hx
          rcases List.mem_append.1 hx with hx | hx
          · exact HN.out x hx
          · rw [List.mem_singleton.1 hx]; exact hk)
        generalize L[j].1 = z at *
        go_wp2
        go_round
        case rel => exact ⟨j + 1, hlt, by go_num, hE.out⟩
        case measure => simp [intOf]; omega
    · have hE := Lib.hid (show atL L k = none by
        unfold atL
        rw [List.findIdx?_eq_none_iff]
        intro x hx
        have := HN.out x (by rw [List.take_of_length_le (by omega)]; exact hx)
        simpa using this)
      go_wp2
      go_ret
      exact ⟨by unfold atV; rw [hE.out]; rfl, rfl⟩
end
end Go.Proofs.YtmloljjllmmkoaaGreat.CI

namespace Go.Proofs.YtmloljjllmmkoaaGreat.CI
open Go.RowKit Go

/-- an append onto a slice of the call's own, at a step of a region that draws -/
theorem step_append_own {P : Program} (w : World) {ops : Array Oper} {o : Oper} {a : Act} {K : Act → World → Prop} {Q : Exit → Act → World → Prop} {E : Prop} (hgd : o.guard = none) (s x : Operand) (t : TypeId)
    (ho : o.op = .call { callee := .builtin .append, args := #[s, x], argTypes := #[t, t] })
    (base : Nat) (e : TypeId) (i : TypeInfo) (z : Value) (size bytes : Nat) (ht : P.underlying t = some (.slice e)) (hi : P.info? e = some i) (hz : i.zero = some z)
    (hsize : i.size = size) (hby : i.bytes = bytes) (hzs : z.cells.size = size) (hsz : 0 < size)
    (v : Value) (n : Nat) (xs : List Value) (hs : a.eval s = v) (hown : w.ownsRow base e size v n xs)
    (ad : Addr) (m c : Nat) (news : List Value) (hx : a.eval x = .slice (some ad) m c) (hl : news.length = m * size) (hnews : ∀ j u, news[j]? = some u → w.cell? (ad.add j) = some u) (h1 : ∀ u ∈ news, u.oneCell' = true)
    (h63 : n + m ≤ maxLen) (hbytes : (n + m) * bytes ≤ 140737488355328) (hbase : base ≤ w.heap.size)
    (h : ∀ v' w', w'.ownsRow base e size v' (n + m) (xs ++ news) → w.grownBy w' v.ownBlock → (v'.ownBlock = v.ownBlock ∨ v'.ownBlock = some w.heap.size) → (v' = .slice none 0 0 → v = .slice none 0 0) → K (a.put o.dst v') w') :
    if Region.wanted o (yielded ops a.tmps) = true then Oper.wp P o a w K Q else E := by
  have hw : Region.wanted o (yielded ops a.tmps) = true := by simp [Region.wanted, hgd]
  rw [if_pos hw]
  obtain ⟨v', w', hr, h2, h3, h4, h5⟩ := run_append_own_at (P := P) w base t o.type e i z size bytes ht hi hz hsize hby hzs hsz v n xs hown ad m c news hl hnews h1 h63 hbytes hbase
  unfold Oper.wp execOp
  simp only [ho, resolve, invoke, builtin, Sem.run_bind, Sem.run_pure, Result.andThen_ok, List.map_toArray, List.map_cons, List.map_nil, hs, hx, hr]
  exact h v' w' h2 h3 h5 (fun e => (h4.1 e).1)

/-- a row of the call's own that is not nil -/
theorem row_cells {W : World} {base : Nat} {e : TypeId} {size : Nat} {v : Value} {n : Nat} {xs : List Value} (h : W.ownsRow base e size v n xs) (hv : v ≠ .slice none 0 0) :
    ∃ g cap, v = .slice (some ⟨g, 0, none⟩) n cap ∧ base ≤ g ∧ g < W.heap.size ∧ n ≤ cap ∧ cap ≤ maxLen := by
  rcases h.2 with ⟨e, _⟩ | ⟨g, cap, cur, h1, h2, h3, h4, h5, h6, h7⟩
  · exact absurd e hv
  · exact ⟨g, cap, h1, h2, (Array.getElem?_eq_some_iff.1 h3).1, h4, h5⟩
theorem info64 : (Tryz.prog.info? 119).map (fun i => (i.zero, i.size, i.bytes)) = some (some (.agg #[.int .i64 0, .string ⟨#[]⟩]), 2, 24) := by kernel_rfl
/-- some of a row's cells -/
theorem news_of_cut {w : World} {g : Nat} {cur : Array Value} {t : TypeId} {fr : Nat × Nat} (hg : w.heap[g]? = some (.cells cur t fr)) (a b : Nat) : ∀ j u, ((cur.toList.drop a).take b)[j]? = some u → w.cell? ((⟨g, a, none⟩ : Addr).add j) = some u := by
  intro j u hu
  have hj : j < b := by
    rcases Nat.lt_or_ge j b with h | h
    · exact h
    · rw [List.getElem?_eq_none (by simp; omega)] at hu; cases hu
  rw [List.getElem?_take_of_lt hj, List.getElem?_drop] at hu
  rw [Addr.add_lit]
  simp only [World.cell?, hg]
  simpa using hu

theorem held_alloc {w : World} {m g : Nat} {v : Value} {o : Obj} (h : w.cell? ⟨m, 1, none⟩ = some v ∧ w.heap[g]? = some o) (x : Obj) : (w.alloc x).cell? ⟨m, 1, none⟩ = some v ∧ (w.alloc x).heap[g]? = some o :=
  ⟨by rw [World.cell?_alloc_lt _ _ _ (World.block_lt_of_cell? w _ h.1)]; exact h.1, by rw [Below.heap_alloc w x g (lt_of_heap h.2)]; exact h.2⟩
theorem held_grown {w w' : World} {m g : Nat} {v : Value} {o : Obj} {row : Option Nat} (k : w.grownBy w' row) (h : w.cell? ⟨m, 1, none⟩ = some v ∧ w.heap[g]? = some o) (hm : some m ≠ row) (hg : some g ≠ row) : w'.cell? ⟨m, 1, none⟩ = some v ∧ w'.heap[g]? = some o :=
  ⟨(k.cell_far _ (World.block_lt_of_cell? w _ h.1) hm).trans h.1, (k.block g (lt_of_heap h.2) hg).trans h.2⟩

set_option maxRecDepth 100000 in
theorem slice_to (g n cap i : Nat) (hi : i ≤ cap) (w : World) : (Instr.slice 114 (.slice (some ⟨g, 0, none⟩) n cap) none (some (.int .i64 i)) none).run Tryz.prog w = .ok (.slice (some ⟨g, 0, none⟩) i cap) w := by
  rw [run_slice_h _ 114 _ n cap Tryz.underlying114 .i64 i (by omega) (by omega)]
  have hs : (sizeOf (Tryz.prog.elem 114)).run Tryz.prog w = .ok 2 w := by kernel_rfl
  rw [hs]
  simp [Result.andThen, sliced, Addr.add]
set_option maxRecDepth 100000 in
theorem slice_from (g n cap i : Nat) (hi : i ≤ n) (w : World) : (Instr.slice 114 (.slice (some ⟨g, 0, none⟩) n cap) (some (.int .i64 i)) none none).run Tryz.prog w = .ok (.slice (some ⟨g, if cap = i then 0 else i * 2, none⟩) (n - i) (cap - i)) w := by
  rw [run_slice_l _ 114 _ n cap Tryz.underlying114 .i64 i (by omega) (by omega)]
  have hs : (sizeOf (Tryz.prog.elem 114)).run Tryz.prog w = .ok 2 w := by kernel_rfl
  rw [hs]
  by_cases h : cap = i
  · simp [Result.andThen, sliced, h]
  · simp [Result.andThen, sliced, h, Addr.add]
    exact fun e => e.symm

set_option maxRecDepth 100000 in
set_option maxHeartbeats 4000000 in
theorem without_raw (m g n cap i room : Nat) (cur : Array Value) (hi : i < n) (hn : n ≤ cap) (hn2 : n ≤ 1048576) (w : World) (hg : w.heap[g]? = some (.cells cur 119 (0, 0))) (hcur : cur.size = cap * 2)
    (h1 : ∀ u ∈ cur.toList.take (n * 2), u.oneCell' = true)
    (hm : w.heap[m]? = some (RefObj room (.slice (some ⟨g, 0, none⟩) n cap))) :
    Calls Tryz.prog 62 #[.pointer (some ⟨m, 0, none⟩), .int .i64 i] w fun e w' => ∃ v, e = .returned v ∧
      w'.ownsRow w.heap.size 119 2 v (i + (n - (i + 1))) (cur.toList.take (i * 2) ++ (cur.toList.drop ((i + 1) * 2)).take ((n - (i + 1)) * 2)) ∧ Below w.heap.size w w' ∧ v ≠ .slice none 0 0 := by
  obtain ⟨i0, hi0, hz0, hz1, hz2⟩ := info_parts info64
  have c1 := RefObj.c1 hm
  have lg := lt_of_heap hg
  have lm := lt_of_heap hm
  have k1 : (0 : Int) ≤ (i : Int) := Int.natCast_nonneg _
  have k2 : (i : Int) < (n : Int) := by omega
  have k3 : (n : Int) ≤ (cap : Int) := by omega
  have k4 : (n : Int) ≤ 1048576 := by omega
  have e1 := slice_to g n cap i (by omega)
  have e2 := slice_from g n cap (i + 1) (by omega)
  obtain ⟨o2, ho2⟩ : ∃ o, (if cap = i + 1 then 0 else (i + 1) * 2) = o := ⟨_, rfl⟩
  rw [ho2] at e2
  have HO2 := Lib.hid ho2
  obtain ⟨i1, hi1⟩ : ∃ i1 : Nat, i + 1 = i1 := ⟨_, rfl⟩
  have hw : IntKind.i64.wrap ((i : Int) + 1) = (i1 : Int) := by rw [← hi1]; exact IntWalk.i64_in _ (by omega)
  rw [hi1] at e2
  rw [show n - (i + 1) = n - i1 by rw [hi1], show (i + 1) * 2 = i1 * 2 by rw [hi1]]
  have HI := Lib.hid hi1
  have hcl : cur.toList.length = cap * 2 := by simpa using hcur
  have N1 := Lib.hid (show ∀ w' : World, w'.heap[g]? = some (.cells cur 119 (0, 0)) → ∀ j u, (cur.toList.take (i * 2))[j]? = some u → w'.cell? ((⟨g, 0, none⟩ : Addr).add j) = some u from
    fun w' h => by have := news_of_cut h 0 (i * 2); simpa using this)
  have N2 := Lib.hid (show ∀ w' : World, w'.heap[g]? = some (.cells cur 119 (0, 0)) → ∀ j u, ((cur.toList.drop (i1 * 2)).take ((n - i1) * 2))[j]? = some u → w'.cell? ((⟨g, o2, none⟩ : Addr).add j) = some u from
    fun w' h => by
      by_cases hc : cap = i + 1
      · have : n - i1 = 0 := by omega
        rw [this]; simp
      · rw [if_neg hc] at ho2
        rw [← ho2, show (i + 1) * 2 = i1 * 2 by omega]
        exact news_of_cut h (i1 * 2) _)
  have L1 : (cur.toList.take (i * 2)).length = i * 2 := by rw [List.length_take]; omega
  have L2 : ((cur.toList.drop (i1 * 2)).take ((n - i1) * 2)).length = (n - i1) * 2 := by rw [List.length_take, List.length_drop]; omega
  have M1 : ∀ u ∈ cur.toList.take (i * 2), u.oneCell' = true := fun u hu => h1 u ((List.take_sublist_take_left (by omega)).subset hu)
  have M2 : ∀ u ∈ (cur.toList.drop (i1 * 2)).take ((n - i1) * 2), u.oneCell' = true := fun u hu => h1 u (by
    rw [show n * 2 = i1 * 2 + (n - i1) * 2 by omega, List.take_add]
    exact List.mem_append_right _ hu)
  have HA := Lib.hid (And.intro L1 (And.intro L2 (And.intro M1 M2)))
  have O0 := Lib.hid (show ((w.alloc (.cells #[] 119)).drew).ownsRow w.heap.size 119 2 (.slice (some ⟨w.heap.size, 0, none⟩) 0 0) 0 [] from World.ownsRow_made w #[] 0 (Nat.le_refl _) (by decide) rfl)
  generalize cur.toList.take (i * 2) = X1 at *
  generalize (cur.toList.drop (i1 * 2)).take ((n - i1) * 2) = X2 at *
  have hi1n : i1 ≤ n := by omega
  have hx1 : w.heap.size ≠ m := by omega
  have hx2 : w.heap.size ≠ g := by omega
  clear ho2 hi1 hcl L1 L2 M1 M2 h1
  go_enter Tryz.func62, Tryz.ntmps62
  go_wp2_with fail
  go_region_held3 (fun w' => w'.cell? ⟨m, 1, none⟩ = some (.slice (some ⟨g, 0, none⟩) n cap) ∧ w'.heap[g]? = some (.cells cur 119 (0, 0)))
    (first
      | exact ⟨c1, hg⟩
      | (go_split_ands; exact held_alloc ⟨by assumption, by assumption⟩ _)
      | (go_split_ands; exact held_grown hgrow1 ⟨by assumption, by assumption⟩ (by simp [Value.ownBlock]; omega) (by simp [Value.ownBlock]; omega))
      | (go_split_ands; exact held_grown hgrow2 ⟨by assumption, by assumption⟩ (fun e => by rcases hat1 with h | h <;> rw [← e] at h <;> simp [Value.ownBlock] at h <;> omega) (fun e => by rcases hat1 with h | h <;> rw [← e] at h <;> simp [Value.ownBlock] at h <;> omega))
      | go_keep)
    (first
      | (refine step_append_own _ (by rfl) (.tmp 5) (.tmp 11) _ (by rfl) w.heap.size 119 i0 _ 2 24 Tryz.underlying114 hi0 hz0 hz1 hz2 rfl (by omega) _ 0 [] (by rfl) O0.out ⟨g, 0, none⟩ i cap X1 (by rfl) HA.out.1 (N1.out _ (by go_split_ands; assumption)) HA.out.2.2.1 (by unfold maxLen; omega) (by omega) (by simp) ?_; intro v1 w1 hown1 hgrow1 hat1 hnn1; have HN1 := Lib.hid hnn1; clear hnn1)
      | (refine step_append_own _ (by rfl) (.tmp 12) (.tmp 19) _ (by rfl) w.heap.size 119 i0 _ 2 24 Tryz.underlying114 hi0 hz0 hz1 hz2 rfl (by omega) _ (0 + i) ([] ++ X1) (by rfl) hown1 ⟨g, o2, none⟩ (n - i1) (cap - i1) X2 (by rfl) HA.out.2.1 (N2.out _ (by go_split_ands; assumption)) HA.out.2.2.2 (by unfold maxLen; omega) (by omega) (Nat.le_trans (by simp) hgrow1.size) ?_; intro v2 w2 hown2 hgrow2 hat2 hnn2; have HN2 := Lib.hid hnn2; clear hnn2))
  go_wp2
  go_ret
  refine ⟨v2, rfl, by simpa using hown2, ?_, fun e => by have := HN1.out (HN2.out e); simp at this⟩
  exact ((((Below.refl _ w).alloc (Nat.le_refl _) _).drew).grown hgrow1 (by simp) (fun j e => by simp [Value.ownBlock] at e; omega)).grown hgrow2 (Nat.le_trans (by simp) hgrow1.size) (fun j e => (hown1.lt j e).1)

theorem eraseIdx_cells (L : List (Int × ByteArray)) (i : Nat) (cur : List Value) (h : cur.take (L.length * 2) = thingCells L) (hi : i < L.length) :
    cur.take (i * 2) ++ (cur.drop ((i + 1) * 2)).take ((L.length - (i + 1)) * 2) = thingCells (L.eraseIdx i) := by
  rw [List.eraseIdx_eq_take_drop_succ, thingCells_append, thingCells_take, thingCells_drop, ← h, List.take_take, Nat.min_eq_left (by omega), List.drop_take]
  congr 2
  omega

section
variable {w w' : World} {B m room : Nat} {G : Nat → Prop} {v : Value} {L : List (Int × ByteArray)}
theorem without_any (h : RefAt B G m room v L w) (hL : L.length ≤ 1048576) {i : Nat} (hi : i < L.length) :
    Calls Tryz.prog 62 #[.pointer (some ⟨m, 0, none⟩), .int .i64 i] w fun e w' => ∃ g cap, e = .returned (.slice (some ⟨g, 0, none⟩) (L.eraseIdx i).length cap) ∧
      w'.ownsRow w.heap.size 119 2 (.slice (some ⟨g, 0, none⟩) (L.eraseIdx i).length cap) (L.eraseIdx i).length (thingCells (L.eraseIdx i)) ∧ Below w.heap.size w w' := by
  obtain ⟨g, cap, hv, h1, h2, h3, ⟨cur, hc, hx, hs⟩, -, -⟩ := h.thing hi
  subst hv
  refine (without_raw m g L.length cap i room cur hi h1 hL w hc hs (fun u hu => thingCells_one L u (by rw [← hx]; exact hu)) h.obj).mono ?_
  rintro e w' ⟨v, rfl, hrow, hB, hnn⟩
  rw [eraseIdx_cells L i cur.toList hx hi] at hrow
  rw [show i + (L.length - (i + 1)) = (L.eraseIdx i).length by rw [List.length_eraseIdx_of_lt hi]; omega] at hrow
  obtain ⟨g2, cap2, rfl, _⟩ := row_cells hrow hnn
  exact ⟨g2, cap2, rfl, hrow, hB⟩
end
end Go.Proofs.YtmloljjllmmkoaaGreat.CI

namespace Go.Proofs.YtmloljjllmmkoaaGreat.CI
open Go.RowKit Go

theorem at_some {L : List (Int × ByteArray)} {k : Int} {i : Nat} (h : atL L k = some i) : ∃ hi : i < L.length, L[i].1 = k := by
  unfold atL at h
  obtain ⟨hi, h1, _⟩ := List.findIdx?_eq_some_iff_getElem.1 h
  exact ⟨hi, by simpa using h1⟩
theorem drop_at_none {L : List (Int × ByteArray)} {k : Int} (h : atL L k = none) : dropL L k = L ∧ getL L k = none := by
  unfold atL at h
  rw [List.findIdx?_eq_none_iff] at h
  refine ⟨List.filter_eq_self.2 fun x hx => by have := h x hx; simpa using this, ?_⟩
  unfold getL
  rw [List.find?_eq_none.2 (fun x hx => by have := h x hx; simpa using this)]
  rfl
theorem drop_at_some : ∀ {L : List (Int × ByteArray)} {k : Int} {i : Nat}, (keysL L).Nodup → atL L k = some i → dropL L k = L.eraseIdx i
  | [], k, i, _, h => by simp [atL] at h
  | x :: L, k, i, hn, h => by
    unfold keysL at hn
    rw [List.map_cons, List.nodup_cons] at hn
    unfold atL at h
    rw [List.findIdx?_cons] at h
    by_cases e : x.1 = k
    · rw [if_pos (by simpa using e)] at h
      obtain rfl : 0 = i := Option.some.inj h
      unfold dropL
      rw [List.filter_cons_of_neg (by simpa using e), List.eraseIdx_zero, List.tail_cons]
      exact List.filter_eq_self.2 fun y hy => by
        have : y.1 ≠ k := fun e2 => hn.1 (List.mem_map.2 ⟨y, hy, e2.trans e.symm⟩)
        simpa using this
    · rw [if_neg (by simpa using e)] at h
      obtain ⟨j, hj, rfl⟩ := Option.map_eq_some_iff.1 h
      unfold dropL
      rw [List.filter_cons_of_pos (by simpa using e), List.eraseIdx_cons_succ]
      congr 1
      exact drop_at_some hn.2 hj
theorem get_at_some : ∀ {L : List (Int × ByteArray)} {k : Int} {i : Nat} (h : atL L k = some i), getL L k = some (L[i]'(at_some h).1).2
  | [], k, i, h => by simp [atL] at h
  | x :: L, k, i, h => by
    have h' := h
    unfold atL at h
    rw [List.findIdx?_cons] at h
    by_cases e : x.1 = k
    · rw [if_pos (by simpa using e)] at h
      obtain rfl : 0 = i := Option.some.inj h
      unfold getL
      rw [List.find?_cons_of_pos (by simpa using e)]
      rfl
    · rw [if_neg (by simpa using e)] at h
      obtain ⟨j, hj, rfl⟩ := Option.map_eq_some_iff.1 h
      unfold getL
      rw [List.find?_cons_of_neg (by simpa using e)]
      exact get_at_some hj

/-- what a call of the reference leaves -/
def RefLeft (B : Nat) (G : Nat → Prop) (m room : Nat) (L : List (Int × ByteArray)) (w w' : World) : Prop :=
  ∃ v G', RefAt B G' m room v L w' ∧ Stir G w w' ∧ ∀ k, G' k → G k ∨ w.heap.size ≤ k

section
variable {w w' : World} {B m room : Nat} {G : Nat → Prop} {v : Value} {L : List (Int × ByteArray)}
/-- the list's place turned -/
theorem RefAt.stored_at {w1 : World} (h : RefAt B G m room v L w) (hB : Below w.heap.size w w1) {L' : List (Int × ByteArray)} {v' : Value} (hr : w1.ownsRow w.heap.size 119 2 v' L'.length (thingCells L')) :
    RefAt B (fun k => k = m ∨ v'.ownBlock = some k) m room v' L' (w1.setCell ⟨m, 1, none⟩ v') ∧ Stir G w (w1.setCell ⟨m, 1, none⟩ v') ∧ ∀ k, k = m ∨ v'.ownBlock = some k → G k ∨ w.heap.size ≤ k := by
  have hm := lt_of_heap h.obj
  have hob := keeps_of hB h.obj
  have hne : v'.ownBlock ≠ some m := fun e => by have := (hr.lt m e).1; omega
  refine ⟨⟨RefObj.set1 hob v', ?_, fun _ => Iff.rfl, hne, h.low⟩, (Stir.of_below hB).set (Or.inl ((h.own m).2 (Or.inl rfl))) _, fun k hk => ?_⟩
  · have := ownsRow_of_block (w' := w1.setCell ⟨m, 1, none⟩ v') hr (fun k hk => Below.heap_setCell _ _ _ _ (by rintro rfl; exact hne hk))
    refine ⟨this.1, ?_⟩
    have hBm : B ≤ w.heap.size := Nat.le_trans h.low (Nat.le_of_lt hm)
    rcases this.2 with h1 | ⟨g, cap, cur, h1, h2, h3⟩
    · exact Or.inl h1
    · exact Or.inr ⟨g, cap, cur, h1, Nat.le_trans hBm h2, h3⟩
  · rcases hk with rfl | hk
    · exact Or.inl ((h.own _).2 (Or.inl rfl))
    · exact Or.inr (hr.lt k hk).1
theorem RefAt.stored {w1 : World} (h : RefAt B G m room v L w) (hB : Below w.heap.size w w1) {L' : List (Int × ByteArray)} {v' : Value} (hr : w1.ownsRow w.heap.size 119 2 v' L'.length (thingCells L')) :
    RefLeft B G m room L' w (w1.setCell ⟨m, 1, none⟩ v') := ⟨v', _, h.stored_at hB hr⟩
theorem RefAt.same {w1 : World} (h : RefAt B G m room v L w) (hB : Below w.heap.size w w1) : RefLeft B G m room L w w1 :=
  ⟨v, G, h.later hB, Stir.of_below hB, fun _ h => Or.inl h⟩

set_option maxRecDepth 100000 in
set_option maxHeartbeats 1000000 in
theorem rdrop_any (h : RefAt B G m room v L w) (hL : L.length ≤ 1048576) (hn : (keysL L).Nodup) (k : Int) :
    Calls Tryz.prog 28 #[.pointer (some ⟨m, 0, none⟩), .int .i64 k] w fun e w' => e = .returned (.bool (getL L k).isSome) ∧ RefLeft B G m room (dropL L k) w w' := by
  have hat := at_any h hL k
  have H := Lib.hid h
  cases ha : atL L k with
  | none =>
    unfold atV at hat
    rw [ha] at hat
    obtain ⟨d1, d2⟩ := drop_at_none ha
    rw [d1, d2]
    clear h ha d1 d2
    go_enter Tryz.func28, Tryz.ntmps28
    go_wp2_with fail
    refine hat.mono ?_
    rintro e w1 ⟨rfl, rfl⟩
    go_wp2_with fail
    go_ret
    exact ⟨rfl, H.out.same (Below.refl _ _)⟩
  | some i =>
    unfold atV at hat
    rw [ha] at hat
    obtain ⟨hi, -⟩ := at_some ha
    rw [get_at_some ha, Option.isSome_some, drop_at_some hn ha]
    have hi0 : (0 : Int) ≤ (i : Int) := Int.natCast_nonneg _
    have HI := Lib.hid hi
    have hf := RefObj.fr h.obj 1
    clear h ha hn hi
    go_enter Tryz.func28, Tryz.ntmps28
    go_wp2_with fail
    refine hat.mono ?_
    rintro e w1 ⟨rfl, rfl⟩
    go_wp2_with fail
    refine (without_any H.out hL HI.out).mono ?_
    rintro e w1 ⟨g', cap', rfl, hrow, hB⟩
    have ho := keeps_of hB H.out.obj
    have c1 := RefObj.c1 ho
    have f1 := RefObj.fr ho 1
    have HR := Lib.hid hrow
    clear hrow ho hat
    go_wp2_with fail
    go_ret
    exact ⟨rfl, H.out.stored hB HR.out⟩

end
end Go.Proofs.YtmloljjllmmkoaaGreat.CI

namespace Go.Proofs.YtmloljjllmmkoaaGreat.CI
open Go.RowKit Go

theorem drop_last {A : List (Int × ByteArray)} {x : Int × ByteArray} (hn : (keysL (A ++ [x])).Nodup) : dropL (A ++ [x]) x.1 = A := by
  unfold dropL
  rw [List.filter_append, List.filter_cons_of_neg (by simp), List.filter_nil, List.append_nil]
  refine List.filter_eq_self.2 fun y hy => ?_
  unfold keysL at hn
  rw [List.map_append, List.nodup_append] at hn
  have := hn.2.2 y.1 (List.mem_map.2 ⟨y, hy, rfl⟩) x.1 (by simp)
  simpa using this
theorem nodup_put {L : List (Int × ByteArray)} (hn : (keysL L).Nodup) (k : Int) (s : ByteArray) : (keysL ((k, s) :: dropL L k)).Nodup := by
  unfold keysL at *
  rw [List.map_cons, List.nodup_cons]
  refine ⟨fun h => ?_, (List.Sublist.map _ List.filter_sublist).nodup hn⟩
  obtain ⟨x, hx, e⟩ := List.mem_map.1 h
  have := (List.mem_filter.1 hx).2
  simp at this
  exact this e
theorem dropL_le (L : List (Int × ByteArray)) (k : Int) : (dropL L k).length ≤ L.length := List.length_filter_le _ _

section
variable {w w' : World} {B m room : Nat} {G : Nat → Prop} {v : Value} {L : List (Int × ByteArray)}

theorem RefAt.heap (h : RefAt B G m room v L w) (e : w'.heap = w.heap) : RefAt B G m room v L w' :=
  ⟨by rw [e]; exact h.obj, ownsRow_of_block h.row (fun k _ => by rw [e]), h.own, h.apart, h.low⟩
theorem Stir.heap {F : Nat → Prop} {u : World} (h : Stir F w u) (e : w'.heap = u.heap) (e1 : w'.os = u.os) (e2 : w'.tape = u.tape) (e3 : w'.output = u.output) : Stir F w w' :=
  ⟨e1.trans h.os, e2.trans h.tape, e3.trans h.output, by rw [e]; exact h.size, fun k hk hn => by rw [e]; exact h.block k hk hn⟩

set_option maxRecDepth 100000 in
set_option maxHeartbeats 4000000 in
theorem rput_any (h : RefAt B G m room v L w) (hL : L.length ≤ room) (hr1 : 1 ≤ room) (hr : room ≤ 65536) (hn : (keysL L).Nodup) (k : Int) (s : ByteArray) :
    Calls Tryz.prog 29 #[.pointer (some ⟨m, 0, none⟩), .int .i64 k, .string s] w fun e w' => e = .returned (CI.putV room L k s) ∧ RefLeft B G m room (putL room L k s) w w' := by
  obtain ⟨i0, hi0, hz0, hz1, hz2⟩ := info_parts info64
  have hdrop := rdrop_any h (by omega) hn k
  have hle1 := dropL_le L k
  have HN := Lib.hid (nodup_put hn k s)
  have H := Lib.hid h
  clear h
  obtain ⟨pv, hpv⟩ : ∃ pv, CI.putV room L k s = pv := ⟨_, rfl⟩
  obtain ⟨pl, hpl⟩ : ∃ pl, putL room L k s = pl := ⟨_, rfl⟩
  rw [hpv, hpl]
  have HV : ∀ o : Option (Int × ByteArray), ((k, s) :: dropL L k)[room]? = o → pv = match o.map (·.1) with | some g => .tuple #[.int .i64 g, .bool true] | none => .tuple #[.int .i64 0, .bool false] := fun o ho => by
    rw [← hpv]; unfold CI.putV goneL; rw [ho]; rfl
  have HV := Lib.hid HV
  have HP := Lib.hid (show ((k, s) :: dropL L k).take room = pl from hpl)
  clear hpv hpl
  have HL2 := Lib.hid (show ((k, s) :: dropL L k).length = (dropL L k).length + 1 from rfl)
  clear hn
  generalize dropL L k = L1 at *
  go_enter Tryz.func29, Tryz.ntmps29
  go_wp2_with fail
  refine hdrop.mono ?_
  rintro e w1 ⟨rfl, v1, G1, h1, hS1, hG1⟩
  have H1 := Lib.hid h1
  have HS1 := Lib.hid hS1
  have HG1 := Lib.hid hG1
  have O1 := Lib.hid (World.ownsRow_lit (e := 119) (size := 2) w1 #[.int .i64 k, .string s] 1 (Nat.le_refl _) (by decide) rfl)
  have hlit := h1.later ((Below.refl _ w1).alloc (Nat.le_refl _) (.cells #[.int .i64 k, .string s] 119))
  have c1 := RefObj.c1 hlit.obj
  have HA := Lib.hid hlit
  have hsh := row_shape h1.row
  have hcase : v1 = .slice none 0 0 ∨ ∃ g cap cur, v1 = .slice (some ⟨g, 0, none⟩) L1.length cap ∧ w1.heap[g]? = some (.cells cur 119 (0, 0)) ∧ cur.toList.take (L1.length * 2) = thingCells L1 := by
    rcases h1.row.2 with ⟨e, _⟩ | ⟨g, cap, cur, e, _, e2, _, _, _, e3⟩
    · exact Or.inl e
    · exact Or.inr ⟨g, cap, cur, e, e2, e3⟩
  have HR1 := Lib.hid h1.row
  have HO1 := Lib.hid h1.obj
  have hTc : ∀ (a2 : Option Addr) (cap2 : Nat) (w2 : World), w2.ownsRow w1.heap.size 119 2 (.slice a2 (1 + L1.length) cap2) (1 + L1.length) (thingCells ((k, s) :: L1)) → w2.ownsRow w1.heap.size 119 2 (.slice a2 (1 + L1.length) cap2) ((k, s) :: L1).length (thingCells ((k, s) :: L1)) := fun a2 cap2 w2 h => by
    rw [List.length_cons, Nat.add_comm L1.length 1]; exact h
  have HTC := Lib.hid hTc
  clear h1 hS1 hG1 hlit hdrop hTc
  rcases hcase with rfl | ⟨g, cap, cur, rfl, hg, hcur⟩
  · have hl0 : L1.length = 0 := by
      rcases HR1.out.2 with ⟨_, e⟩ | ⟨_, _, _, e, _⟩
      · exact e
      · cases e
    obtain rfl : L1 = [] := List.eq_nil_of_length_eq_zero hl0
    obtain ⟨w2, hw2⟩ : ∃ w2, w1.alloc (.cells #[.int .i64 k, .string s] 119) = w2 := ⟨_, rfl⟩
    have hB2 : Below w1.heap.size w1 w2 := by rw [← hw2]; exact (Below.refl _ w1).alloc (Nat.le_refl _) _
    have O2 := Lib.hid (by rw [← hw2]; exact O1.out : w2.ownsRow w1.heap.size 119 2 (.slice (some ⟨w1.heap.size, 0, none⟩) 1 1) 1 [.int .i64 k, .string s])
    have O3 := Lib.hid (HTC.out (some ⟨w1.heap.size, 0, none⟩) 1 w2 O2.out)
    have ho := keeps_of hB2 HO1.out
    have f1 := RefObj.fr ho 1
    rw [hw2] at c1
    obtain ⟨w3, hw3⟩ : ∃ w3, w2.setCell ⟨m, 1, none⟩ (.slice (some ⟨w1.heap.size, 0, none⟩) 1 1) = w3 := ⟨_, rfl⟩
    have hU : RefAt B (fun i => i = m ∨ (Value.slice (some ⟨w1.heap.size, 0, none⟩) 1 1).ownBlock = some i) m room (.slice (some ⟨w1.heap.size, 0, none⟩) 1 1) [(k, s)] w3 ∧ Stir G1 w1 w3 ∧ ∀ i, i = m ∨ (Value.slice (some ⟨w1.heap.size, 0, none⟩) 1 1).ownBlock = some i → G1 i ∨ w1.heap.size ≤ i := by
      rw [← hw3]; exact H1.out.stored_at hB2 O3.out
    have HU := Lib.hid hU
    clear hU hB2 ho hl0 hsh
    go_wp2_with (at_builtin; refine wpList_append_own_none rfl _ _ 114 rfl w1.heap.size 119 i0 2 Tryz.underlying114 hi0 _ 1 _ rfl O2.out rfl ?_)
    have HQ : ∀ w', w'.heap = w3.heap → w'.os = w3.os → w'.tape = w3.tape → w'.output = w3.output → RefLeft B G m room ([(k, s)]) w w' := fun w' e1 e2 e3 e4 =>
      ⟨_, _, HU.out.1.heap e1, Stir.heap (HS1.out.trans (HU.out.2.1) HG1.out) e1 e2 e3 e4, fun i hi => by
        rcases HU.out.2.2 i hi with h | h
        · exact HG1.out i h
        · have := HS1.out.size; exact Or.inr (by omega)⟩
    have HQ := Lib.hid HQ
    have c0 := RefObj.c0 HU.out.1.obj
    have c1 := RefObj.c1 HU.out.1.obj
    have hle : (1 : Int) ≤ (room : Int) := by omega
    have hgn := Lib.hid (show ([(k, s)] : List (Int × ByteArray))[room]? = none from List.getElem?_eq_none (by simpa using hr1))
    have htk := Lib.hid (show ([(k, s)] : List (Int × ByteArray)).take room = [(k, s)] from List.take_of_length_le (by simpa using hr1))
    go_region
    all_goals (go_wp2_with fail; go_ret2; exact ⟨by rw [HV.out _ hgn.out]; rfl, by rw [← HP.out, htk.out]; exact HQ.out _ rfl rfl rfl rfl⟩)
  · have N1 := Lib.hid (show ∀ j u, (thingCells L1)[j]? = some u → (w1.alloc (.cells #[.int .i64 k, .string s] 119)).cell? ((⟨g, 0, none⟩ : Addr).add j) = some u by
      have := news_of_cut (w := w1.alloc (.cells #[.int .i64 k, .string s] 119)) (by rw [Below.heap_alloc _ _ _ (lt_of_heap hg)]; exact hg) 0 (L1.length * 2)
      rw [List.drop_zero, hcur] at this
      exact this)
    have hlen2 := thingCells_len L1
    have hone := thingCells_one L1
    clear hg hcur hsh
    go_wp2_with (at_builtin; refine wpList_append_own _ rfl _ _ 114 rfl w1.heap.size 119 i0 _ 2 24 Tryz.underlying114 hi0 hz0 hz1 hz2 rfl (by decide) _ 1 _ rfl O1.out ⟨g, 0, none⟩ L1.length cap (thingCells L1) rfl hlen2 N1.out hone (by unfold maxLen; omega) (by omega) (by simp) ?_; intro v2 w2 hown2 hgrow2 _; have hB2 : Below w1.heap.size w1 w2 := ((Below.refl _ w1).alloc (Nat.le_refl _) _).grown hgrow2 (by simp) (fun j e => (O1.out.lt j e).1); obtain ⟨a2, cap2, rfl⟩ := row_shape hown2; have O3 := Lib.hid (HTC.out a2 cap2 w2 hown2); have ho := keeps_of hB2 HO1.out; have c1 := RefObj.c1 ho; have f1 := RefObj.fr ho 1; obtain ⟨w3, hw3⟩ : ∃ w3, w2.setCell ⟨m, 1, none⟩ (.slice a2 (1 + L1.length) cap2) = w3 := ⟨_, rfl⟩; have hU := H1.out.stored_at hB2 O3.out; rw [hw3] at hU; have HU := Lib.hid hU; have HB2 := Lib.hid hB2; clear hU hB2 ho hown2 hgrow2)
    have HQ : ∀ w', w'.heap = w3.heap → w'.os = w3.os → w'.tape = w3.tape → w'.output = w3.output → RefLeft B G m room ((k, s) :: L1) w w' := fun w' e1 e2 e3 e4 =>
      ⟨_, _, HU.out.1.heap e1, Stir.heap (HS1.out.trans (HU.out.2.1) HG1.out) e1 e2 e3 e4, fun i hi => by
        rcases HU.out.2.2 i hi with h | h
        · exact HG1.out i h
        · have := HS1.out.size; exact Or.inr (by omega)⟩
    have HQ := Lib.hid HQ
    have c0 := RefObj.c0 HU.out.1.obj
    have c1 := RefObj.c1 HU.out.1.obj
    by_cases hfit : 1 + L1.length ≤ room
    · have hgn := Lib.hid (show ((k, s) :: L1)[room]? = none from List.getElem?_eq_none (by rw [List.length_cons]; omega))
      have htk := Lib.hid (show ((k, s) :: L1).take room = (k, s) :: L1 from List.take_of_length_le (by rw [List.length_cons]; omega))
      have hfi : 1 + (L1.length : Int) ≤ (room : Int) := by omega
      go_region
      all_goals (go_wp2_with fail; go_ret2; exact ⟨by rw [HV.out _ hgn.out]; rfl, by rw [← HP.out, htk.out]; exact HQ.out _ rfl rfl rfl rfl⟩)
    · have hfi : (room : Int) < 1 + (L1.length : Int) := by omega
      have hfi2 : room < 1 + L1.length := by omega
      have hrl : room < ((k, s) :: L1).length := by rw [List.length_cons]; omega
      obtain ⟨g3, cap3, e3, -, -, -, -, h4, -⟩ := HU.out.1.thing hrl
      obtain ⟨z, hz⟩ : ∃ z, ((k, s) :: L1)[room] = z := ⟨_, rfl⟩
      rw [hz] at h4
      have hgn := Lib.hid (show ((k, s) :: L1)[room]? = some z by rw [List.getElem?_eq_getElem hrl, hz])
      have hLz : (k, s) :: L1 = ((k, s) :: L1).take room ++ [z] := by
        conv => lhs; rw [← List.take_append_drop room ((k, s) :: L1)]
        congr 1
        rw [List.drop_eq_getElem_cons hrl, hz, List.drop_of_length_le (by rw [List.length_cons]; omega)]
      have hdl : dropL ((k, s) :: L1) z.1 = ((k, s) :: L1).take room := by
        have hn2 := HN.out
        rw [hLz] at hn2
        have := drop_last hn2
        rw [← hLz] at this
        exact this
      have HDL := Lib.hid hdl
      obtain ⟨rfl, rfl⟩ : a2 = some ⟨g3, 0, none⟩ ∧ cap2 = cap3 := by simp at e3; exact ⟨e3.1, e3.2.2⟩
      clear hdl hLz hz e3 hrl
      go_region
      all_goals (
        go_wp2_with fail
        go_region
        all_goals (
          go_wp2_with fail
          refine (rdrop_any (RefAt.heap (w' := w3.drew.drew) HU.out.1 rfl) (by rw [List.length_cons]; omega) HN.out z.1).mono ?_
          rintro e w4 ⟨rfl, v4, G4, h4, hS4, hG4⟩
          have H4 := Lib.hid h4
          have HS4 := Lib.hid hS4
          have HG4 := Lib.hid hG4
          clear h4 hS4 hG4
          go_wp2_with fail
          go_ret2
          refine ⟨by rw [HV.out _ hgn.out]; rfl, ?_⟩
          rw [← HP.out, ← HDL.out]
          have hsub : ∀ i, (i = m ∨ (Value.slice (some ⟨g3, 0, none⟩) (1 + L1.length) cap2).ownBlock = some i) → G i ∨ w.heap.size ≤ i := fun i hi => by
            rcases HU.out.2.2 i hi with h | h
            · exact HG1.out i h
            · have := HS1.out.size; exact Or.inr (by omega)
          refine ⟨v4, G4, H4.out, (HS1.out.trans HU.out.2.1 HG1.out).drew.drew.trans HS4.out hsub, fun i hi => ?_⟩
          rcases HG4.out i hi with h | h
          · exact hsub i h
          · have h1 := HS1.out.size
            have h2 := HU.out.2.1.size
            have h3 : w3.heap.size ≤ i := h
            exact Or.inr (by omega)))
end
end Go.Proofs.YtmloljjllmmkoaaGreat.CI

namespace Go.Proofs.YtmloljjllmmkoaaGreat.CI
open Go.RowKit Go

/-- what a Get answers -/
def getV (L : List (Int × ByteArray)) (k : Int) : Value := match getL L k with | some s => .tuple #[.string s, .bool true] | none => .tuple #[.string ⟨#[]⟩, .bool false]
theorem take_drop_cells {L : List (Int × ByteArray)} {i : Nat} (hi : i < L.length) : thingCells ((L[i].1, L[i].2) :: L.eraseIdx i) = [.int .i64 L[i].1, .string L[i].2] ++ thingCells (L.eraseIdx i) := rfl

theorem row_low {w : World} {base base' : Nat} {e : TypeId} {size : Nat} {v : Value} {n : Nat} {xs : List Value} (h : w.ownsRow base e size v n xs) (hb : base' ≤ base) : w.ownsRow base' e size v n xs := by
  refine ⟨h.1, ?_⟩
  rcases h.2 with h1 | ⟨g, cap, cur, h1, h2, h3⟩
  · exact Or.inl h1
  · exact Or.inr ⟨g, cap, cur, h1, Nat.le_trans hb h2, h3⟩
section
variable {w w' : World} {B m room : Nat} {G : Nat → Prop} {v : Value} {L : List (Int × ByteArray)}

set_option maxRecDepth 100000 in
set_option maxHeartbeats 4000000 in
theorem rget_any (h : RefAt B G m room v L w) (hL : L.length ≤ 65536) (hn : (keysL L).Nodup) (k : Int) :
    Calls Tryz.prog 123 #[.pointer (some ⟨m, 0, none⟩), .int .i64 k] w fun e w' => e = .returned (getV L k) ∧ RefLeft B G m room (useL L k) w w' := by
  have hat := at_any h (by omega) k
  have H := Lib.hid h
  unfold getV useL
  cases ha : atL L k with
  | none =>
    unfold atV at hat
    rw [ha] at hat
    obtain ⟨d1, d2⟩ := drop_at_none ha
    rw [d2]
    clear h ha d1 d2
    go_enter Tryz.func123, Tryz.ntmps123
    go_wp2_with fail
    refine hat.mono ?_
    rintro e w1 ⟨rfl, rfl⟩
    go_wp2_with fail
    go_ret2
    exact ⟨rfl, H.out.same (Below.refl _ _)⟩
  | some i =>
    unfold atV at hat
    rw [ha] at hat
    obtain ⟨hi, hk⟩ := at_some ha
    rw [get_at_some ha, drop_at_some hn ha]
    obtain ⟨i0, hi0, hz0, hz1, hz2⟩ := info_parts info64
    obtain ⟨g, cap, hv, hnc, hcm, hg, -, h4, h5⟩ := h.thing hi
    subst hv
    have hrow := take_drop_cells hi
    have hel : (L.eraseIdx i).length + 1 = L.length := by rw [List.length_eraseIdx_of_lt hi]; omega
    obtain ⟨s, hs⟩ : ∃ s, L[i].2 = s := ⟨_, rfl⟩
    rw [hk] at h4 hrow
    rw [hs] at h5 hrow ⊢
    have hki : (i : Int) < (L.length : Int) := by omega
    have hi0' : (0 : Int) ≤ (i : Int) := Int.natCast_nonneg _
    have c1 := RefObj.c1 h.obj
    have HI := Lib.hid hi
    have HE := Lib.hid hel
    have HRow := Lib.hid hrow
    clear hk hs hrow hel ha hn h hi
    go_enter Tryz.func123, Tryz.ntmps123
    go_wp2_with fail
    refine hat.mono ?_
    rintro e w1 ⟨rfl, rfl⟩
    go_wp2_with fail
    have HA1 := Lib.hid (H.out.later (w' := (w.alloc (.cells #[.int .i64 k, .string s] 119)).drew) (((Below.refl _ w).alloc (Nat.le_refl _) _).drew))
    have HA2 := Lib.hid (H.out.later (w' := ((w.alloc (.cells #[.int .i64 k, .string s] 119)).alloc (.cells #[.int .i64 k, .string s] 119)).drew) ((((Below.refl _ w).alloc (Nat.le_refl _) _).alloc (by simp) _).drew))
    have OA := Lib.hid (show (((w.alloc (.cells #[.int .i64 k, .string s] 119)).alloc (.cells #[.int .i64 k, .string s] 119)).drew).ownsRow (w.heap.size + 1) 119 2 (.slice (some ⟨w.heap.size + 1, 0, none⟩) 1 1) 1 [.int .i64 k, .string s] from by
      have := World.ownsRow_lit (base := w.heap.size + 1) (e := 119) (size := 2) (w.alloc (.cells #[.int .i64 k, .string s] 119)) #[.int .i64 k, .string s] 1 (by simp) (by decide) rfl
      have e : (w.alloc (.cells #[.int .i64 k, .string s] 119)).heap.size = w.heap.size + 1 := by simp
      rw [e] at this
      exact this)
    have OQ := Lib.hid (show (w.alloc (.cells #[.int .i64 k, .string s] 119)).drew.heap[w.heap.size]? = some (.cells #[.int .i64 k, .string s] 119) from heap_alloc_new w _)
    have hBA1 : Below w.heap.size w (w.alloc (.cells #[.int .i64 k, .string s] 119)).drew := ((Below.refl _ w).alloc (Nat.le_refl _) _).drew
    have hBA2 : Below w.heap.size w ((w.alloc (.cells #[.int .i64 k, .string s] 119)).alloc (.cells #[.int .i64 k, .string s] 119)).drew := (((Below.refl _ w).alloc (Nat.le_refl _) _).alloc (by simp) _).drew
    have HBA1 := Lib.hid hBA1
    have HBA2 := Lib.hid hBA2
    have HBX1 := Lib.hid (show Below (w.heap.size + 1) (w.alloc (.cells #[.int .i64 k, .string s] 119)) (w.alloc (.cells #[.int .i64 k, .string s] 119)).drew from (Below.refl _ _).drew)
    have HBX2 := Lib.hid (show Below (w.heap.size + 1) (w.alloc (.cells #[.int .i64 k, .string s] 119)) ((w.alloc (.cells #[.int .i64 k, .string s] 119)).alloc (.cells #[.int .i64 k, .string s] 119)).drew from ((Below.refl _ _).alloc (by simp) _).drew)
    have OX := Lib.hid (show (w.alloc (.cells #[.int .i64 k, .string s] 119)).heap[w.heap.size]? = some (.cells #[.int .i64 k, .string s] 119) from heap_alloc_new w _)
    have hmn : w.heap.size ≠ m := by have := lt_of_heap H.out.obj; omega
    have hone := thingCells_one (L.eraseIdx i)
    have hlen := thingCells_len (L.eraseIdx i)
    have hel2 : (L.eraseIdx i).length ≤ 65536 := by have := HE.out; omega
    clear hat hnc hcm hg h4 h5 c1 hBA1 hBA2
    go_region_law (first
      | (go_simp; go_at_call 62; refine (without_any HA2.out (by omega) HI.out).mono ?_; rintro e w1 ⟨g1, cap1, rfl, hrow1, hB1⟩; have hownA := ownsRow_of_block OA.out (fun j e => hB1.block j (OA.out.lt j e).2); have hBw := Lib.hid (HBA2.out.trans (hB1.mono (by simp; omega))); have hBx := Lib.hid (HBX2.out.trans (hB1.mono (by simp))))
      | (go_simp; go_at_call 62; refine (without_any HA1.out (by omega) HI.out).mono ?_; rintro e w1 ⟨g1, cap1, rfl, hrow1, hB1⟩; have hq := keeps_of hB1 OQ.out; have q0 : w1.cell? ⟨w.heap.size, 0, none⟩ = some (.int .i64 k) := (by simp [World.cell?, hq]); have q1 : w1.cell? ⟨w.heap.size, 1, none⟩ = some (.string s) := (by simp [World.cell?, hq]); clear hq; have hBw := Lib.hid (HBA1.out.trans (hB1.mono (by simp))); have hBx := Lib.hid (HBX1.out.trans (hB1.mono (by simp))); have hownB := World.ownsRow_lit (base := w.heap.size + 1) (e := 119) (size := 2) w1 #[.int .i64 k, .string s] 1 (Nat.le_trans (by simp) hBx.out.size) (by decide) rfl)
      | (refine step_append_own _ (by rfl) (.tmp 22) (.tmp 25) _ (by rfl) (w.heap.size + 1) 119 i0 _ 2 24 Tryz.underlying114 hi0 hz0 hz1 hz2 rfl (by omega) _ 1 _ (by rfl) hownA ⟨g1, 0, none⟩ (L.eraseIdx i).length cap1 (thingCells (L.eraseIdx i)) (by rfl) hlen (hrow1.cells rfl) hone (by unfold maxLen; omega) (by omega) (Nat.le_trans (by simp) hBx.out.size) ?_; intro v3 w3 hown3 hgrow3 _ _; have hB3 : Below w.heap.size w w3 := (hBw.out).grown hgrow3 (hBw.out.size) (fun j e => by (have := (hownA.lt j e).1; omega)); have hX3 : Below (w.heap.size + 1) (w.alloc (.cells #[.int .i64 k, .string s] 119)) w3 := (hBx.out).grown hgrow3 (Nat.le_trans (by simp) hBx.out.size) (fun j e => (hownA.lt j e).1); obtain ⟨a3, cap3, rfl⟩ := row_shape hown3; have ho := keeps_of hB3 H.out.obj; have c1 := RefObj.c1 ho; have f1 := RefObj.fr ho 1; have q1 : w3.cell? ⟨w.heap.size, 1, none⟩ = some (.string s) := (by simp [World.cell?, (hX3.block _ (by simp)).trans OX.out]); have HO3 := Lib.hid (row_low hown3 (Nat.le_succ _)); have HB3 := Lib.hid hB3; clear hown3 hgrow3 hB3 ho hX3)
      | (refine step_append_own _ (by rfl) (.tmp 22) (.tmp 25) _ (by rfl) (w.heap.size + 1) 119 i0 _ 2 24 Tryz.underlying114 hi0 hz0 hz1 hz2 rfl (by omega) _ 1 _ (by rfl) hownB ⟨g1, 0, none⟩ (L.eraseIdx i).length cap1 (thingCells (L.eraseIdx i)) (by rfl) hlen ((hrow1.alloc _).cells rfl) hone (by unfold maxLen; omega) (by omega) (Nat.le_trans (Nat.le_trans (by simp) hBx.out.size) (by simp)) ?_; intro v3 w3 hown3 hgrow3 _ _; have hB3 : Below w.heap.size w w3 := (hBw.out.alloc hBw.out.size _).grown hgrow3 (Nat.le_trans hBw.out.size (by simp)) (fun j e => by (have := (hownB.lt j e).1; omega)); have hX3 : Below (w.heap.size + 1) (w.alloc (.cells #[.int .i64 k, .string s] 119)) w3 := (hBx.out.alloc (Nat.le_trans (by simp) hBx.out.size) _).grown hgrow3 (Nat.le_trans (Nat.le_trans (by simp) hBx.out.size) (by simp)) (fun j e => (hownB.lt j e).1); obtain ⟨a3, cap3, rfl⟩ := row_shape hown3; have ho := keeps_of hB3 H.out.obj; have c1 := RefObj.c1 ho; have f1 := RefObj.fr ho 1; have q1 : w3.cell? ⟨w.heap.size, 1, none⟩ = some (.string s) := (by simp [World.cell?, (hX3.block _ (by simp)).trans OX.out]); have HO3 := Lib.hid (row_low hown3 (Nat.le_succ _)); have HB3 := Lib.hid hB3; clear hown3 hgrow3 hB3 ho hX3))
    all_goals (
      go_wp2_with fail
      go_ret2
      refine ⟨rfl, H.out.stored HB3.out (L' := (k, s) :: L.eraseIdx i) (v' := .slice a3 (1 + (L.eraseIdx i).length) cap3) ?_⟩
      have := HO3.out
      rw [← HRow.out] at this
      rw [List.length_cons, Nat.add_comm (L.eraseIdx i).length 1]
      exact this)
end
end Go.Proofs.YtmloljjllmmkoaaGreat.CI

